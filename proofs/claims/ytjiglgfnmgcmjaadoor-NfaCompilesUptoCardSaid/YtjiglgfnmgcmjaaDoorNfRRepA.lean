/- What the reference's repeat does, with no end. -/
import Derived.Test.YtjiglgfnmgcmjaaDoorNfRRp
import Derived.Deep.AppendLies
import Derived.Deep.RegionWith
namespace Go.Proofs.YtjiglgfnmgcmjaaDoor
open Go Go.RowKit

set_option maxRecDepth 100000 in
set_option maxHeartbeats 8000000 in
theorem rrep_star (T : Nt.NT) (hk : T.k = 5) (m : Nat) (hm : T.mn = (m : Int)) (hm5 : m ≤ 255) (hx : T.mx = -1) (_h1 : T.kids.length = 1) (h0 : 0 < T.kids.length) (hrr : (∀ p f, Nt.rndR (T.kids[0]) p f = Nt.rnd T p f) ∧ Nt.rlnR (T.kids[0]) = Nt.rln T) (HK : Nt.RayC (T.kids[0])) : Nt.RepC T := by
  intro a cap lb L gr sl v f w h hN hr hf
  have hlt := h.lt
  have N0 := Nt.node_new w T a cap
  have hB0 : Below w.heap.size w (w.alloc (.cells (Nt.ndA T a cap) 28)) := (Below.refl w.heap.size w).alloc (Nat.le_refl _) _
  have hs0 : (w.alloc (.cells (Nt.ndA T a cap) 28)).heap.size = w.heap.size + 1 := by simp
  obtain ⟨W, hW⟩ : ∃ W, W = w.alloc (.cells (Nt.ndA T a cap) 28) := ⟨_, rfl⟩
  rw [← hW] at N0 hB0 hs0
  have HR0 : Hid _ := h.under hB0
  have HZ0 : Hid _ := Nt.Rz.of_below (lb := lb) v hB0
  have HD0 : Hid _ := hN.under (hB0.mono (Nat.le_of_lt hlt))
  have HN0 : Hid _ := N0
  have Ho : Hid _ := h.own
  have Hr : Hid _ := hr
  have hfx : f + 1 + Nt.cnt (T.kids[0]) ≤ 16384 := by have := Nt.cntL_kid h0; omega
  have HRd : Hid (∀ (a' : Option Addr) (cap' : Nat) (L : List Nt.Ins) (sl : Int) (v : Value) (w : World), Nt.Rg w lb L gr sl v → Nt.Nd w (· < lb) (T.kids[0]) a' cap' → L.length + Nt.rln T ≤ 16384 →
    Calls Tryd.prog 80 #[.pointer (some ⟨lb, 0, none⟩), Nt.ndV (T.kids[0]) a' cap', .int .i64 (f : Int)] w fun e w' => (∃ u, e = .returned u) ∧ ∃ v', Nt.Rg w' lb (L ++ Nt.rnd T L.length f) gr (Nt.sloF sl (Nt.rnd T L.length f)) v' ∧ Nt.Rz lb v v' w w') := fun a' cap' L sl v w h1 h2 h3 => by
    have := rround_any (T.kids[0]) HK a' cap' lb L gr sl v f (f : Int) rfl w h1 h2 (by rw [hrr.2]; exact h3) (by omega)
    rw [hrr.1] at this
    exact this
  have HFr : Hid (∀ (a' : Option Addr) (cap' : Nat) (L : List Nt.Ins) (sl : Int) (v : Value) (w : World), Nt.Rg w lb L gr sl v → Nt.Nd w (· < lb) (T.kids[0]) a' cap' → L.length + (Nt.rln T + 2) ≤ 16384 →
    Calls Tryd.prog 81 #[.pointer (some ⟨lb, 0, none⟩), Nt.ndV (T.kids[0]) a' cap', .int .i64 (f : Int)] w fun e w' => (∃ u, e = .returned u) ∧ ∃ v', Nt.Rg w' lb (L ++ Nt.freT T L.length f) gr (Nt.sloF sl (Nt.freT T L.length f)) v' ∧ Nt.Rz lb v v' w w') := fun a' cap' L sl v w h1 h2 h3 => by
    have := rfree_any (T.kids[0]) HK a' cap' lb L gr sl v f w h1 h2 (by rw [hrr.2]; exact h3) hfx
    rw [Nt.freR, hrr.1] at this
    exact this
  have Hbox : Hid (∀ (vx : Value) (wx : World), Nt.Rz lb v vx W wx → some w.heap.size ≠ vx.ownBlock) := fun vx wx z e => by
    rcases z.row _ e.symm with h | h
    · have := (Ho.out _ h).2; omega
    · omega
  have HMn : Hid _ := hm
  have HMx : Hid _ := hx
  have HC : Hid (Nt.code T L.length f = Nt.mustC m (Nt.rln T) (Nt.rnd T) L.length f ++ (Nt.fre T (L.length + Nt.sz T) (L.length + m * Nt.rln T) f ++ [Nt.iJump (L.length + m * Nt.rln T)])) := by
    show _ = _
    rw [Nt.code_rep T hk, hm, hx]; rfl
  have Hz : Hid (L.length + Nt.sz T = (L.length + m * Nt.rln T) + (Nt.rln T + 4)) := by
    show _ = _
    rw [← Nt.code_len T L.length f, HC.out]; simp [Nt.musts_len, Nt.fre_len]; omega
  have Hmst : Hid (∀ i, i < m → i * Nt.rln T + Nt.rln T ≤ Nt.sz T) := fun i hi => by
    have h2 : (i + 1) * Nt.rln T ≤ m * Nt.rln T := Nat.mul_le_mul_right _ hi
    rw [Nat.succ_mul] at h2
    have := Hz.out
    omega
  obtain ⟨i1, hi1, hy0, hy1, hy2⟩ := info_parts Tryd.infoInt
  simp only [Nt.ndV, Nt.ndA] at hW HRd HFr ⊢
  clear N0 hB0 hN h hr hf hk HK hrr _h1 hm hx hfx
  go_enter Tryd.func64, Tryd.ntmps64
  go_wp2_with fail
  rw [← hW]
  clear hW
  go_loopw [6] (fun iv wr => ∃ (i : Nat) (vi : Value), i ≤ m ∧ iv = .int .i64 (i : Int) ∧ Nt.Rg wr lb (L ++ Nt.mustC i (Nt.rln T) (Nt.rnd T) L.length f) gr (Nt.sloF sl (Nt.mustC i (Nt.rln T) (Nt.rnd T) L.length f)) vi ∧ Nt.Rz lb v vi W wr ∧ Nt.NodeAt wr w.heap.size T a cap ∧ Nt.Nd wr (· < lb) T a cap) (fun iv _ => m - (intOf iv).toNat)
  case atStart => exact ⟨0, v, by omega, rfl, by rw [Nt.mustC, List.append_nil]; exact HR0.out, Nt.Rz.refl _ _ _, HN0.out, HD0.out⟩
  case round =>
    clear HR0 HN0 HD0
    obtain ⟨i, vi, hi, rfl, Ri, Zi, NA, ND⟩ := hrel
    obtain ⟨q0, q1, q2, q3, q4, q5, q6, q7, q8⟩ := NA.nine
    rw [HMn.out] at q5
    rw [HMx.out] at q6
    have hsi := Zi.size
    by_cases hlt' : i < m
    · obtain ⟨kb, ko, a', cap', rfl, hkb, h9, hkd⟩ := ND.kid h0
      rw [Nat.zero_mul, Nat.add_zero] at h9
      obtain ⟨r0, r1, r2, r3, r4, r5, r6, r7, r8⟩ := h9
      have hlen : (L ++ Nt.mustC i (Nt.rln T) (Nt.rnd T) L.length f).length = L.length + i * Nt.rln T := by rw [List.length_append, Nt.musts_len]
      have HI : Hid _ := HRd.out a' cap' _ _ vi wr Ri hkd (by rw [hlen]; have h1 := Hmst.out i hlt'; have := Hr.out; omega)
      have HT : Hid _ := Nt.mustC_snoc (Nt.rln T) (Nt.rnd T) i L.length f
      have Hlen : Hid _ := hlen
      have HRi : Hid _ := Ri
      have HZi : Hid _ := Zi
      have HNA : Hid _ := NA
      have HND : Hid _ := ND
      clear hkd hlen Ri Zi NA ND
      go_wp2_with fail
      refine Calls.mono HI.out ?_
      rintro e w2 ⟨⟨u, rfl⟩, v2, R2, Z2⟩
      have NA2 := Nt.NodeAt.rz HNA.out Z2 (by omega) (by omega) (Hbox.out _ _ HZi.out)
      have ND2 := Nt.Nd.rz HND.out Z2 HRi.out.own (by omega)
      have R3 : Nt.Rg w2 lb (L ++ Nt.mustC (i + 1) (Nt.rln T) (Nt.rnd T) L.length f) gr (Nt.sloF sl (Nt.mustC (i + 1) (Nt.rln T) (Nt.rnd T) L.length f)) v2 := by
        rw [HT.out, ← List.append_assoc, Nt.sloF_app, ← Hlen.out]; exact R2
      have Z3 := HZi.out.trans Z2
      clear HI R2 Z2 HRi HZi HNA HND q0 q1 q2 q3 q4 q5 q6 q7 q8 r0 r1 r2 r3 r4 r5 r6 r7 r8
      go_wp2_with fail
      go_roundw
      case rel => exact ⟨i + 1, v2, by omega, by go_num, R3, Z3, NA2, ND2⟩
      case measure => simp [intOf]; omega
    · obtain rfl : i = m := by omega
      obtain ⟨LL, hLL⟩ : ∃ LL, L ++ Nt.mustC i (Nt.rln T) (Nt.rnd T) L.length f = LL := ⟨_, rfl⟩
      obtain ⟨s, hs⟩ : ∃ s, Nt.sloF sl (Nt.mustC i (Nt.rln T) (Nt.rnd T) L.length f) = s := ⟨_, rfl⟩
      rw [hLL, hs] at Ri
      obtain ⟨p, hp⟩ : ∃ p, L.length + i * Nt.rln T = p := ⟨_, rfl⟩
      have hp2 : LL.length = p := by rw [← hLL, List.length_append, Nt.musts_len, hp]
      rw [hp] at HC Hz
      have HLL : Hid _ := hLL
      have Hs : Hid _ := hs
      have Hp2 : Hid _ := hp2
      clear hp
      have hroom : p + Nt.rln T + 4 ≤ 16384 := by have h3 := Hr.out; have h4 := Hz.out; omega
      have HP1 : Hid _ := rput_split0 lb LL gr s vi wr Ri (by omega)
      rw [hp2] at HP1
      have HZi : Hid _ := Zi
      have HNA : Hid _ := NA
      have HND : Hid _ := ND
      have HRo : Hid _ := Ri.own
      clear hLL hs hp2 Ri Zi NA ND
      go_wp2_with fail
      refine Calls.mono HP1.out ?_
      rintro e w1 ⟨rfl, v1, R1, Z1⟩
      have hs1 := Z1.size
      have HZ1 : Hid _ := HZi.out.trans Z1
      have HNA1 : Hid _ := Nt.NodeAt.rz HNA.out Z1 (by omega) (by omega) (Hbox.out _ _ HZi.out)
      have HND1 : Hid _ := Nt.Nd.rz HND.out Z1 HRo.out (by omega)
      have HR1 : Hid _ := R1
      have JR1 : Nt.Jr w1 (w.heap.size + 1) v1 (.slice none 0 0) [] := Nt.Jr.empty _ _ _
      clear R1 Z1 HP1 HZi HNA HND HRo q0 q1 q2 q3 q4 q5 q6 q7 q8
      go_wp2_with (at_builtin; refine Nt.wpList_append_far _ rfl _ _ 45 rfl (w.heap.size + 1) 3 i1 (.int .i64 0) 1 8 Tryd.underlying45 hi1 hy0 hy1 hy2 rfl (by decide) (.slice none 0 0) 0 [] rfl (JR1.row.alloc _) ⟨w1.heap.size, 0, none⟩ 1 1 [.int .i64 (p : Int)] rfl ?c1 ?c2 ?c3 ?c4 ?c5 ?c6 ?_)
      case c1 => rfl
      case c2 => exact Nt.one_new _ _ _
      case c3 => exact fun u hu => by simp only [List.mem_singleton] at hu; subst hu; rfl
      case c4 => unfold maxLen; omega
      case c5 => omega
      case c6 => simp; omega
      intro jv4 w4 hown4 hgr4 _ hat4
      have hBA : Below w1.heap.size w1 (w1.alloc (.cells #[.int .i64 (p : Int)] 3)) := (Below.refl w1.heap.size w1).alloc (Nat.le_refl _) _
      have hsA : (w1.alloc (.cells #[.int .i64 (p : Int)] 3)).heap.size = w1.heap.size + 1 := by simp
      have RA := HR1.out.under hBA
      have JA := JR1.alloc (.cells #[.int .i64 (p : Int)] 3)
      have R4 := RA.grown JA (by omega) hgr4
      have JR4 := Nt.Jr.snoc (q := p) JA RA hown4 (fun g hg => by
        rcases hat4 with h | h
        · rw [hg] at h; cases h
        · rw [hg] at h; injection h with h; exact .inr (by omega))
      have Z4 := (HZ1.out.far hBA).grown hgr4 (fun g hg => by cases hg)
      have hs4 : w1.heap.size + 1 ≤ w4.heap.size := by have := hgr4.size; omega
      have hky : ∀ k, k < w.heap.size + 1 → w4.heap[k]? = w1.heap[k]? := fun k hk => by
        rw [hgr4.block k (by omega) (fun e => by cases e), heap_alloc_old w1 _ (show k < w1.heap.size by omega)]
      have NA4 : Nt.NodeAt w4 w.heap.size T a cap := (hky _ (by omega)).trans HNA1.out
      have ND4 := HND1.out.same (w' := w4) (fun k (hk : k < lb) => hky k (by omega)) (fun _ h => h)
      obtain ⟨q0, q1, q2, q3, q4, q5, q6, q7, q8⟩ := NA4.nine
      rw [HMn.out] at q5
      rw [HMx.out] at q6
      obtain ⟨kb, ko, a', cap', rfl, hkb, h9, hkd⟩ := ND4.kid h0
      rw [Nat.zero_mul, Nat.add_zero] at h9
      obtain ⟨r0, r1, r2, r3, r4, r5, r6, r7, r8⟩ := h9
      have hl1 : (LL ++ [Nt.iSplit 0]).length = p + 1 := by rw [List.length_append, Hp2.out]; rfl
      have HI : Hid _ := HFr.out a' cap' (LL ++ [Nt.iSplit 0]) s v1 w4 R4 hkd (by omega)
      rw [hl1] at HI
      have HNA4 : Hid _ := NA4
      have HJR4 : Hid _ := JR4
      have HZ4 : Hid _ := Z4
      have Hl1 : Hid _ := hl1
      clear hBA hsA RA JA R4 JR4 Z4 hky NA4 ND4 hkd JR1 HR1 HZ1 HNA1 HND1 hown4 hgr4 hat4 hl1
      go_wp2_with fail
      refine Calls.mono HI.out ?_
      rintro e w5 ⟨⟨u, rfl⟩, v5, R5, Z5⟩
      have hs5 := Z5.size
      obtain ⟨M0, hM0⟩ : ∃ M0, LL ++ [Nt.iSplit 0] ++ Nt.freT T (p + 1) f = M0 := ⟨_, rfl⟩
      have hM0l : M0.length = p + 1 + (Nt.rln T + 2) := by rw [← hM0, List.length_append, Nt.freT_len, Hl1.out]
      rw [hM0] at R5
      have HP5 : Hid _ := rput_jump lb M0 p gr _ v5 w5 R5 (by omega)
      have HNA5 : Hid _ := Nt.NodeAt.rz HNA4.out Z5 (by omega) (by omega) (Hbox.out _ _ HZ4.out)
      have HJR5 : Hid _ := Nt.Jr.rz HJR4.out Z5 (by omega)
      have HZ5 : Hid _ := HZ4.out.trans Z5
      have HM0 : Hid _ := hM0
      have HM0l : Hid _ := hM0l
      clear R5 Z5 HI HNA4 HJR4 HZ4 hM0 hM0l q0 q1 q2 q3 q4 q5 q6 q7 q8 r0 r1 r2 r3 r4 r5 r6 r7 r8
      go_wp2_with fail
      refine Calls.mono HP5.out ?_
      rintro e wE ⟨rfl, vE, RE, ZE⟩
      have hsE := ZE.size
      have HNE : Hid _ := Nt.NodeAt.rz HNA5.out ZE (by omega) (by omega) (Hbox.out _ _ HZ5.out)
      have JE := Nt.Jr.rz HJR5.out ZE (by omega)
      have HZE : Hid _ := HZ5.out.trans ZE
      obtain ⟨M, hM⟩ : ∃ M, M0 ++ [Nt.iJump p] = M := ⟨_, rfl⟩
      obtain ⟨N, hN⟩ : ∃ N, L.length + Nt.sz T = N := ⟨_, rfl⟩
      have hMl : M.length = N := by rw [← hM, List.length_append, HM0l.out, ← hN, Hz.out]; simp; omega
      rw [hM] at RE
      have hN5 : p < N := by rw [← hN, Hz.out]; omega
      have hN6 : N ≤ 16384 := by rw [← hN]; exact Hr.out
      obtain ⟨s2, hs2e⟩ : ∃ s2, Nt.sloF s (Nt.freT T (p + 1) f) = s2 := ⟨_, rfl⟩
      rw [hs2e] at RE
      obtain ⟨J, hJ⟩ : ∃ J, ([] : List Nat) ++ [p] = J := ⟨_, rfl⟩
      rw [hJ] at JE
      have hJl : J.length ≤ 16384 := by rw [← hJ]; simp
      obtain ⟨ja, jc, rfl⟩ := JE.form
      obtain ⟨g, cE, hv⟩ := RE.form' (by omega)
      rw [hMl] at hv
      rw [hN] at HC
      have HJlt : Hid (∀ q ∈ J, q < N) := fun q hq => by rw [← hJ] at hq; simp at hq; omega
      have HFil : Hid (Nt.fills M J N = L ++ (Nt.mustC i (Nt.rln T) (Nt.rnd T) L.length f ++ (Nt.fre T N p f ++ [Nt.iJump p]))) := by
        show _ = _
        have e1 : M = LL ++ Nt.iSplit 0 :: (Nt.freT T (p + 1) f ++ [Nt.iJump p]) := by rw [← hM, ← HM0.out]; simp
        rw [← hJ]
        show Nt.setTo M p N = _
        rw [e1, Nt.setTo_at N Hp2.out.symm, Nt.fre_is, ← HLL.out]
        simp; rfl
      have HSlo : Hid (Nt.sloF sl (Nt.mustC i (Nt.rln T) (Nt.rnd T) L.length f ++ (Nt.fre T N p f ++ [Nt.iJump p])) = s2) := by
        show _ = _
        rw [Nt.sloF_app, Hs.out, Nt.sloF_app, Nt.fre_is, Nt.sloF_split, hs2e, Nt.sloF_jump]
      have HRE : Hid _ := RE
      have HJE : Hid _ := JE
      have HMl : Hid _ := hMl
      have Hv : Hid _ := hv
      obtain ⟨q0, q1, q2, q3, q4, q5, q6, q7, q8⟩ := Nt.NodeAt.nine HNE.out
      rw [HMn.out] at q5
      rw [HMx.out] at q6
      clear RE ZE JE hM hMl hN hs2e hJ hv HP5 HNA5 HJR5 HZ5
      go_wp2_with fail
      go_loopw [7, 9] (fun jv iv wz => .slice ja J.length jc = jv ∧ iv = .int .i64 (i : Int) ∧ wE = wz) (fun _ _ _ => 0)
      case atStart => exact ⟨rfl, rfl, rfl⟩
      case round =>
      obtain ⟨rfl, rfl, rfl⟩ := hrel
      go_wp2_with fail
      go_loopw [10] (fun iv wz => ∃ k : Nat, k ≤ J.length ∧ iv = .int .i64 (k : Int) ∧ Nt.Rg wz lb (Nt.fills M (J.take k) N) gr s2 vE ∧ Nt.Rz lb vE vE wE wz ∧ Nt.Jr wz (w.heap.size + 1) vE (.slice ja J.length jc) J) (fun iv _ => J.length - (intOf iv).toNat)
      case atStart => exact ⟨0, by omega, rfl, HRE.out, Nt.Rz.refl _ _ _, HJE.out⟩
      case round =>
        clear HRE HJE
        obtain ⟨k, hk', rfl, Rk, Zk, Jk⟩ := hrel
        by_cases hkl : k < J.length
        · obtain ⟨jg, rfl, jc0⟩ := Jk.at hkl
          have hq := HJlt.out _ (List.getElem_mem hkl)
          have HT : Hid _ := Nt.fills_take hkl M N
          obtain ⟨q, hqe⟩ : ∃ q, J[k] = q := ⟨_, rfl⟩
          rw [hqe] at jc0 hq HT
          have hln : (Nt.fills M (J.take k) N).length = N := by rw [Nt.fills_len, HMl.out]
          obtain ⟨F, hF⟩ : ∃ F, Nt.fills M (J.take k) N = F := ⟨_, rfl⟩
          rw [hF] at Rk HT hln
          have l2 := Rk.cells.2.2
          rw [Hv.out] at l2
          have hr := Rk.row
          rw [Hv.out, hln] at hr
          have e5 := hr.cellAt (q * 9 + 5) (by omega)
          have f5 := hr.frozenAt (q * 9 + 5)
          obtain ⟨uc, huc⟩ : ∃ uc, (Nt.insC F)[q * 9 + 5]? = some uc := by
            have hl := hr.1
            exact ⟨_, List.getElem?_eq_getElem (by omega)⟩
          rw [huc] at e5
          have HH : Hid _ := rhere_any lb F gr _ vE _ Rk.drew
          rw [hln] at HH
          have HRk : Hid _ := Rk
          have HZk : Hid _ := Zk
          have HJk : Hid _ := Jk
          have Hln : Hid _ := hln
          have HF2 : Hid _ := hF
          clear Rk Zk Jk hr hln huc hF hqe
          go_wp2_with fail
          go_region_with (go_at_call 63; refine Calls.mono HH.out ?_; rintro e w5 ⟨rfl, rfl⟩)
          all_goals
            have R4 := HRk.out.drew
            rw [Hv.out, ← Hln.out] at R4
            obtain ⟨R5, Z5⟩ := R4.fill (q := q) (by have := Hln.out; omega) N
            rw [Hln.out, ← Hv.out] at R5 Z5
            rw [← HT.out] at R5
            have Z6 := HZk.out.trans Z5.drewL
            have JR6 := Nt.Jr.rz HJk.out Z5.drewL (by omega)
            clear R4 Z5 HRk HZk HJk
            go_wp2_with fail
            go_roundw
            case rel => exact ⟨k + 1, by omega, by go_num, R5, Z6, JR6⟩
            case measure => simp [intOf]; omega
        · obtain rfl : k = J.length := by omega
          have HRk : Hid _ := Rk
          have HZk : Hid _ := HZ0.out.trans (HZE.out.trans Zk)
          clear Rk Zk Jk
          go_wp2_with fail
          go_end0
          refine ⟨⟨_, rfl⟩, vE, ?_, HZk.out⟩
          have R7 := HRk.out
          rw [List.take_length, HFil.out] at R7
          rw [HC.out, HSlo.out]
          exact R7
end Go.Proofs.YtjiglgfnmgcmjaaDoor
