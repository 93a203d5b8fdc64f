/- What the reference's repeat does, with an end. -/
import Derived.Test.YtjiglgfnmgcmjaaDoorNfRRp
import Derived.Deep.AppendLies
import Derived.Deep.RegionWith
namespace Go.Proofs.YtjiglgfnmgcmjaaDoor
open Go Go.RowKit

set_option maxRecDepth 100000 in
set_option maxHeartbeats 8000000 in
theorem rrep_many (T : Nt.NT) (hk : T.k = 5) (m : Nat) (hm : T.mn = (m : Int)) (hm5 : m ≤ 255) (n : Nat) (hn5 : m + n ≤ 255) (hx : T.mx = ((m + n : Nat) : Int)) (_h1 : T.kids.length = 1) (h0 : 0 < T.kids.length) (hrr : (∀ p f, Nt.rndR (T.kids[0]) p f = Nt.rnd T p f) ∧ Nt.rlnR (T.kids[0]) = Nt.rln T) (HK : Nt.RayC (T.kids[0])) : Nt.RepC T := by
  intro a cap lb L gr sl v f w h hN hr hf
  have hlt := h.lt
  have N0 := Nt.node_new w T a cap
  have hB0 : Below w.heap.size w (w.alloc (.cells (Nt.ndA T a cap) 28)) := (Below.refl w.heap.size w).alloc (Nat.le_refl _) _
  have hs0 : (w.alloc (.cells (Nt.ndA T a cap) 28)).heap.size = w.heap.size + 1 := by simp
  obtain ⟨W, hW⟩ : ∃ W, W = w.alloc (.cells (Nt.ndA T a cap) 28) := ⟨_, rfl⟩
  rw [← hW] at N0 hB0 hs0
  have HR0 : Hid _ := h.under hB0
  have HZ0 : Hid _ := Nt.Rz.of_below (lb := lb) v hB0
  have HD0 : Hid _ := hN.under (hB0.mono (Nat.le_of_lt hlt))
  have HN0 : Hid _ := N0
  have Ho : Hid _ := h.own
  have Hr : Hid _ := hr
  have hfx : f + 1 + Nt.cnt (T.kids[0]) ≤ 16384 := by have := Nt.cntL_kid h0; omega
  have HRd : Hid (∀ (a' : Option Addr) (cap' : Nat) (L : List Nt.Ins) (sl : Int) (v : Value) (w : World), Nt.Rg w lb L gr sl v → Nt.Nd w (· < lb) (T.kids[0]) a' cap' → L.length + Nt.rln T ≤ 16384 →
    Calls Tryd.prog 80 #[.pointer (some ⟨lb, 0, none⟩), Nt.ndV (T.kids[0]) a' cap', .int .i64 (f : Int)] w fun e w' => (∃ u, e = .returned u) ∧ ∃ v', Nt.Rg w' lb (L ++ Nt.rnd T L.length f) gr (Nt.sloF sl (Nt.rnd T L.length f)) v' ∧ Nt.Rz lb v v' w w') := fun a' cap' L sl v w h1 h2 h3 => by
    have := rround_any (T.kids[0]) HK a' cap' lb L gr sl v f (f : Int) rfl w h1 h2 (by rw [hrr.2]; exact h3) (by omega)
    rw [hrr.1] at this
    exact this
  have HFr : Hid (∀ (a' : Option Addr) (cap' : Nat) (L : List Nt.Ins) (sl : Int) (v : Value) (w : World), Nt.Rg w lb L gr sl v → Nt.Nd w (· < lb) (T.kids[0]) a' cap' → L.length + (Nt.rln T + 2) ≤ 16384 →
    Calls Tryd.prog 81 #[.pointer (some ⟨lb, 0, none⟩), Nt.ndV (T.kids[0]) a' cap', .int .i64 (f : Int)] w fun e w' => (∃ u, e = .returned u) ∧ ∃ v', Nt.Rg w' lb (L ++ Nt.freT T L.length f) gr (Nt.sloF sl (Nt.freT T L.length f)) v' ∧ Nt.Rz lb v v' w w') := fun a' cap' L sl v w h1 h2 h3 => by
    have := rfree_any (T.kids[0]) HK a' cap' lb L gr sl v f w h1 h2 (by rw [hrr.2]; exact h3) hfx
    rw [Nt.freR, hrr.1] at this
    exact this
  have Hbox : Hid (∀ (vx : Value) (wx : World), Nt.Rz lb v vx W wx → some w.heap.size ≠ vx.ownBlock) := fun vx wx z e => by
    rcases z.row _ e.symm with h | h
    · have := (Ho.out _ h).2; omega
    · omega
  have HMn : Hid _ := hm
  have HMx : Hid _ := hx
  have HC : Hid (Nt.code T L.length f = Nt.mustC m (Nt.rln T) (Nt.rnd T) L.length f ++ Nt.mayC n (Nt.rln T) (L.length + Nt.sz T) (Nt.rnd T) (L.length + m * Nt.rln T) f) := by
    show _ = _
    have e3 : ((((m + n : Nat) : Int)) == -1) = false := by simp; omega
    have e2 : (((m + n : Nat) : Int) - (m : Int)).toNat = n := by omega
    rw [Nt.code_rep T hk, hm, hx, e3, e2]; rfl
  have Hz : Hid (L.length + Nt.sz T = (L.length + m * Nt.rln T) + n * (Nt.rln T + 3)) := by
    show _ = _
    rw [← Nt.code_len T L.length f, HC.out]; simp [Nt.musts_len, Nt.mays_len]; omega
  have Hmst : Hid (∀ i, i < m → i * Nt.rln T + Nt.rln T ≤ Nt.sz T) := fun i hi => by
    have h2 : (i + 1) * Nt.rln T ≤ m * Nt.rln T := Nat.mul_le_mul_right _ hi
    rw [Nat.succ_mul] at h2
    have := Hz.out
    omega
  have Hmay : Hid (∀ i, i < n → i * (Nt.rln T + 3) + (Nt.rln T + 3) ≤ n * (Nt.rln T + 3)) := fun i hi => by
    have h2 : (i + 1) * (Nt.rln T + 3) ≤ n * (Nt.rln T + 3) := Nat.mul_le_mul_right _ hi
    rw [Nat.succ_mul] at h2
    exact h2
  obtain ⟨i1, hi1, hy0, hy1, hy2⟩ := info_parts Tryd.infoInt
  simp only [Nt.ndV, Nt.ndA] at hW HRd HFr ⊢
  clear N0 hB0 hN h hr hf hk HK hrr _h1 hm hx hfx
  go_enter Tryd.func64, Tryd.ntmps64
  go_wp2_with fail
  rw [← hW]
  clear hW
  go_loopw [6] (fun iv wr => ∃ (i : Nat) (vi : Value), i ≤ m ∧ iv = .int .i64 (i : Int) ∧ Nt.Rg wr lb (L ++ Nt.mustC i (Nt.rln T) (Nt.rnd T) L.length f) gr (Nt.sloF sl (Nt.mustC i (Nt.rln T) (Nt.rnd T) L.length f)) vi ∧ Nt.Rz lb v vi W wr ∧ Nt.NodeAt wr w.heap.size T a cap ∧ Nt.Nd wr (· < lb) T a cap) (fun iv _ => m - (intOf iv).toNat)
  case atStart => exact ⟨0, v, by omega, rfl, by rw [Nt.mustC, List.append_nil]; exact HR0.out, Nt.Rz.refl _ _ _, HN0.out, HD0.out⟩
  case round =>
    clear HR0 HN0 HD0
    obtain ⟨i, vi, hi, rfl, Ri, Zi, NA, ND⟩ := hrel
    obtain ⟨q0, q1, q2, q3, q4, q5, q6, q7, q8⟩ := NA.nine
    rw [HMn.out] at q5
    rw [HMx.out] at q6
    have hsi := Zi.size
    by_cases hlt' : i < m
    · obtain ⟨kb, ko, a', cap', rfl, hkb, h9, hkd⟩ := ND.kid h0
      rw [Nat.zero_mul, Nat.add_zero] at h9
      obtain ⟨r0, r1, r2, r3, r4, r5, r6, r7, r8⟩ := h9
      have hlen : (L ++ Nt.mustC i (Nt.rln T) (Nt.rnd T) L.length f).length = L.length + i * Nt.rln T := by rw [List.length_append, Nt.musts_len]
      have HI : Hid _ := HRd.out a' cap' _ _ vi wr Ri hkd (by rw [hlen]; have h1 := Hmst.out i hlt'; have := Hr.out; omega)
      have HT : Hid _ := Nt.mustC_snoc (Nt.rln T) (Nt.rnd T) i L.length f
      have Hlen : Hid _ := hlen
      have HRi : Hid _ := Ri
      have HZi : Hid _ := Zi
      have HNA : Hid _ := NA
      have HND : Hid _ := ND
      clear hkd hlen Ri Zi NA ND
      go_wp2_with fail
      refine Calls.mono HI.out ?_
      rintro e w2 ⟨⟨u, rfl⟩, v2, R2, Z2⟩
      have NA2 := Nt.NodeAt.rz HNA.out Z2 (by omega) (by omega) (Hbox.out _ _ HZi.out)
      have ND2 := Nt.Nd.rz HND.out Z2 HRi.out.own (by omega)
      have R3 : Nt.Rg w2 lb (L ++ Nt.mustC (i + 1) (Nt.rln T) (Nt.rnd T) L.length f) gr (Nt.sloF sl (Nt.mustC (i + 1) (Nt.rln T) (Nt.rnd T) L.length f)) v2 := by
        rw [HT.out, ← List.append_assoc, Nt.sloF_app, ← Hlen.out]; exact R2
      have Z3 := HZi.out.trans Z2
      clear HI R2 Z2 HRi HZi HNA HND q0 q1 q2 q3 q4 q5 q6 q7 q8 r0 r1 r2 r3 r4 r5 r6 r7 r8
      go_wp2_with fail
      go_roundw
      case rel => exact ⟨i + 1, v2, by omega, by go_num, R3, Z3, NA2, ND2⟩
      case measure => simp [intOf]; omega
    · obtain rfl : i = m := by omega
      obtain ⟨LL, hLL⟩ : ∃ LL, L ++ Nt.mustC i (Nt.rln T) (Nt.rnd T) L.length f = LL := ⟨_, rfl⟩
      obtain ⟨s, hs⟩ : ∃ s, Nt.sloF sl (Nt.mustC i (Nt.rln T) (Nt.rnd T) L.length f) = s := ⟨_, rfl⟩
      rw [hLL, hs] at Ri
      obtain ⟨p, hp⟩ : ∃ p, L.length + i * Nt.rln T = p := ⟨_, rfl⟩
      have hp2 : LL.length = p := by rw [← hLL, List.length_append, Nt.musts_len, hp]
      rw [hp] at HC Hz
      have HLL : Hid _ := hLL
      have Hs : Hid _ := hs
      have Hp2 : Hid _ := hp2
      clear hp
      have HZi : Hid _ := Zi
      have HNA : Hid _ := NA
      have HND : Hid _ := ND
      have HRi : Hid _ := Ri
      have hneg : decide ((((i + n : Nat) : Int)) < 0) = false := by simp; omega
      clear hLL hs hp2 Ri Zi NA ND
      go_wp2_with fail
      go_loopw [7, 9] (fun jv iv wz => ∃ (k : Nat) (vk jx : Value), jx = jv ∧ k ≤ n ∧ iv = .int .i64 ((i + k : Nat) : Int) ∧ Nt.Rg wz lb (LL ++ Nt.mayC k (Nt.rln T) 0 (Nt.rnd T) p f) gr (Nt.sloF s (Nt.mayC k (Nt.rln T) 0 (Nt.rnd T) p f)) vk ∧ Nt.Rz lb v vk W wz ∧ Nt.NodeAt wz w.heap.size T a cap ∧ Nt.Nd wz (· < lb) T a cap ∧ Nt.Jr wz (w.heap.size + 1) vk jx (Nt.mayJ (Nt.rln T) k p)) (fun _ iv _ => i + n - (intOf iv).toNat)
      case atStart => exact ⟨0, vi, _, rfl, by omega, by simp, by rw [Nt.mayC, List.append_nil]; exact HRi.out, HZi.out, HNA.out, HND.out, Nt.Jr.empty _ _ _⟩
      case round =>
      clear HRi HZi HNA HND q0 q1 q2 q3 q4 q5 q6 q7 q8
      obtain ⟨k, vk, jx, rfl, hk', rfl, Rk, Zk, NA, ND, JR⟩ := hrel
      obtain ⟨q0, q1, q2, q3, q4, q5, q6, q7, q8⟩ := NA.nine
      rw [HMn.out] at q5
      rw [HMx.out] at q6
      have hsk := Zk.size
      by_cases hkn : k < n
      · have HS : Hid _ := Nt.mayC_snoc T 0 k p f
        have HSJ : Hid _ := Nt.mayJ_snoc (Nt.rln T) k p
        obtain ⟨A, hA⟩ : ∃ A, LL ++ Nt.mayC k (Nt.rln T) 0 (Nt.rnd T) p f = A := ⟨_, rfl⟩
        obtain ⟨t, ht⟩ : ∃ t, Nt.sloF s (Nt.mayC k (Nt.rln T) 0 (Nt.rnd T) p f) = t := ⟨_, rfl⟩
        obtain ⟨J, hJe⟩ : ∃ J, Nt.mayJ (Nt.rln T) k p = J := ⟨_, rfl⟩
        have hJl : J.length = k := by rw [← hJe, Nt.mayJ_len]
        rw [hA, ht] at Rk
        rw [hJe] at JR HSJ
        obtain ⟨r, hr⟩ : ∃ r, p + k * (Nt.rln T + 3) = r := ⟨_, rfl⟩
        rw [hr] at HS HSJ
        have hAl : A.length = r := by rw [← hA, List.length_append, Hp2.out, Nt.mays_len, hr]
        have hroom : r + Nt.rln T + 3 ≤ 16384 := by have h1 := Hmay.out k hkn; have h2 := Hr.out; have h3 := Hz.out; omega
        have HP1 : Hid _ := rput_split0 lb A gr t vk _ Rk (by omega)
        rw [hAl] at HP1
        have HZk : Hid _ := Zk
        have HNA : Hid _ := NA
        have HND : Hid _ := ND
        have HJR : Hid _ := JR
        have HRo : Hid _ := Rk.own
        have HA : Hid _ := hA
        have Ht : Hid _ := ht
        have HJl : Hid _ := hJl
        have HAl : Hid _ := hAl
        clear Rk Zk NA ND JR hA ht hJe hJl hr hAl
        go_wp2_with fail
        refine Calls.mono HP1.out ?_
        rintro e w1 ⟨rfl, v1, R1, Z1⟩
        have hs1 := Z1.size
        have HZ1 : Hid _ := HZk.out.trans Z1
        have HNA1 : Hid _ := Nt.NodeAt.rz HNA.out Z1 (by omega) (by omega) (Hbox.out _ _ HZk.out)
        have HND1 : Hid _ := Nt.Nd.rz HND.out Z1 HRo.out (by omega)
        have HR1 : Hid _ := R1
        have JR1 := Nt.Jr.rz HJR.out Z1 (by omega)
        clear R1 Z1 HP1 HZk HNA HND HRo HJR q0 q1 q2 q3 q4 q5 q6 q7 q8
        go_wp2_with (at_builtin; refine Nt.wpList_append_far _ rfl _ _ 45 rfl (w.heap.size + 1) 3 i1 (.int .i64 0) 1 8 Tryd.underlying45 hi1 hy0 hy1 hy2 rfl (by decide) jx J.length (Nt.icellsN J) rfl (JR1.row.alloc _) ⟨w1.heap.size, 0, none⟩ 1 1 [.int .i64 (r : Int)] rfl ?c1 ?c2 ?c3 ?c4 ?c5 ?c6 ?_)
        case c1 => rfl
        case c2 => exact Nt.one_new _ _ _
        case c3 => exact fun u hu => by simp only [List.mem_singleton] at hu; subst hu; rfl
        case c4 => have := HJl.out; unfold maxLen; omega
        case c5 => have := HJl.out; omega
        case c6 => simp; omega
        intro jv4 w4 hown4 hgr4 _ hat4
        have hBA : Below w1.heap.size w1 (w1.alloc (.cells #[.int .i64 (r : Int)] 3)) := (Below.refl w1.heap.size w1).alloc (Nat.le_refl _) _
        have hsA : (w1.alloc (.cells #[.int .i64 (r : Int)] 3)).heap.size = w1.heap.size + 1 := by simp
        have RA := HR1.out.under hBA
        have JA := JR1.alloc (.cells #[.int .i64 (r : Int)] 3)
        have R4 := RA.grown JA (by omega) hgr4
        have JR4 := Nt.Jr.snoc (q := r) JA RA hown4 (fun g hg => by
          rcases hat4 with h | h
          · exact .inl (h.symm.trans hg)
          · rw [hg] at h; injection h with h; exact .inr (by omega))
        have Z4 := (HZ1.out.far hBA).grown hgr4 (fun g hg => by have := (JR1.row.lt g hg).1; omega)
        have hs4 : w1.heap.size + 1 ≤ w4.heap.size := by have := hgr4.size; omega
        have hky : ∀ k, k < w.heap.size + 1 → w4.heap[k]? = w1.heap[k]? := fun k hk => by
          rw [hgr4.block k (by omega) (fun e => by have := (JR1.row.lt k e.symm).1; omega), heap_alloc_old w1 _ (show k < w1.heap.size by omega)]
        have NA4 : Nt.NodeAt w4 w.heap.size T a cap := (hky _ (by omega)).trans HNA1.out
        have ND4 := HND1.out.same (w' := w4) (fun k (hk : k < lb) => hky k (by omega)) (fun _ h => h)
        obtain ⟨q0, q1, q2, q3, q4, q5, q6, q7, q8⟩ := NA4.nine
        obtain ⟨kb, ko, a', cap', rfl, hkb, h9, hkd⟩ := ND4.kid h0
        rw [Nat.zero_mul, Nat.add_zero] at h9
        obtain ⟨r0, r1, r2, r3, r4, r5, r6, r7, r8⟩ := h9
        have hl1 : (A ++ [Nt.iSplit 0]).length = r + 1 := by rw [List.length_append, HAl.out]; rfl
        have HI : Hid _ := HFr.out a' cap' (A ++ [Nt.iSplit 0]) t v1 w4 R4 hkd (by omega)
        rw [hl1] at HI
        have HNA4 : Hid _ := NA4
        have HND4 : Hid _ := ND4
        have HJR4 : Hid _ := JR4
        have HZ4 : Hid _ := Z4
        have HRo4 : Hid _ := R4.own
        clear hBA hsA RA JA R4 JR4 Z4 hky NA4 ND4 hkd JR1 HR1 HZ1 HNA1 HND1 hown4 hgr4 hat4 hl1
        go_wp2_with fail
        refine Calls.mono HI.out ?_
        rintro e w5 ⟨⟨u, rfl⟩, v5, R5, Z5⟩
        have hs5 := Z5.size
        have NA5 := Nt.NodeAt.rz HNA4.out Z5 (by omega) (by omega) (Hbox.out _ _ HZ4.out)
        have ND5 := Nt.Nd.rz HND4.out Z5 HRo4.out (by omega)
        have JR5 := Nt.Jr.rz HJR4.out Z5 (by omega)
        have Z6 := HZ4.out.trans Z5
        have R6 : Nt.Rg w5 lb (LL ++ Nt.mayC (k + 1) (Nt.rln T) 0 (Nt.rnd T) p f) gr (Nt.sloF s (Nt.mayC (k + 1) (Nt.rln T) 0 (Nt.rnd T) p f)) v5 := by
          rw [HS.out, ← List.append_assoc, HA.out, Nt.sloF_app, Ht.out, Nt.fre_is, Nt.sloF_split]
          rw [List.append_assoc] at R5
          exact R5
        rw [← HSJ.out] at JR5
        clear R5 Z5 HI HNA4 HND4 HJR4 HZ4 HRo4 q0 q1 q2 q3 q4 q5 q6 q7 q8 r0 r1 r2 r3 r4 r5 r6 r7 r8
        go_wp2_with fail
        go_roundw
        case rel => exact ⟨k + 1, v5, jv4, rfl, by omega, by go_num, R6, Z6, NA5, ND5, JR5⟩
        case measure => simp [intOf]; omega
      obtain rfl : k = n := by omega
      obtain ⟨M, hM⟩ : ∃ M, LL ++ Nt.mayC k (Nt.rln T) 0 (Nt.rnd T) p f = M := ⟨_, rfl⟩
      obtain ⟨N, hN⟩ : ∃ N, L.length + Nt.sz T = N := ⟨_, rfl⟩
      have hMl : M.length = N := by rw [← hM, List.length_append, Nt.mays_len, Hp2.out, ← hN, Hz.out]
      obtain ⟨s2, hs2e⟩ : ∃ s2, Nt.sloF s (Nt.mayC k (Nt.rln T) 0 (Nt.rnd T) p f) = s2 := ⟨_, rfl⟩
      obtain ⟨J, hJ⟩ : ∃ J, Nt.mayJ (Nt.rln T) k p = J := ⟨_, rfl⟩
      rw [hN] at HC Hz
      have HJlt : Hid (∀ q ∈ J, q < N) := fun q hq => by
        rw [← hJ] at hq
        have := Nt.mayJ_lt (Nt.rln T) k p q hq
        rw [Hz.out]; exact this
      have hJl : J.length ≤ 16384 := by rw [← hJ, Nt.mayJ_len]; omega
      have HFil : Hid (Nt.fills M J N = L ++ (Nt.mustC i (Nt.rln T) (Nt.rnd T) L.length f ++ Nt.mayC k (Nt.rln T) N (Nt.rnd T) p f)) := by
        show _ = _
        have := Nt.fill_may (Nt.rln T) N f (Nt.rnd T) (Nt.rnd_len T) k LL []
        rw [Hp2.out, List.append_nil, List.append_nil, hM, hJ] at this
        rw [this, ← HLL.out, List.append_assoc]
      have HSlo : Hid (Nt.sloF sl (Nt.mustC i (Nt.rln T) (Nt.rnd T) L.length f ++ Nt.mayC k (Nt.rln T) N (Nt.rnd T) p f) = s2) := by
        show _ = _
        rw [Nt.sloF_app, Hs.out, Nt.sloF_may T N 0 f, hs2e]
      rw [hM, hs2e] at Rk
      rw [hJ] at JR
      have hN6 : N ≤ 16384 := by rw [← hN]; exact Hr.out
      obtain ⟨ja, jc, rfl⟩ := JR.form
      obtain ⟨g, cE, hv⟩ : ∃ g cE, 0 < J.length → vk = .slice (some ⟨g, 0, none⟩) N cE := by
        by_cases h0' : 0 < N
        · obtain ⟨g, c, h⟩ := Rk.form' (by omega)
          exact ⟨g, c, fun _ => by rw [h, hMl]⟩
        · exact ⟨0, 0, fun h => absurd (HJlt.out _ (List.getElem_mem h)) (by omega)⟩
      have HRE : Hid _ := Rk
      have HJE : Hid _ := JR
      have HZE : Hid _ := Zk
      have HMl : Hid _ := hMl
      have Hv0 : Hid _ := hv
      clear Rk Zk JR NA ND hM hMl hN hs2e hJ hv
      go_wp2_with fail
      go_loopw [10] (fun iv wz => ∃ k : Nat, k ≤ J.length ∧ iv = .int .i64 (k : Int) ∧ Nt.Rg wz lb (Nt.fills M (J.take k) N) gr s2 vk ∧ Nt.Rz lb vk vk wr wz ∧ Nt.Jr wz (w.heap.size + 1) vk (.slice ja J.length jc) J) (fun iv _ => J.length - (intOf iv).toNat)
      case atStart => exact ⟨0, by omega, rfl, HRE.out, Nt.Rz.refl _ _ _, HJE.out⟩
      case round =>
        clear HRE HJE
        obtain ⟨k, hk', rfl, Rk, Zk, Jk⟩ := hrel
        by_cases hkl : k < J.length
        · obtain ⟨jg, rfl, jc0⟩ := Jk.at hkl
          have hq := HJlt.out _ (List.getElem_mem hkl)
          have HT : Hid _ := Nt.fills_take hkl M N
          obtain ⟨q, hqe⟩ : ∃ q, J[k] = q := ⟨_, rfl⟩
          rw [hqe] at jc0 hq HT
          have hln : (Nt.fills M (J.take k) N).length = N := by rw [Nt.fills_len, HMl.out]
          obtain ⟨F, hF⟩ : ∃ F, Nt.fills M (J.take k) N = F := ⟨_, rfl⟩
          rw [hF] at Rk HT hln
          have Hv : Hid (vk = .slice (some ⟨g, 0, none⟩) N cE) := Hv0.out (by omega)
          have l2 := Rk.cells.2.2
          rw [Hv.out] at l2
          have hr := Rk.row
          rw [Hv.out, hln] at hr
          have e5 := hr.cellAt (q * 9 + 5) (by omega)
          have f5 := hr.frozenAt (q * 9 + 5)
          obtain ⟨uc, huc⟩ : ∃ uc, (Nt.insC F)[q * 9 + 5]? = some uc := by
            have hl := hr.1
            exact ⟨_, List.getElem?_eq_getElem (by omega)⟩
          rw [huc] at e5
          have HH : Hid _ := rhere_any lb F gr _ vk _ Rk.drew
          rw [hln] at HH
          have HRk : Hid _ := Rk
          have HZk : Hid _ := Zk
          have HJk : Hid _ := Jk
          have Hln : Hid _ := hln
          have HF2 : Hid _ := hF
          clear Rk Zk Jk hr hln huc hF hqe
          go_wp2_with fail
          go_region_with (go_at_call 63; refine Calls.mono HH.out ?_; rintro e w5 ⟨rfl, rfl⟩)
          all_goals
            have R4 := HRk.out.drew
            rw [Hv.out, ← Hln.out] at R4
            obtain ⟨R5, Z5⟩ := R4.fill (q := q) (by have := Hln.out; omega) N
            rw [Hln.out, ← Hv.out] at R5 Z5
            rw [← HT.out] at R5
            have Z6 := HZk.out.trans Z5.drewL
            have JR6 := Nt.Jr.rz HJk.out Z5.drewL (by omega)
            clear R4 Z5 HRk HZk HJk
            go_wp2_with fail
            go_roundw
            case rel => first | exact ⟨k + 1, by omega, by go_num, R5, Z6, JR6⟩ | exact ⟨_, _, _, _, _, _, _, _, _, _, _, _, _, _, _, _, _, ⟨k + 1, by omega, by go_num, R5, Z6, JR6⟩, rfl⟩ | exact ⟨_, _, _, _, _, _, _, _, _, _, _, _, _, _, _, _, _, _, ⟨k + 1, by omega, by go_num, R5, Z6, JR6⟩, rfl⟩ | exact ⟨_, _, _, _, _, _, _, _, _, _, _, _, _, _, _, _, _, _, _, ⟨k + 1, by omega, by go_num, R5, Z6, JR6⟩, rfl⟩ | exact ⟨_, _, _, _, _, _, _, _, _, _, _, _, _, _, _, _, _, _, _, _, ⟨k + 1, by omega, by go_num, R5, Z6, JR6⟩, rfl⟩ | exact ⟨_, _, _, _, _, _, _, _, _, _, _, _, _, _, _, _, _, _, _, _, _, ⟨k + 1, by omega, by go_num, R5, Z6, JR6⟩, rfl⟩ | exact ⟨_, _, _, _, _, _, _, _, _, _, _, _, _, _, _, _, _, _, _, _, _, _, ⟨k + 1, by omega, by go_num, R5, Z6, JR6⟩, rfl⟩ | exact ⟨_, _, _, _, _, _, _, _, _, _, _, _, _, _, _, _, _, _, _, _, _, _, _, ⟨k + 1, by omega, by go_num, R5, Z6, JR6⟩, rfl⟩ | exact ⟨_, _, _, _, _, _, _, _, _, _, _, _, _, _, _, _, _, _, _, _, _, _, _, _, ⟨k + 1, by omega, by go_num, R5, Z6, JR6⟩, rfl⟩ | exact ⟨_, ⟨k + 1, by omega, by go_num, R5, Z6, JR6⟩, rfl⟩ | exact ⟨_, _, ⟨k + 1, by omega, by go_num, R5, Z6, JR6⟩, rfl⟩ | exact ⟨_, _, _, ⟨k + 1, by omega, by go_num, R5, Z6, JR6⟩, rfl⟩ | exact ⟨_, _, _, _, ⟨k + 1, by omega, by go_num, R5, Z6, JR6⟩, rfl⟩ | exact ⟨_, _, _, _, _, ⟨k + 1, by omega, by go_num, R5, Z6, JR6⟩, rfl⟩ | exact ⟨_, _, _, _, _, _, ⟨k + 1, by omega, by go_num, R5, Z6, JR6⟩, rfl⟩ | exact ⟨_, _, _, _, _, _, _, ⟨k + 1, by omega, by go_num, R5, Z6, JR6⟩, rfl⟩ | exact ⟨_, _, _, _, _, _, _, _, ⟨k + 1, by omega, by go_num, R5, Z6, JR6⟩, rfl⟩ | exact ⟨_, _, _, _, _, _, _, _, _, ⟨k + 1, by omega, by go_num, R5, Z6, JR6⟩, rfl⟩ | exact ⟨_, _, _, _, _, _, _, _, _, _, ⟨k + 1, by omega, by go_num, R5, Z6, JR6⟩, rfl⟩ | exact ⟨_, _, _, _, _, _, _, _, _, _, _, ⟨k + 1, by omega, by go_num, R5, Z6, JR6⟩, rfl⟩ | exact ⟨_, _, _, _, _, _, _, _, _, _, _, _, ⟨k + 1, by omega, by go_num, R5, Z6, JR6⟩, rfl⟩ | exact ⟨_, _, _, _, _, _, _, _, _, _, _, _, _, ⟨k + 1, by omega, by go_num, R5, Z6, JR6⟩, rfl⟩ | exact ⟨_, _, _, _, _, _, _, _, _, _, _, _, _, _, ⟨k + 1, by omega, by go_num, R5, Z6, JR6⟩, rfl⟩ | exact ⟨_, _, _, _, _, _, _, _, _, _, _, _, _, _, _, ⟨k + 1, by omega, by go_num, R5, Z6, JR6⟩, rfl⟩ | exact ⟨_, _, _, _, _, _, _, _, _, _, _, _, _, _, _, _, ⟨k + 1, by omega, by go_num, R5, Z6, JR6⟩, rfl⟩ | exact ⟨_, _, _, _, _, _, _, _, _, _, _, _, _, _, _, _, _, _, _, _, _, _, _, _, _, ⟨k + 1, by omega, by go_num, R5, Z6, JR6⟩, rfl⟩ | exact ⟨_, _, _, _, _, _, _, _, _, _, _, _, _, _, _, _, _, _, _, _, _, _, _, _, _, _, ⟨k + 1, by omega, by go_num, R5, Z6, JR6⟩, rfl⟩ | exact ⟨_, _, _, _, _, _, _, _, _, _, _, _, _, _, _, _, _, _, _, _, _, _, _, _, _, _, _, ⟨k + 1, by omega, by go_num, R5, Z6, JR6⟩, rfl⟩ | exact ⟨_, _, _, _, _, _, _, _, _, _, _, _, _, _, _, _, _, _, _, _, _, _, _, _, _, _, _, _, ⟨k + 1, by omega, by go_num, R5, Z6, JR6⟩, rfl⟩ | exact ⟨_, _, _, _, _, _, _, _, _, _, _, _, _, _, _, _, _, _, _, _, _, _, _, _, _, _, _, _, _, ⟨k + 1, by omega, by go_num, R5, Z6, JR6⟩, rfl⟩ | exact ⟨_, _, _, _, _, _, _, _, _, _, _, _, _, _, _, _, _, _, _, _, _, _, _, _, _, _, _, _, _, _, ⟨k + 1, by omega, by go_num, R5, Z6, JR6⟩, rfl⟩ | exact ⟨_, _, _, _, _, _, _, _, _, _, _, _, _, _, _, _, _, _, _, _, _, _, _, _, _, _, _, _, _, _, _, ⟨k + 1, by omega, by go_num, R5, Z6, JR6⟩, rfl⟩
            case measure => simp [intOf]; omega
        · obtain rfl : k = J.length := by omega
          have HRk : Hid _ := Rk
          have HZk : Hid _ := HZ0.out.trans (HZE.out.trans Zk)
          clear Rk Zk Jk
          go_wp2_with fail
          go_end0
          refine ⟨⟨_, rfl⟩, vk, ?_, HZk.out⟩
          have R7 := HRk.out
          rw [List.take_length, HFil.out] at R7
          rw [HC.out, HSlo.out]
          exact R7
end Go.Proofs.YtjiglgfnmgcmjaaDoor
