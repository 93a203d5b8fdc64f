/- What the reference's code does with an Alt. -/
import Derived.Test.YtjiglgfnmgcmjaaDoorNfRJr
import Derived.Test.YtjiglgfnmgcmjaaDoorNfM4
import Derived.Test.YtjiglgfnmgcmjaaDoorNfRSz
import Derived.Deep.AppendLies
import Derived.Deep.RegionWith
namespace Go.Proofs.YtjiglgfnmgcmjaaDoor
open Go Go.RowKit

namespace Nt
theorem alt_code {T : NT} (hk : T.k = 4) (h2 : 2 ≤ T.kids.length) (p f : Nat) : code T p f = altPre (T.kids.take (T.kids.length - 1)) p (p + sz T) f ++ code (T.kids[T.kids.length - 1]'(by omega)) (p + (sz.szL (T.kids.take (T.kids.length - 1)) + 2 * (T.kids.length - 1))) f := by
  have hc : code T p f = altL T.kids p (p + sz T) f := by rw [code_eq, hk]; rfl
  have hs : T.kids = T.kids.take (T.kids.length - 1) ++ [T.kids[T.kids.length - 1]'(by omega)] := by
    have := List.take_succ_eq_append_getElem (l := T.kids) (i := T.kids.length - 1) (by omega)
    rw [← this, List.take_of_length_le (by omega)]
  rw [hc]
  conv => lhs; rw [hs]
  rw [altL_pre]
  simp only [List.length_take]
  rw [Nat.min_eq_left (by omega)]
theorem sloF_pre (t t' f : Nat) : ∀ (l : List NT) (s : Int) (p : Nat), sloF s (altPre l p t f) = sloF s (altPre l p t' f)
  | [], _, _ => rfl
  | x :: l, s, p => by
    have e : ∀ t, sloF s (iSplit (p + sz x + 2) :: code x (p + 1) f ++ [iJump t]) = sloF s (iSplit (p + sz x + 2) :: code x (p + 1) f) := fun t => by rw [sloF_app]; rfl
    rw [altPre, altPre, sloF_app, e t, sloF_pre t t' f l, sloF_app, e t']
theorem Rg.drew {w : World} {lb : Nat} {L : List Ins} {gr sl : Int} {v : Value} (h : Rg w lb L gr sl v) : Rg w.drew lb L gr sl v := ⟨h.blk, h.row.drew⟩
theorem Rz.drewL {w w' : World} {lb : Nat} {v v' : Value} (z : Rz lb v v' w.drew w') : Rz lb v v' w w' := ⟨z.os, z.tape, z.output, z.size, z.block, z.row⟩
theorem alt_sz {T : NT} (hk : T.k = 4) : sz T = sz.szL T.kids + 2 * (T.kids.length - 1) := by rw [sz_eq, hk]; rfl
end Nt
set_option maxRecDepth 100000 in
set_option maxHeartbeats 4000000 in
theorem rcode_alt (T : Nt.NT) (hk : T.k = 4) (h2 : 2 ≤ T.kids.length) (HK : ∀ i (h : i < T.kids.length), Nt.RayC (T.kids[i])) : Nt.RayC T := by
  intro a cap lb L gr sl v f w h hN hr hf
  have hlt := h.lt
  have N0 := Nt.node_new w T a cap
  have hB0 : Below w.heap.size w (w.alloc (.cells (Nt.ndA T a cap) 28)) := (Below.refl w.heap.size w).alloc (Nat.le_refl _) _
  have hs0 : (w.alloc (.cells (Nt.ndA T a cap) 28)).heap.size = w.heap.size + 1 := by simp
  obtain ⟨W, hW⟩ : ∃ W, W = w.alloc (.cells (Nt.ndA T a cap) 28) := ⟨_, rfl⟩
  rw [← hW] at N0 hB0 hs0
  have HR0 : Hid _ := h.under hB0
  have HZ0 : Hid _ := Nt.Rz.of_below (lb := lb) v hB0
  have HD0 : Hid _ := hN.under (hB0.mono (Nat.le_of_lt hlt))
  have HN0 : Hid _ := N0
  have Ho : Hid _ := h.own
  have Hr : Hid _ := hr
  have Hf : Hid _ := hf
  have d2 : ((T.k : Int) == 2) = false := by simp; omega
  have d8 : ((T.k : Int) == 8) = false := by simp; omega
  have d9 : ((T.k : Int) == 9) = false := by simp; omega
  have d7 : ((T.k : Int) == 7) = false := by simp; omega
  have d3 : ((T.k : Int) == 3) = false := by simp; omega
  have d6 : ((T.k : Int) == 6) = false := by simp; omega
  have d4 : ((T.k : Int) == 4) = true := by simp; omega
  have hz := Nt.alt_sz hk
  have HC : Hid _ := Nt.alt_code hk h2 L.length f
  have Hz : Hid _ := hz
  have HK : Hid _ := HK
  have hlm := hN.room.1
  have hlast : T.kids.length - 1 < T.kids.length := by omega
  obtain ⟨la, hla⟩ : ∃ la, T.kids.length - 1 = la := ⟨_, rfl⟩
  obtain ⟨i1, hi1, hy0, hy1, hy2⟩ := info_parts Tryd.infoInt
  simp only [hla] at HC hlast
  have Hla : Hid _ := hla
  have hla2 : la + 1 = T.kids.length := by omega
  simp only [Nt.ndV, Nt.ndA] at hW ⊢
  clear N0 hB0 hN h hr hf hz hk
  go_enter Tryd.func39, Tryd.ntmps39
  go_wp2_with fail
  rw [← hW]
  clear hW
  go_loopw [7, 9] (fun jv iv wr => ∃ (i : Nat) (vi jx : Value), jx = jv ∧ i ≤ la ∧ iv = .int .i64 (i : Int) ∧ Nt.Rg wr lb (L ++ Nt.altPre (T.kids.take i) L.length 0 f) gr (Nt.sloF sl (Nt.altPre (T.kids.take i) L.length 0 f)) vi ∧ Nt.Rz lb v vi W wr ∧ Nt.NodeAt wr w.heap.size T a cap ∧ Nt.Nd wr (· < lb) T a cap ∧ Nt.Jr wr (w.heap.size + 1) vi jx (Nt.altJ (T.kids.take i) L.length)) (fun _ iv _ => la - (intOf iv).toNat)
  case atStart => exact ⟨0, v, _, rfl, by omega, rfl, by rw [List.take_zero, Nt.altPre, List.append_nil]; exact HR0.out, Nt.Rz.refl _ _ _, HN0.out, HD0.out, Nt.Jr.empty _ _ _⟩
  case round =>
    clear HR0 HN0 HD0
    obtain ⟨i, vi, jx, rfl, hi, rfl, Ri, Zi, NA, ND, JR⟩ := hrel
    obtain ⟨q0, q1, q2, q3, q4, q5, q6, q7, q8⟩ := NA.nine
    have hsi := Zi.size
    have Hbox : Hid (∀ (vx : Value) (wx : World), Nt.Rz lb v vx W wx → some w.heap.size ≠ vx.ownBlock) := fun vx wx z e => by
      rcases z.row _ e.symm with h | h
      · have := (Ho.out _ h).2; omega
      · omega
    by_cases hlt' : i < la
    · have hik : i < T.kids.length := by omega
      have HS : Hid (T.kids.take (i + 1) = T.kids.take i ++ [T.kids[i]]) := List.take_succ_eq_append_getElem hik
      have hcx : Nt.cnt (T.kids[i]) ≤ Nt.cnt T := by have := Nt.cntL_kid hik; omega
      have hroom : L.length + (Nt.sz.szL (T.kids.take i) + 2 * i) + Nt.sz (T.kids[i]) + 2 ≤ 16384 := by have h1 := Nt.szL_take hik; have h2 := Nt.szL_mono T.kids (i + 1); have := Hr.out; have := Hz.out; omega
      have hA := Nt.altPre_snoc (T.kids[i]) 0 f (T.kids.take i) L.length
      have hJ := Nt.altJ_snoc (T.kids[i]) (T.kids.take i) L.length
      obtain ⟨LL, hLL⟩ : ∃ LL, L ++ Nt.altPre (T.kids.take i) L.length 0 f = LL := ⟨_, rfl⟩
      obtain ⟨s, hs⟩ : ∃ s, Nt.sloF sl (Nt.altPre (T.kids.take i) L.length 0 f) = s := ⟨_, rfl⟩
      obtain ⟨J, hJe⟩ : ∃ J, Nt.altJ (T.kids.take i) L.length = J := ⟨_, rfl⟩
      have hJl : J.length = i := by rw [← hJe, Nt.altJ_len, List.length_take]; omega
      rw [hLL, hs] at Ri
      rw [hJe] at JR hJ
      obtain ⟨p, hp⟩ : ∃ p, LL.length = p := ⟨_, rfl⟩
      have hp2 : L.length + (Nt.sz.szL (T.kids.take i) + 2 * (T.kids.take i).length) = p := by rw [← hp, ← hLL, List.length_append, Nt.altPre_len]
      have hp3 : L.length + (Nt.sz.szL (T.kids.take i) + 2 * i) = p := by rw [← hp2, List.length_take, Nat.min_eq_left (by omega)]
      rw [hp2, ← HS.out] at hA hJ
      rw [hp3] at hroom
      have HA : Hid _ := hA
      have HJ : Hid _ := hJ
      have HLL : Hid _ := hLL
      have Hs : Hid _ := hs
      have Hp : Hid _ := hp
      have HJl : Hid _ := hJl
      have HP1 : Hid _ := rput_split0 lb LL gr s vi wr Ri (by omega)
      rw [hp] at HP1
      have HZi : Hid _ := Zi
      have HNA : Hid _ := NA
      have HND : Hid _ := ND
      have HJR : Hid _ := JR
      have HRo : Hid _ := Ri.own
      clear hA hJ hLL hs hp hp2 hp3 hJe hJl Ri Zi NA ND JR
      go_wp2_with fail
      refine Calls.mono HP1.out ?_
      rintro e w1 ⟨rfl, v1, R1, Z1⟩
      have hs1 := Z1.size
      have Z1' := HZi.out.trans Z1
      have NA1 := Nt.NodeAt.rz HNA.out Z1 (by omega) (by omega) (Hbox.out _ _ HZi.out)
      have ND1 := Nt.Nd.rz HND.out Z1 HRo.out (by omega)
      have JR1 := Nt.Jr.rz HJR.out Z1 (by omega)
      obtain ⟨q0, q1, q2, q3, q4, q5, q6, q7, q8⟩ := NA1.nine
      obtain ⟨kb, ko, a', cap', rfl, hkb, h9, hkd⟩ := ND1.kid hik
      obtain ⟨r0, r1, r2, r3, r4, r5, r6, r7, r8⟩ := h9
      have HI : Hid _ := HK.out i hik a' cap' lb (LL ++ [Nt.iSplit 0]) gr s v1 f w1 R1 hkd (by have := Hp.out; simp; omega) (by have := Hf.out; omega)
      have HZ1 : Hid _ := Z1'
      have HNA1 : Hid _ := NA1
      have HND1 : Hid _ := ND1
      have HJR1 : Hid _ := JR1
      have HRo1 : Hid _ := R1.own
      simp only [Nt.ndV, Nt.ndA] at HI
      clear Z1 Z1' NA1 ND1 JR1 R1 hkd HP1 HZi HNA HND HJR HRo
      go_wp2_with fail
      refine Calls.mono HI.out ?_
      rintro e w2 ⟨⟨u, rfl⟩, v2, R2, Z2⟩
      have hs2 := Z2.size
      have NA2 := Nt.NodeAt.rz HNA1.out Z2 (by omega) (by omega) (Hbox.out _ _ HZ1.out)
      have ND2 := Nt.Nd.rz HND1.out Z2 HRo1.out (by omega)
      have JR2 := Nt.Jr.rz HJR1.out Z2 (by omega)
      have hl1 : (LL ++ [Nt.iSplit 0]).length = p + 1 := by rw [List.length_append, Hp.out]; rfl
      rw [hl1] at R2
      obtain ⟨M, hM⟩ : ∃ M, LL ++ [Nt.iSplit 0] ++ Nt.code (T.kids[i]) (p + 1) f = M := ⟨_, rfl⟩
      have hMl : M.length = p + 1 + Nt.sz (T.kids[i]) := by rw [← hM, List.length_append, Nt.code_len, hl1]
      rw [hM] at R2
      have HP2 : Hid _ := rput_jump0 lb M gr _ v2 w2 R2 (by omega)
      obtain ⟨q, hq⟩ : ∃ q, M.length = q := ⟨_, rfl⟩
      rw [hq] at HP2
      have hq2 : q = p + 1 + Nt.sz (T.kids[i]) := by omega
      have HM : Hid _ := hM
      have Hq : Hid _ := hq
      have Hq2 : Hid _ := hq2
      have hqb : q + 1 ≤ 16384 := by omega
      have HZ2 : Hid _ := HZ1.out.trans Z2
      have HNA2 : Hid _ := NA2
      have HND2 : Hid _ := ND2
      have HJR2 : Hid _ := JR2
      have HRo2 : Hid _ := R2.own
      clear Z2 NA2 ND2 JR2 R2 HI HZ1 HNA1 HND1 HJR1 HRo1 hM hq hMl hl1 hq2 q0 q1 q2 q3 q4 q5 q6 q7 q8 r0 r1 r2 r3 r4 r5 r6 r7 r8
      go_wp2_with fail
      refine Calls.mono HP2.out ?_
      rintro e w3 ⟨rfl, v3, R3, Z3⟩
      have hs3 := Z3.size
      have NA3 := Nt.NodeAt.rz HNA2.out Z3 (by omega) (by omega) (Hbox.out _ _ HZ2.out)
      have ND3 := Nt.Nd.rz HND2.out Z3 HRo2.out (by omega)
      have JR3 := Nt.Jr.rz HJR2.out Z3 (by omega)
      have HZ3 : Hid _ := HZ2.out.trans Z3
      have HNA3 : Hid _ := NA3
      have HND3 : Hid _ := ND3
      have HR3 : Hid _ := R3
      clear Z3 NA3 ND3 R3 HP2 HZ2 HNA2 HND2 HJR2 HRo2
      go_wp2_with (at_builtin; go_loud (refine Nt.wpList_append_far _ rfl _ _ 45 rfl (w.heap.size + 1) 3 i1 (.int .i64 0) 1 8 Tryd.underlying45 hi1 hy0 hy1 hy2 rfl (by decide) jx J.length (Nt.icellsN J) rfl (JR3.row.alloc _) ⟨w3.heap.size, 0, none⟩ 1 1 [.int .i64 (q : Int)] rfl ?c1 ?c2 ?c3 ?c4 ?c5 ?c6 ?_))
      case c1 => rfl
      case c2 => exact Nt.one_new _ _ _
      case c3 => exact fun u hu => by simp only [List.mem_singleton] at hu; subst hu; rfl
      case c4 => have := HJl.out; unfold maxLen; omega
      case c5 => have := HJl.out; omega
      case c6 => simp; omega
      intro jv4 w4 hown4 hgr4 _ hat4
      have hBA : Below w3.heap.size w3 (w3.alloc (.cells #[.int .i64 (q : Int)] 3)) := (Below.refl w3.heap.size w3).alloc (Nat.le_refl _) _
      have hsA : (w3.alloc (.cells #[.int .i64 (q : Int)] 3)).heap.size = w3.heap.size + 1 := by simp
      have RA := HR3.out.under hBA
      have JA := JR3.alloc (.cells #[.int .i64 (q : Int)] 3)
      have R4 := RA.grown JA (by omega) hgr4
      have JR4 := Nt.Jr.snoc JA RA hown4 (fun g hg => by
        rcases hat4 with h | h
        · exact .inl (h.symm.trans hg)
        · rw [hg] at h; injection h with h; exact .inr (by omega))
      have Z4 := (HZ3.out.far hBA).grown hgr4 (fun g hg => by have := (JR3.row.lt g hg).1; omega)
      have hs4 : w3.heap.size + 1 ≤ w4.heap.size := by have := hgr4.size; omega
      have hky : ∀ k, k < w.heap.size + 1 → w4.heap[k]? = w3.heap[k]? := fun k hk => by
        rw [hgr4.block k (by omega) (fun e => by have := (JR3.row.lt k e.symm).1; omega), heap_alloc_old w3 _ (show k < w3.heap.size by omega)]
      have NA4 : Nt.NodeAt w4 w.heap.size T _ cap := (hky _ (by omega)).trans HNA3.out
      have ND4 := HND3.out.same (w' := w4) (fun k (hk : k < lb) => hky k (by omega)) (fun _ h => h)
      obtain ⟨M', hM'⟩ : ∃ M', M ++ [Nt.iJump 0] = M' := ⟨_, rfl⟩
      have hMl : M'.length = q + 1 := by rw [← hM', List.length_append, Hq.out]; rfl
      rw [hM'] at R4
      obtain ⟨N, hN⟩ : ∃ N, q + 1 = N := ⟨_, rfl⟩
      obtain ⟨g, c4, hv⟩ := R4.form' (by omega)
      rw [hMl, hN] at hv
      have l2 := R4.cells.2.2
      have e5 : w4.cell? ⟨g, p * 9 + 5, none⟩ = (Nt.insC M')[p * 9 + 5]? := by
        have hr := R4.row
        rw [hv, hMl, hN] at hr
        exact hr.cellAt _ (by have := Hq2.out; omega)
      have f5 : w4.frozen? ⟨g, p * 9 + 5, none⟩ = false := by
        have hr := R4.row
        rw [hv, hMl, hN] at hr
        exact hr.frozenAt _
      obtain ⟨uc, huc⟩ : ∃ uc, (Nt.insC M')[p * 9 + 5]? = some uc := by
        have hl : (Nt.insC M').length = M'.length * 9 := R4.row.1
        exact ⟨_, List.getElem?_eq_getElem (by have := Hq2.out; omega)⟩
      rw [huc] at e5
      have hpN : p < N := by have := Hq2.out; omega
      have HH : Hid _ := rhere_any lb M' gr _ v3 w4.drew ⟨R4.blk, R4.row.drew⟩
      rw [hMl, hN] at HH
      rw [hv] at l2
      have HR4 : Hid _ := R4
      have HJR4 : Hid _ := JR4
      have HZ4 : Hid _ := Z4
      have HNA4 : Hid _ := NA4
      have HND4 : Hid _ := ND4
      have Hv : Hid _ := hv
      have HM' : Hid _ := hM'
      have HMl : Hid _ := hMl
      have HN : Hid _ := hN
      clear hBA hsA RA JA R4 JR4 Z4 hky NA4 ND4 hM' hMl hN hv huc JR3 HR3 HZ3 HNA3 HND3 hown4 hgr4 hat4
      go_wp2_with fail
      go_region_with (go_at_call 63; refine Calls.mono HH.out ?_; rintro e w5 ⟨rfl, rfl⟩)
      all_goals
        have R4 := HR4.out
        rw [Hv.out, ← HN.out, ← HMl.out] at R4
        have R4d : Nt.Rg w4.drew lb M' gr _ _ := ⟨R4.blk, R4.row.drew⟩
        obtain ⟨R5, Z5⟩ := R4d.fill (q := p) (by have := HMl.out; have := HN.out; omega) N
        rw [HMl.out, HN.out, ← Hv.out] at R5 Z5
        have Z5' : Nt.Rz lb v3 v3 w4 (w4.drew.setCell ⟨g, p * 9 + 5, none⟩ (.int .i64 (N : Int))) := ⟨Z5.os, Z5.tape, Z5.output, Z5.size, Z5.block, Z5.row⟩
        have NA5 := Nt.NodeAt.rz HNA4.out Z5' (by omega) (by omega) (Hbox.out _ _ HZ4.out)
        have ND5 := Nt.Nd.rz HND4.out Z5' HR4.out.own (by omega)
        have JR5 := Nt.Jr.rz HJR4.out Z5' (by omega)
        have hset : Nt.setTo M' p N = L ++ Nt.altPre (T.kids.take (i + 1)) L.length 0 f := by
          have e1 : M' = LL ++ Nt.iSplit 0 :: (Nt.code (T.kids[i]) (p + 1) f ++ [Nt.iJump 0]) := by rw [← HM'.out, ← HM.out]; simp
          rw [e1, Nt.setTo_at N Hp.out.symm, HA.out, ← List.append_assoc, HLL.out]
          have e2 : p + Nt.sz (T.kids[i]) + 2 = N := by have := HN.out; have := Hq2.out; omega
          rw [e2]; rfl
        have hslo : Nt.sloF s (Nt.code (T.kids[i]) (p + 1) f) = Nt.sloF sl (Nt.altPre (T.kids.take (i + 1)) L.length 0 f) := by
          rw [HA.out, Nt.sloF_app, Hs.out, Nt.sloF_app, Nt.sloF_split, Nt.sloF_jump]
        have hjj : J ++ [q] = Nt.altJ (T.kids.take (i + 1)) L.length := by
          rw [HJ.out]
          have : p + Nt.sz (T.kids[i]) + 1 = q := by have := Hq2.out; omega
          rw [this]
        rw [hset, hslo] at R5
        rw [hjj] at JR5
        have Z6 := HZ4.out.trans Z5'
        clear R4 R4d Z5 Z5' HR4 HJR4 HZ4 HNA4 HND4 hset hslo hjj
        go_wp2_with fail
        go_roundw
        case rel => exact ⟨i + 1, v3, jv4, rfl, by omega, by go_num, R5, Z6, NA5, ND5, JR5⟩
        case measure => simp [intOf]; omega
    · obtain rfl : i = la := by omega
      have hroom : L.length + (Nt.sz.szL (T.kids.take i) + 2 * i) + Nt.sz (T.kids[i]) = L.length + Nt.sz T := by
        have h1 := Nt.szL_take hlast
        rw [hla2, List.take_length] at h1
        have h3 := Hz.out
        omega
      have hcx : Nt.cnt (T.kids[i]) ≤ Nt.cnt T := by have := Nt.cntL_kid hlast; omega
      obtain ⟨LL, hLL⟩ : ∃ LL, L ++ Nt.altPre (T.kids.take i) L.length 0 f = LL := ⟨_, rfl⟩
      obtain ⟨s, hs⟩ : ∃ s, Nt.sloF sl (Nt.altPre (T.kids.take i) L.length 0 f) = s := ⟨_, rfl⟩
      have HF : Hid _ := Nt.fill_alt (L.length + Nt.sz T) f (T.kids.take i) L (Nt.code (T.kids[i]) (L.length + (Nt.sz.szL (T.kids.take i) + 2 * i)) f)
      have HJt : Hid _ := Nt.altJ_lt (T.kids.take i) L.length
      obtain ⟨J, hJe⟩ : ∃ J, Nt.altJ (T.kids.take i) L.length = J := ⟨_, rfl⟩
      rw [hLL, hs] at Ri
      rw [hJe] at JR
      simp only [hLL, hJe] at HF HJt
      obtain ⟨p, hp⟩ : ∃ p, L.length + (Nt.sz.szL (T.kids.take i) + 2 * i) = p := ⟨_, rfl⟩
      have hp2 : LL.length = p := by rw [← hp, ← hLL, List.length_append, Nt.altPre_len, List.length_take, Nat.min_eq_left (by omega)]
      have hJlt : ∀ q ∈ J, q < p := fun q hq => by have := HJt.out q hq; rw [List.length_take, Nat.min_eq_left (by omega), hp] at this; exact this
      have HJlt : Hid _ := hJlt
      rw [hp] at HF HC hroom
      have Hs : Hid _ := hs
      have Hp2 : Hid _ := hp2
      have Hroom : Hid _ := hroom
      obtain ⟨kb, ko, a', cap', rfl, hkb, h9, hkd⟩ := ND.kid hlast
      obtain ⟨r0, r1, r2, r3, r4, r5, r6, r7, r8⟩ := h9
      have HI : Hid _ := HK.out i hlast a' cap' lb LL gr s vi f wr Ri hkd (by have := Hr.out; omega) (by have := Hf.out; omega)
      rw [hp2] at HI
      simp only [Nt.ndV, Nt.ndA] at HI
      have HZi : Hid _ := Zi
      have HJR : Hid _ := JR
      have HRo : Hid _ := Ri.own
      have hJm : J.length ≤ 16384 := by
        have h1 := Hr.out
        have h2 := Hz.out
        rw [← hJe, Nt.altJ_len, List.length_take]; omega
      clear Ri Zi NA ND JR hkd hLL hs hJe hp hp2 hJlt HJt hroom
      go_wp2_with fail
      refine Calls.mono HI.out ?_
      rintro e w2 ⟨⟨u, rfl⟩, v2, R2, Z2⟩
      have hs2 := Z2.size
      have JR2 := Nt.Jr.rz HJR.out Z2 (by omega)
      obtain ⟨M, hM⟩ : ∃ M, LL ++ Nt.code (T.kids[i]) p f = M := ⟨_, rfl⟩
      have hMl : M.length = L.length + Nt.sz T := by rw [← hM, List.length_append, Nt.code_len, Hp2.out]; exact Hroom.out
      rw [hM] at R2 HF
      obtain ⟨s2, hs2e⟩ : ∃ s2, Nt.sloF s (Nt.code (T.kids[i]) p f) = s2 := ⟨_, rfl⟩
      rw [hs2e] at R2
      obtain ⟨N, hN⟩ : ∃ N, L.length + Nt.sz T = N := ⟨_, rfl⟩
      rw [hN] at hMl HF HC
      obtain ⟨ja, jc, rfl⟩ := JR2.form
      have hNp : p ≤ N := by rw [← hN]; have := Hroom.out; omega
      have hNb : N ≤ 16384 := by rw [← hN]; exact Hr.out
      obtain ⟨c2, hv⟩ | hzero : (∃ c2 g, v2 = .slice (some ⟨g, 0, none⟩) N c2) ∨ N = 0 := by
        by_cases h0 : N = 0
        · exact .inr h0
        · obtain ⟨g, c, h⟩ := R2.form' (by omega)
          exact .inl ⟨c, g, by rw [h, hMl]⟩
      · obtain ⟨g, hv⟩ := hv
        have HR2 : Hid _ := R2
        have HJR2 : Hid _ := JR2
        have HZ2 : Hid _ := HZi.out.trans Z2
        have HMl : Hid _ := hMl
        have Hv : Hid _ := hv
        have HM : Hid _ := hM
        have Hs2 : Hid _ := hs2e
        clear R2 JR2 Z2 hMl hv HI HJR HRo r0 r1 r2 r3 r4 r5 r6 r7 r8 q0 q1 q2 q3 q4 q5 q6 q7 q8 hM hs2e
        go_wp2_with fail
        go_loopw [11] (fun iv wz => ∃ k : Nat, k ≤ J.length ∧ iv = .int .i64 (k : Int) ∧ Nt.Rg wz lb (Nt.fills M (J.take k) N) gr s2 v2 ∧ Nt.Rz lb v2 v2 w2 wz ∧ Nt.Jr wz (w.heap.size + 1) v2 (.slice ja J.length jc) J) (fun iv _ => J.length - (intOf iv).toNat)
        case atStart => exact ⟨0, by omega, rfl, HR2.out, Nt.Rz.refl _ _ _, HJR2.out⟩
        case round =>
          clear HR2 HJR2
          obtain ⟨k, hk', rfl, Rk, Zk, Jk⟩ := hrel
          by_cases hkl : k < J.length
          · obtain ⟨jg, rfl, jc0⟩ := Jk.at hkl
            have hq := HJlt.out _ (List.getElem_mem hkl)
            have HT : Hid _ := Nt.fills_take hkl M N
            obtain ⟨q, hqe⟩ : ∃ q, J[k] = q := ⟨_, rfl⟩
            rw [hqe] at jc0 hq HT
            have hln : (Nt.fills M (J.take k) N).length = N := by rw [Nt.fills_len, HMl.out]
            obtain ⟨F, hF⟩ : ∃ F, Nt.fills M (J.take k) N = F := ⟨_, rfl⟩
            rw [hF] at Rk HT hln
            have l2 := Rk.cells.2.2
            rw [Hv.out] at l2
            have hr := Rk.row
            rw [Hv.out, hln] at hr
            have e5 := hr.cellAt (q * 9 + 5) (by omega)
            have f5 := hr.frozenAt (q * 9 + 5)
            obtain ⟨uc, huc⟩ : ∃ uc, (Nt.insC F)[q * 9 + 5]? = some uc := by
              have hl := hr.1
              exact ⟨_, List.getElem?_eq_getElem (by omega)⟩
            rw [huc] at e5
            have HH : Hid _ := rhere_any lb F gr _ v2 _ Rk.drew
            rw [hln] at HH
            have HRk : Hid _ := Rk
            have HZk : Hid _ := Zk
            have HJk : Hid _ := Jk
            have Hln : Hid _ := hln
            have HF2 : Hid _ := hF
            clear Rk Zk Jk hr hln huc hF hqe
            go_wp2_with fail
            go_region_with (go_at_call 63; refine Calls.mono HH.out ?_; rintro e w5 ⟨rfl, rfl⟩)
            all_goals
              have R4 := HRk.out.drew
              rw [Hv.out, ← Hln.out] at R4
              obtain ⟨R5, Z5⟩ := R4.fill (q := q) (by have := Hln.out; omega) N
              rw [Hln.out, ← Hv.out] at R5 Z5
              rw [← HT.out] at R5
              have Z6 := HZk.out.trans Z5.drewL
              have JR6 := Nt.Jr.rz HJk.out Z5.drewL (by omega)
              clear R4 Z5 HRk HZk HJk
              go_wp2_with fail
              go_roundw
              case rel => exact ⟨k + 1, by omega, by go_num, R5, Z6, JR6⟩
              case measure => simp [intOf]; omega
          · obtain rfl : k = J.length := by omega
            have HRk : Hid _ := Rk
            have HZk : Hid _ := HZ0.out.trans (HZ2.out.trans Zk)
            clear Rk Zk Jk
            go_wp2_with fail
            go_end0
            refine ⟨⟨_, rfl⟩, v2, ?_, HZk.out⟩
            have R7 := HRk.out
            rw [List.take_length, HF.out] at R7
            have e7 : Nt.sloF sl (Nt.altPre (T.kids.take i) L.length N f ++ Nt.code (T.kids[i]) p f) = s2 := by
              rw [Nt.sloF_app, Nt.sloF_pre N 0 f, Hs.out, Hs2.out]
            rw [HC.out, e7, ← List.append_assoc]
            exact R7
      · exact absurd hzero (by have h1 := Hr.out; have h2 := Hz.out; omega)
end Go.Proofs.YtjiglgfnmgcmjaaDoor
