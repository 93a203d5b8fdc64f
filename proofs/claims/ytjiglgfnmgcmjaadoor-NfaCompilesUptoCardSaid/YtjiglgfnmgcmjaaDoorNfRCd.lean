/- What the reference's code does with a leaf, with nothing, with a Cat and with a Group. -/
import Derived.Test.YtjiglgfnmgcmjaaDoorNfRRd
import Derived.Test.YtjiglgfnmgcmjaaDoorNfM4
import Derived.Test.YtjiglgfnmgcmjaaDoorNfRSz
namespace Go.Proofs.YtjiglgfnmgcmjaaDoor
open Go Go.RowKit

set_option maxRecDepth 100000 in
set_option maxHeartbeats 4000000 in
theorem rcode_set (T : Nt.NT) (hk : T.k = 2) : Nt.RayC T := by
  intro a cap lb L gr sl v f w h hN hr hf
  have hlt := h.lt
  have N0 := Nt.node_new w T a cap
  have hB0 : Below w.heap.size w (w.alloc (.cells (Nt.ndA T a cap) 28)) := (Below.refl w.heap.size w).alloc (Nat.le_refl _) _
  have hs0 : (w.alloc (.cells (Nt.ndA T a cap) 28)).heap.size = w.heap.size + 1 := by simp
  obtain ⟨W, hW⟩ : ∃ W, W = w.alloc (.cells (Nt.ndA T a cap) 28) := ⟨_, rfl⟩
  rw [← hW] at N0 hB0 hs0
  have HR0 : Hid _ := h.under hB0
  have HZ0 : Hid _ := Nt.Rz.of_below (lb := lb) v hB0
  have HD0 : Hid _ := hN.under (hB0.mono (Nat.le_of_lt hlt))
  have HN0 : Hid _ := N0
  have Ho : Hid _ := h.own
  have Hr : Hid _ := hr
  have Hf : Hid _ := hf
  have d2 : ((T.k : Int) == 2) = true := by simp; omega
  have hc : Nt.code T L.length f = [Nt.iSet T.s] := by rw [Nt.code_eq, hk]; rfl
  have hz : Nt.sz T = 1 := by rw [← Nt.code_len T L.length f, hc]; rfl
  rw [hc]
  have HP : Hid _ := rput_set lb L T.s gr sl v W HR0.out (by omega)
  simp only [Nt.ndV, Nt.ndA] at hW ⊢
  clear N0 hB0 hN h hr hf hc hz hk
  go_enter Tryd.func39, Tryd.ntmps39
  go_wp2_with fail
  rw [← hW]
  clear hW
  refine Calls.mono HP.out ?_
  rintro e w1 ⟨rfl, v1, R1, Z1⟩
  go_wp2_with fail
  go_end0
  exact ⟨⟨_, rfl⟩, v1, R1, HZ0.out.trans Z1⟩
set_option maxRecDepth 100000 in
set_option maxHeartbeats 4000000 in
theorem rcode_back (T : Nt.NT) (hk : T.k = 7) : Nt.RayC T := by
  intro a cap lb L gr sl v f w h hN hr hf
  have hlt := h.lt
  have N0 := Nt.node_new w T a cap
  have hB0 : Below w.heap.size w (w.alloc (.cells (Nt.ndA T a cap) 28)) := (Below.refl w.heap.size w).alloc (Nat.le_refl _) _
  have hs0 : (w.alloc (.cells (Nt.ndA T a cap) 28)).heap.size = w.heap.size + 1 := by simp
  obtain ⟨W, hW⟩ : ∃ W, W = w.alloc (.cells (Nt.ndA T a cap) 28) := ⟨_, rfl⟩
  rw [← hW] at N0 hB0 hs0
  have HR0 : Hid _ := h.under hB0
  have HZ0 : Hid _ := Nt.Rz.of_below (lb := lb) v hB0
  have HD0 : Hid _ := hN.under (hB0.mono (Nat.le_of_lt hlt))
  have HN0 : Hid _ := N0
  have Ho : Hid _ := h.own
  have Hr : Hid _ := hr
  have Hf : Hid _ := hf
  have d2 : ((T.k : Int) == 2) = false := by simp; omega
  have d8 : ((T.k : Int) == 8) = false := by simp; omega
  have d9 : ((T.k : Int) == 9) = false := by simp; omega
  have d7 : ((T.k : Int) == 7) = true := by simp; omega
  have hc : Nt.code T L.length f = [Nt.iBack T.gr] := by rw [Nt.code_eq, hk]; rfl
  have hz : Nt.sz T = 1 := by rw [← Nt.code_len T L.length f, hc]; rfl
  rw [hc]
  have HP : Hid _ := rput_back lb L T.gr gr sl v W HR0.out (by omega)
  simp only [Nt.ndV, Nt.ndA] at hW ⊢
  clear N0 hB0 hN h hr hf hc hz hk
  go_enter Tryd.func39, Tryd.ntmps39
  go_wp2_with fail
  rw [← hW]
  clear hW
  refine Calls.mono HP.out ?_
  rintro e w1 ⟨rfl, v1, R1, Z1⟩
  go_wp2_with fail
  go_end0
  exact ⟨⟨_, rfl⟩, v1, R1, HZ0.out.trans Z1⟩
set_option maxRecDepth 100000 in
set_option maxHeartbeats 4000000 in
theorem rcode_begin (T : Nt.NT) (hk : T.k = 8) : Nt.RayC T := by
  intro a cap lb L gr sl v f w h hN hr hf
  have hlt := h.lt
  have N0 := Nt.node_new w T a cap
  have hB0 : Below w.heap.size w (w.alloc (.cells (Nt.ndA T a cap) 28)) := (Below.refl w.heap.size w).alloc (Nat.le_refl _) _
  have hs0 : (w.alloc (.cells (Nt.ndA T a cap) 28)).heap.size = w.heap.size + 1 := by simp
  obtain ⟨W, hW⟩ : ∃ W, W = w.alloc (.cells (Nt.ndA T a cap) 28) := ⟨_, rfl⟩
  rw [← hW] at N0 hB0 hs0
  have HR0 : Hid _ := h.under hB0
  have HZ0 : Hid _ := Nt.Rz.of_below (lb := lb) v hB0
  have HD0 : Hid _ := hN.under (hB0.mono (Nat.le_of_lt hlt))
  have HN0 : Hid _ := N0
  have Ho : Hid _ := h.own
  have Hr : Hid _ := hr
  have Hf : Hid _ := hf
  have d2 : ((T.k : Int) == 2) = false := by simp; omega
  have d8 : ((T.k : Int) == 8) = true := by simp; omega
  have hc : Nt.code T L.length f = [Nt.iBegin] := by rw [Nt.code_eq, hk]; rfl
  have hz : Nt.sz T = 1 := by rw [← Nt.code_len T L.length f, hc]; rfl
  rw [hc]
  have HP : Hid _ := rput_begin lb L gr sl v W HR0.out (by omega)
  simp only [Nt.ndV, Nt.ndA] at hW ⊢
  clear N0 hB0 hN h hr hf hc hz hk
  go_enter Tryd.func39, Tryd.ntmps39
  go_wp2_with fail
  rw [← hW]
  clear hW
  refine Calls.mono HP.out ?_
  rintro e w1 ⟨rfl, v1, R1, Z1⟩
  go_wp2_with fail
  go_end0
  exact ⟨⟨_, rfl⟩, v1, R1, HZ0.out.trans Z1⟩
set_option maxRecDepth 100000 in
set_option maxHeartbeats 4000000 in
theorem rcode_end (T : Nt.NT) (hk : T.k = 9) : Nt.RayC T := by
  intro a cap lb L gr sl v f w h hN hr hf
  have hlt := h.lt
  have N0 := Nt.node_new w T a cap
  have hB0 : Below w.heap.size w (w.alloc (.cells (Nt.ndA T a cap) 28)) := (Below.refl w.heap.size w).alloc (Nat.le_refl _) _
  have hs0 : (w.alloc (.cells (Nt.ndA T a cap) 28)).heap.size = w.heap.size + 1 := by simp
  obtain ⟨W, hW⟩ : ∃ W, W = w.alloc (.cells (Nt.ndA T a cap) 28) := ⟨_, rfl⟩
  rw [← hW] at N0 hB0 hs0
  have HR0 : Hid _ := h.under hB0
  have HZ0 : Hid _ := Nt.Rz.of_below (lb := lb) v hB0
  have HD0 : Hid _ := hN.under (hB0.mono (Nat.le_of_lt hlt))
  have HN0 : Hid _ := N0
  have Ho : Hid _ := h.own
  have Hr : Hid _ := hr
  have Hf : Hid _ := hf
  have d2 : ((T.k : Int) == 2) = false := by simp; omega
  have d8 : ((T.k : Int) == 8) = false := by simp; omega
  have d9 : ((T.k : Int) == 9) = true := by simp; omega
  have hc : Nt.code T L.length f = [Nt.iEnd] := by rw [Nt.code_eq, hk]; rfl
  have hz : Nt.sz T = 1 := by rw [← Nt.code_len T L.length f, hc]; rfl
  rw [hc]
  have HP : Hid _ := rput_end lb L gr sl v W HR0.out (by omega)
  simp only [Nt.ndV, Nt.ndA] at hW ⊢
  clear N0 hB0 hN h hr hf hc hz hk
  go_enter Tryd.func39, Tryd.ntmps39
  go_wp2_with fail
  rw [← hW]
  clear hW
  refine Calls.mono HP.out ?_
  rintro e w1 ⟨rfl, v1, R1, Z1⟩
  go_wp2_with fail
  go_end0
  exact ⟨⟨_, rfl⟩, v1, R1, HZ0.out.trans Z1⟩
set_option maxRecDepth 100000 in
set_option maxHeartbeats 4000000 in
theorem rcode_empty (T : Nt.NT) (hk : T.k = 1) (hfit : Nt.fitP T = true) : Nt.RayC T := by
  intro a cap lb L gr sl v f w h hN hr hf
  have hlt := h.lt
  have N0 := Nt.node_new w T a cap
  have hB0 : Below w.heap.size w (w.alloc (.cells (Nt.ndA T a cap) 28)) := (Below.refl w.heap.size w).alloc (Nat.le_refl _) _
  have hs0 : (w.alloc (.cells (Nt.ndA T a cap) 28)).heap.size = w.heap.size + 1 := by simp
  obtain ⟨W, hW⟩ : ∃ W, W = w.alloc (.cells (Nt.ndA T a cap) 28) := ⟨_, rfl⟩
  rw [← hW] at N0 hB0 hs0
  have HR0 : Hid _ := h.under hB0
  have HZ0 : Hid _ := Nt.Rz.of_below (lb := lb) v hB0
  have HD0 : Hid _ := hN.under (hB0.mono (Nat.le_of_lt hlt))
  have HN0 : Hid _ := N0
  have Ho : Hid _ := h.own
  have Hr : Hid _ := hr
  have Hf : Hid _ := hf
  have d2 : ((T.k : Int) == 2) = false := by simp; omega
  have d8 : ((T.k : Int) == 8) = false := by simp; omega
  have d9 : ((T.k : Int) == 9) = false := by simp; omega
  have d7 : ((T.k : Int) == 7) = false := by simp; omega
  have d3 : ((T.k : Int) == 3) = false := by simp; omega
  have d6 : ((T.k : Int) == 6) = false := by simp; omega
  have d4 : ((T.k : Int) == 4) = false := by simp; omega
  have d5 : ((T.k : Int) == 5) = false := by simp; omega
  have hc : Nt.code T L.length f = [] := by rw [Nt.code_eq, hk, Nt.fit_kids0 hfit hk]; rfl
  rw [hc, List.append_nil]
  simp only [Nt.ndV, Nt.ndA] at hW ⊢
  clear N0 hB0 hN h hr hf hc hk hfit
  go_enter Tryd.func39, Tryd.ntmps39
  go_wp2_with fail
  rw [← hW]
  go_end0
  exact ⟨⟨_, rfl⟩, v, HR0.out, HZ0.out⟩
set_option maxRecDepth 100000 in
set_option maxHeartbeats 4000000 in
theorem rcode_group (T : Nt.NT) (hk : T.k = 6) (h1 : T.kids.length = 1) (HK : ∀ i (h : i < T.kids.length), Nt.RayC (T.kids[i])) : Nt.RayC T := by
  intro a cap lb L gr sl v f w h hN hr hf
  have hlt := h.lt
  have N0 := Nt.node_new w T a cap
  have hB0 : Below w.heap.size w (w.alloc (.cells (Nt.ndA T a cap) 28)) := (Below.refl w.heap.size w).alloc (Nat.le_refl _) _
  have hs0 : (w.alloc (.cells (Nt.ndA T a cap) 28)).heap.size = w.heap.size + 1 := by simp
  obtain ⟨W, hW⟩ : ∃ W, W = w.alloc (.cells (Nt.ndA T a cap) 28) := ⟨_, rfl⟩
  rw [← hW] at N0 hB0 hs0
  have HR0 : Hid _ := h.under hB0
  have HZ0 : Hid _ := Nt.Rz.of_below (lb := lb) v hB0
  have HD0 : Hid _ := hN.under (hB0.mono (Nat.le_of_lt hlt))
  have HN0 : Hid _ := N0
  have Ho : Hid _ := h.own
  have Hr : Hid _ := hr
  have Hf : Hid _ := hf
  have d2 : ((T.k : Int) == 2) = false := by simp; omega
  have d8 : ((T.k : Int) == 8) = false := by simp; omega
  have d9 : ((T.k : Int) == 9) = false := by simp; omega
  have d7 : ((T.k : Int) == 7) = false := by simp; omega
  have d3 : ((T.k : Int) == 3) = false := by simp; omega
  have d6 : ((T.k : Int) == 6) = true := by simp; omega
  have hlt0 : 0 < T.kids.length := by omega
  have hc : Nt.code T L.length f = Nt.iOpen T.gr :: Nt.code (T.kids[0]) (L.length + 1) f ++ [Nt.iClose T.gr] := by
    rw [Nt.code_eq, hk]
    show Nt.iOpen T.gr :: Nt.codeL T.kids (L.length + 1) f ++ [Nt.iClose T.gr] = _
    rw [Nt.codeL_one T.kids h1 hlt0]
  have hz : Nt.sz T = Nt.sz (T.kids[0]) + 2 := by
    rw [← Nt.code_len T L.length f, hc]
    simp [Nt.code_len]
  rw [hc]
  have Hz : Hid _ := hz
  have hct : Nt.cnt (T.kids[0]) ≤ Nt.cnt T := by have := Nt.cntL_kid hlt0; omega
  have HP : Hid _ := rput_open lb L T.gr gr sl v W HR0.out (by omega)
  have HKi : Hid _ := HK 0 hlt0
  simp only [Nt.ndV, Nt.ndA] at hW ⊢
  clear N0 hB0 hN h hr hf hc hz hk HK h1
  go_enter Tryd.func39, Tryd.ntmps39
  go_wp2_with fail
  rw [← hW]
  clear hW
  refine Calls.mono HP.out ?_
  rintro e w1 ⟨rfl, v1, R1, Z1⟩
  have hs1 := Z1.size
  have A1 := Nt.NodeAt.rz HN0.out Z1 (by omega) (by omega) (fun e => by have := (Ho.out _ e.symm).2; omega)
  have D1 := Nt.Nd.rz HD0.out Z1 (fun g hg => by have := Ho.out g hg; omega) (by omega)
  obtain ⟨q0, q1, q2, q3, q4, q5, q6, q7, q8⟩ := A1.nine
  obtain ⟨kb, ko, a', cap', rfl, hkb, h9, hkd⟩ := D1.kid hlt0
  rw [Nat.zero_mul, Nat.add_zero] at h9
  obtain ⟨r0, r1, r2, r3, r4, r5, r6, r7, r8⟩ := h9
  have HC : Hid _ := HKi.out a' cap' lb (L ++ [Nt.iOpen T.gr]) gr sl v1 f w1 R1 hkd (by have := Hr.out; have := Hz.out; simp; omega) (by have := Hf.out; omega)
  have HA1 : Hid _ := A1
  have Ho1 : Hid _ := R1.own
  have HZ1 : Hid _ := HZ0.out.trans Z1
  have HrZ : Hid _ := Z1.row
  simp only [Nt.ndV, Nt.ndA] at HC
  clear A1 D1 R1 Z1 hkd HP HKi
  go_wp2_with fail
  refine Calls.mono HC.out ?_
  rintro e w2 ⟨⟨u, rfl⟩, v2, R2, Z2⟩
  have HP2 : Hid _ := rput_close lb _ T.gr gr _ v2 w2 R2 (by have := Hr.out; have := Hz.out; simp [Nt.code_len]; omega)
  have A2 := Nt.NodeAt.rz HA1.out Z2 (by omega) (by omega) (fun e => by
    rcases HrZ.out _ e.symm with h | h
    · have := (Ho.out _ h).2; omega
    · omega)
  obtain ⟨q0, q1, q2, q3, q4, q5, q6, q7, q8⟩ := A2.nine
  have HZ2 : Hid _ := HZ1.out.trans Z2
  clear A2 R2 Z2 HC r0 r1 r2 r3 r4 r5 r6 r7 r8
  go_wp2_with fail
  refine Calls.mono HP2.out ?_
  rintro e w3 ⟨rfl, v3, R3, Z3⟩
  go_wp2_with fail
  go_end0
  refine ⟨⟨_, rfl⟩, v3, ?_, HZ2.out.trans Z3⟩
  rw [List.length_append, List.length_singleton] at R3
  have e1 : L ++ Nt.iOpen T.gr :: (Nt.code (T.kids[0]) (L.length + 1) f ++ [Nt.iClose T.gr]) = L ++ [Nt.iOpen T.gr] ++ Nt.code (T.kids[0]) (L.length + 1) f ++ [Nt.iClose T.gr] := by simp
  have e2 : Nt.sloF sl (Nt.iOpen T.gr :: (Nt.code (T.kids[0]) (L.length + 1) f ++ [Nt.iClose T.gr])) = Nt.sloF sl (Nt.code (T.kids[0]) (L.length + 1) f) := by
    rw [Nt.sloF_cons, Nt.sloF_app]; rfl
  rw [e1, e2]
  exact R3
set_option maxRecDepth 100000 in
set_option maxHeartbeats 4000000 in
theorem rcode_cat (T : Nt.NT) (hk : T.k = 3) (HK : ∀ i (h : i < T.kids.length), Nt.RayC (T.kids[i])) : Nt.RayC T := by
  intro a cap lb L gr sl v f w h hN hr hf
  have hlt := h.lt
  have N0 := Nt.node_new w T a cap
  have hB0 : Below w.heap.size w (w.alloc (.cells (Nt.ndA T a cap) 28)) := (Below.refl w.heap.size w).alloc (Nat.le_refl _) _
  have hs0 : (w.alloc (.cells (Nt.ndA T a cap) 28)).heap.size = w.heap.size + 1 := by simp
  obtain ⟨W, hW⟩ : ∃ W, W = w.alloc (.cells (Nt.ndA T a cap) 28) := ⟨_, rfl⟩
  rw [← hW] at N0 hB0 hs0
  have HR0 : Hid _ := h.under hB0
  have HZ0 : Hid _ := Nt.Rz.of_below (lb := lb) v hB0
  have HD0 : Hid _ := hN.under (hB0.mono (Nat.le_of_lt hlt))
  have HN0 : Hid _ := N0
  have Ho : Hid _ := h.own
  have Hr : Hid _ := hr
  have Hf : Hid _ := hf
  have d2 : ((T.k : Int) == 2) = false := by simp; omega
  have d8 : ((T.k : Int) == 8) = false := by simp; omega
  have d9 : ((T.k : Int) == 9) = false := by simp; omega
  have d7 : ((T.k : Int) == 7) = false := by simp; omega
  have d3 : ((T.k : Int) == 3) = true := by simp; omega
  have hc : Nt.code T L.length f = Nt.codeL T.kids L.length f := by rw [Nt.code_eq, hk]; rfl
  have hz : Nt.sz T = Nt.sz.szL T.kids := by rw [Nt.sz_eq, hk]; rfl
  rw [hc]
  have Hz : Hid _ := hz
  have HK : Hid _ := HK
  have hlm := hN.room.1
  simp only [Nt.ndV, Nt.ndA] at hW ⊢
  clear N0 hB0 hN h hr hf hc hz hk
  go_enter Tryd.func39, Tryd.ntmps39
  go_wp2_with fail
  rw [← hW]
  clear hW
  go_loopw [6] (fun iv wr => ∃ (i : Nat) (vi : Value), i ≤ T.kids.length ∧ iv = .int .i64 (i : Int) ∧ Nt.Rg wr lb (L ++ Nt.codeL (T.kids.take i) L.length f) gr (Nt.sloF sl (Nt.codeL (T.kids.take i) L.length f)) vi ∧ Nt.Rz lb v vi W wr ∧ Nt.NodeAt wr w.heap.size T a cap ∧ Nt.Nd wr (· < lb) T a cap) (fun iv _ => T.kids.length - (intOf iv).toNat)
  case atStart => exact ⟨0, v, by omega, rfl, by rw [List.take_zero, Nt.codeL, List.append_nil]; exact HR0.out, Nt.Rz.refl _ _ _, HN0.out, HD0.out⟩
  case round =>
    clear HR0 HN0 HD0
    obtain ⟨i, vi, hi, rfl, Ri, Zi, NA, ND⟩ := hrel
    obtain ⟨q0, q1, q2, q3, q4, q5, q6, q7, q8⟩ := NA.nine
    have hsi := Zi.size
    by_cases hlt' : i < T.kids.length
    · obtain ⟨kb, ko, a', cap', rfl, hkb, h9, hkd⟩ := ND.kid hlt'
      obtain ⟨r0, r1, r2, r3, r4, r5, r6, r7, r8⟩ := h9
      have hlen : (L ++ Nt.codeL (T.kids.take i) L.length f).length = L.length + Nt.sz.szL (T.kids.take i) := by rw [List.length_append, Nt.codeL_length]
      have HI : Hid _ := HK.out i hlt' a' cap' lb (L ++ Nt.codeL (T.kids.take i) L.length f) gr _ vi f wr Ri hkd (by rw [hlen]; have h1 := Nt.szL_take hlt'; have h2 := Nt.szL_mono T.kids (i + 1); have h3 := Hr.out; have h4 := Hz.out; omega) (by have h1 := Nt.cntL_kid hlt'; have h2 := Hf.out; omega)
      have HT : Hid _ := Nt.codeL_take hlt' L.length f
      have Hlen : Hid _ := hlen
      have HRi : Hid _ := Ri
      have HZi : Hid _ := Zi
      have HNA : Hid _ := NA
      have HND : Hid _ := ND
      simp only [Nt.ndV, Nt.ndA] at HI
      clear hkd hlen Ri Zi NA ND
      go_wp2_with fail
      refine Calls.mono HI.out ?_
      rintro e w2 ⟨⟨u, rfl⟩, v2, R2, Z2⟩
      have NA2 := Nt.NodeAt.rz HNA.out Z2 (by omega) (by omega) (fun e => by
        rcases HZi.out.row _ e.symm with h | h
        · have := (Ho.out _ h).2; omega
        · omega)
      have ND2 := Nt.Nd.rz HND.out Z2 HRi.out.own (by omega)
      have R3 : Nt.Rg w2 lb (L ++ Nt.codeL (T.kids.take (i + 1)) L.length f) gr (Nt.sloF sl (Nt.codeL (T.kids.take (i + 1)) L.length f)) v2 := by
        rw [HT.out, ← List.append_assoc, Nt.sloF_app, ← Hlen.out]; exact R2
      have Z3 := HZi.out.trans Z2
      clear HI R2 Z2 HRi HZi HNA HND q0 q1 q2 q3 q4 q5 q6 q7 q8 r0 r1 r2 r3 r4 r5 r6 r7 r8
      go_wp2_with fail
      go_roundw
      case rel => exact ⟨i + 1, v2, by omega, by go_num, R3, Z3, NA2, ND2⟩
      case measure => simp [intOf]; omega
    · obtain rfl : i = T.kids.length := by omega
      have HRi : Hid _ := Ri
      have HZi : Hid _ := HZ0.out.trans Zi
      clear NA ND Ri Zi
      go_wp2_with fail
      go_end0
      exact ⟨⟨_, rfl⟩, vi, by have := HRi.out; rw [List.take_length] at this; exact this, HZi.out⟩
end Go.Proofs.YtjiglgfnmgcmjaaDoor
