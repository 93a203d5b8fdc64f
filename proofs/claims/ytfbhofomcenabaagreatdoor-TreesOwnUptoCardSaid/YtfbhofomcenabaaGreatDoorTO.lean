/- What paths.shared, paths.Within and the reference's both and Same answer. What paths.Within answers. A file as a line tells it, in memory; what its opens answers. What paths.Compare (by slices.Compare and cmp.Compare) answer. -/
import Derived.Test.YtfbhofomcenabaaGreatDoorTJ
import Derived.Deep.QuietTactic
import Derived.BigQuiet
import Derived.Test.YtfbhofomcenabaaGreatDoorTN
import Derived.BigRegion
import Derived.Test.YtfbhofomcenabaaGreatDoorPlainCmp
namespace Go.Proofs.YtfbhofomcenabaaGreatDoor
open Go.RowKit

set_option maxHeartbeats 800000 in
theorem shared_any (a1 a2 : Option Addr) (c1 c2 : Nat) (l1 l2 : List ByteArray) (w : World) (h1 : Strs w a1 c1 l1) (h2 : Strs w a2 c2 l2) :
    Calls Tryz.prog 142 #[.slice a1 l1.length c1, .slice a2 l2.length c2] w fun e w' => e = .returned (.int .i64 (Pl.com l1 l2 : Nat)) ∧ ∃ n, w' = w.drewN n := by
  have hl1 := h1.len
  have hl2 := h2.len
  go_enter Tryz.func142, Tryz.ntmps142
  go_wp2
  go_loopw [5] (fun v wr => ∃ k m : Nat, k ≤ l1.length ∧ k ≤ l2.length ∧ v = .int .i64 k ∧ Hid (Pl.com l1 l2 = k + Pl.com (l1.drop k) (l2.drop k)) ∧ wr = w.drewN m)
    (fun v _ => l1.length - (intOf v).toNat)
  case atStart => exact ⟨0, 0, Nat.zero_le _, Nat.zero_le _, rfl, by simp [Hid], rfl⟩
  case round =>
    obtain ⟨k, m, hk1, hk2, rfl, HC, rfl⟩ := hrel
    by_cases hlt1 : k < l1.length
    · by_cases hlt2 : k < l2.length
      · obtain ⟨b1, o1, rfl, hb1, hc1⟩ := h1.cells k hlt1
        obtain ⟨b2, o2, rfl, hb2, hc2⟩ := h2.cells k hlt2
        have HS := @Pl.com_step l1 l2 k hlt1 hlt2
        have HT := @Pl.com_stop l1 l2 k hlt1 hlt2
        have HS' : Hid (((l1[k]'hlt1).toList == (l2[k]'hlt2).toList) = true → Pl.com (l1.drop k) (l2.drop k) = 1 + Pl.com (l1.drop (k + 1)) (l2.drop (k + 1))) := HS
        have HT' : Hid (((l1[k]'hlt1).toList == (l2[k]'hlt2).toList) = false → Pl.com (l1.drop k) (l2.drop k) = 0) := HT
        clear HS HT
        have i1 : (k : Int) < (l1.length : Int) := by omega
        have i2 : (k : Int) < (l2.length : Int) := by omega
        generalize l1[k]'hlt1 = x at *
        generalize l2[k]'hlt2 = y at *
        cases hxy : (x.toList == y.toList)
        · have HE : Hid (Pl.com l1 l2 = k) := by have := HC.out; rw [HT'.out hxy] at this; exact this
          go_wp2_with fail
          go_quiet (fail)
          go_wp2
          go_ret
          exact ⟨ret_int (by rw [HE.out]), m + nq, by simp⟩
        · have HE : Hid (Pl.com l1 l2 = (k + 1) + Pl.com (l1.drop (k + 1)) (l2.drop (k + 1))) := by have := HC.out; rw [HS'.out hxy] at this; show _ = _; omega
          go_wp2_with fail
          go_quiet (fail)
          go_wp2
          go_roundw
          case rel => exact ⟨k + 1, m + nq, by omega, by omega, by go_num, HE, by first | rfl | simp⟩
          case measure => simp [intOf]; omega
      · have HE : Hid (Pl.com l1 l2 = k) := by have := HC.out; rw [Pl.com_end_right hlt2] at this; exact this
        have i1 : (k : Int) < (l1.length : Int) := by omega
        have i2 : decide ((k : Int) < (l2.length : Int)) = false := by simp; omega
        go_wp2_with fail
        go_quiet (fail)
        go_wp2
        go_ret
        exact ⟨ret_int (by rw [HE.out]), m + nq, by simp⟩
    · have HE : Hid (Pl.com l1 l2 = k) := by have := HC.out; rw [Pl.com_end_left hlt1] at this; exact this
      have i1 : decide ((k : Int) < (l1.length : Int)) = false := by simp; omega
      go_wp2_with fail
      go_quiet (fail)
      go_wp2
      go_ret
      exact ⟨ret_int (by rw [HE.out]), m + nq, by simp⟩
end Go.Proofs.YtfbhofomcenabaaGreatDoor
namespace Go.Proofs.YtfbhofomcenabaaGreatDoor
open Go.RowKit

set_option maxHeartbeats 400000 in
theorem within_any (a1 a2 : Option Addr) (c1 c2 : Nat) (l1 l2 : List ByteArray) (w : World) (h1 : Strs w a1 c1 l1) (h2 : Strs w a2 c2 l2) :
    Calls Tryz.prog 115 #[.slice a1 l1.length c1, .slice a2 l2.length c2] w fun e w' => e = .returned (.bool (Pl.withinP l1 l2)) ∧ ∃ n, w' = w.drewN n := by
  have hl1 := h1.len
  have hl2 := h2.len
  go_enter Tryz.func115, Tryz.ntmps115
  go_wp2_with (go_at_call 142; refine (shared_any _ _ _ _ l1 l2 _ h1 h2).mono ?_; rintro e w' ⟨rfl, n, rfl⟩)
  go_ret
  exact ⟨rfl, _, rfl⟩

theorem within_b (a1 a2 : Option Addr) (c1 c2 : Nat) (l1 l2 : List ByteArray) (w : World) (h1 : Strs w a1 c1 l1) (h2 : Strs w a2 c2 l2) :
    Calls Tryz.prog 115 #[.slice a1 l1.length c1, .slice a2 l2.length c2] w fun e w' => e = .returned (.bool (Pl.withinP l1 l2)) ∧ Below w.heap.size w w' :=
  (within_any a1 a2 c1 c2 l1 l2 w h1 h2).mono fun _ _ ⟨he, n, hw⟩ => ⟨he, by rw [hw]; exact below_drewN (Below.refl _ _) n⟩
end Go.Proofs.YtfbhofomcenabaaGreatDoor
namespace Go.Proofs.YtfbhofomcenabaaGreatDoor
open Go.RowKit

namespace Ft
/-- Its three cells. -/
def tdA (x : Td) (a : Option Addr) (c : Nat) : Array Value := #[.slice a x.1.length c, .int .u8 (x.2.1 : Int), .string x.2.2]
def tdV (x : Td) (a : Option Addr) (c : Nat) : Value := .agg (tdA x a c)
/-- The block g holds it. -/
def TdAt (w : World) (g : Nat) (x : Td) (a : Option Addr) (c : Nat) : Prop := w.heap[g]? = some (.cells (tdA x a c) 83 (0, 0))
theorem TdAt.lt {w : World} {g : Nat} {x : Td} {a : Option Addr} {c : Nat} (h : TdAt w g x a c) : g < w.heap.size := lt_of_block h
theorem TdAt.below {w w' : World} {g B : Nat} {x : Td} {a : Option Addr} {c : Nat} (h : TdAt w g x a c) (hb : Below B w w') (hB : g < B) : TdAt w' g x a c := by
  unfold TdAt; rw [hb.block g hB]; exact h
theorem TdAt.under {w w' : World} {g : Nat} {x : Td} {a : Option Addr} {c : Nat} (h : TdAt w g x a c) (hb : Below w.heap.size w w') : TdAt w' g x a c := h.below hb h.lt
theorem TdAt.c0 {w : World} {g : Nat} {x : Td} {a : Option Addr} {c : Nat} (h : TdAt w g x a c) : w.cell? ⟨g, 0, none⟩ = some (.slice a x.1.length c) := by rw [cell_of_row w g _ _ _ _ h]; rfl
theorem TdAt.c1 {w : World} {g : Nat} {x : Td} {a : Option Addr} {c : Nat} (h : TdAt w g x a c) : w.cell? ⟨g, 1, none⟩ = some (.int .u8 (x.2.1 : Int)) := by rw [cell_of_row w g _ _ _ _ h]; rfl
theorem TdAt.c2 {w : World} {g : Nat} {x : Td} {a : Option Addr} {c : Nat} (h : TdAt w g x a c) : w.cell? ⟨g, 2, none⟩ = some (.string x.2.2) := by rw [cell_of_row w g _ _ _ _ h]; rfl
theorem TdAt.frozen {w : World} {g : Nat} {x : Td} {a : Option Addr} {c : Nat} (h : TdAt w g x a c) (j : Nat) : w.frozen? ⟨g, j, none⟩ = false := frozen_of_row w g j _ _ h
theorem td_new (w : World) (x : Td) (a : Option Addr) (c : Nat) : TdAt (w.alloc (.cells (tdA x a c) 83)) w.heap.size x a c := heap_alloc_new w _
end Ft

set_option maxRecDepth 100000 in
set_option maxHeartbeats 1000000 in
theorem opens_any (x : Ft.Td) (a aq : Option Addr) (c cq : Nat) (q : List ByteArray) (w : World) (h1 : Strs w a c x.1) (h2 : Strs w aq cq q) :
    Calls Tryz.prog 85 #[Ft.tdV x a c, .slice aq q.length cq] w fun e w' => e = .returned (.bool (Ft.opnB x q)) ∧ Below w.heap.size w w' := by
  obtain ⟨W, hW⟩ : ∃ W, W = w.alloc (.cells (Ft.tdA x a c) 83) := ⟨_, rfl⟩
  have hB : Below w.heap.size w W := by rw [hW]; exact (Below.refl _ _).alloc (Nat.le_refl _) _
  have hT : Ft.TdAt W w.heap.size x a c := by rw [hW]; exact Ft.td_new w x a c
  have C := within_any a aq c cq x.1 q W (h1.below hB) (h2.below hB)
  have l1 := h1.len
  have l2 := h2.len
  have HD : Hid (Ft.opnB x q = (Pl.withinP x.1 q && (decide (q.length < x.1.length) || x.2.1 == 1))) := rfl
  have c0 := hT.c0
  have c1 := hT.c1
  have HB : Hid _ := hB
  have HT : Hid _ := hT
  have HW : Hid (W = w.alloc (.cells (Ft.tdA x a c) 83)) := hW
  clear hW hT hB h1 h2
  simp only [Ft.tdA] at HW
  simp only [Ft.tdV, Ft.tdA]
  generalize Ft.opnB x q = R at *
  obtain ⟨p, k, d⟩ := x
  simp only at *
  go_enter Tryz.func85, Tryz.ntmps85
  go_wp2_with fail
  rw [← HW.out]
  refine C.mono ?_
  rintro e w1 ⟨rfl, n, rfl⟩
  have hB1 : Below W.heap.size W (W.drewN n) := below_drewN (Below.refl _ _) n
  have HB1 : Hid (Below w.heap.size w (W.drewN n)) := HB.out.trans (hB1.mono HB.out.size)
  have hT1 := Ft.TdAt.under HT.out hB1
  have d0 := hT1.c0
  have d1 := hT1.c1
  simp only at d0 d1
  clear hB1 hT1 HW C c0 c1
  generalize W.drewN n = w1 at *
  cases hw : Pl.withinP p q
  · have HR : Hid (R = false) := by show _ = _; rw [HD.out, hw]; rfl
    clear HD hw
    go_wp2_with fail
    go_ret
    rw [HR.out]
    exact ⟨rfl, HB1.out⟩
  · by_cases hl : q.length < p.length
    · have i1 : (q.length : Int) < (p.length : Int) := by omega
      have i1' : decide ((q.length : Int) < (p.length : Int)) = true := decide_eq_true i1
      have HR : Hid (R = true) := by show _ = _; rw [HD.out, hw, decide_eq_true hl]; rfl
      clear HD hw
      go_wp2_with fail
      go_ret
      rw [HR.out]
      exact ⟨rfl, HB1.out⟩
    · have i1 : ¬ (q.length : Int) < (p.length : Int) := by omega
      have i1' : decide ((q.length : Int) < (p.length : Int)) = false := decide_eq_false i1
      have HR : Hid (R = (k == 1)) := by show _ = _; rw [HD.out, hw, decide_eq_false hl]; simp
      have e1 : ((k : Int) == 1) = (k == 1) := by
        by_cases hk : k = 1
        · subst hk; rfl
        · rw [beq_eq_false_iff_ne.2 hk, beq_eq_false_iff_ne]; omega
      have HR2 : Hid (R = ((k : Int) == 1)) := by show _ = _; rw [HR.out, e1]
      clear HD hw HR e1
      cases hb : ((k : Int) == 1)
      · have HR3 : Hid (R = false) := by show _ = _; rw [HR2.out, hb]
        go_wp2_with fail
        go_ret
        rw [HR3.out]
        exact ⟨rfl, HB1.out⟩
      · have HR3 : Hid (R = true) := by show _ = _; rw [HR2.out, hb]
        go_wp2_with fail
        go_ret
        rw [HR3.out]
        exact ⟨rfl, HB1.out⟩
end Go.Proofs.YtfbhofomcenabaaGreatDoor
namespace Go.Proofs.YtfbhofomcenabaaGreatDoor
open Go.RowKit

set_option maxHeartbeats 400000 in
theorem isnan_any (s : ByteArray) (w : World) :
    Calls Tryz.prog 162 #[.string s] w fun e w' => e = .returned (.bool false) ∧ w = w' := by
  have hb : (s.toList != s.toList) = false := by simp
  go_enter Tryz.func162, Tryz.ntmps162
  go_wp2
  go_ret
  exact ⟨by simp, rfl⟩

set_option maxHeartbeats 400000 in
theorem cmp_any (x y : ByteArray) (w : World) :
    Calls Tryz.prog 141 #[.string x, .string y] w fun e w' => e = .returned (.int .i64 (Pl.cmpS x y)) ∧ w = w' := by
  cases h1 : Op.bytesLess x.toList y.toList
  · cases h2 : (x.toList == y.toList)
    · have HE : Hid (Pl.cmpS x y = 1) := Pl.cmpS_more h1 h2
      go_enter Tryz.func141, Tryz.ntmps141
      go_wp2_with (go_at_call 162; refine (isnan_any _ _).mono ?_; rintro e w' ⟨rfl, rfl⟩)
      go_ret
      exact ⟨ret_int HE.out.symm, rfl⟩
    · have HE : Hid (Pl.cmpS x y = 0) := Pl.cmpS_eq h2
      go_enter Tryz.func141, Tryz.ntmps141
      go_wp2_with (go_at_call 162; refine (isnan_any _ _).mono ?_; rintro e w' ⟨rfl, rfl⟩)
      go_ret
      exact ⟨ret_int HE.out.symm, rfl⟩
  · have HE : Hid (Pl.cmpS x y = -1) := Pl.cmpS_less h1
    go_enter Tryz.func141, Tryz.ntmps141
    go_wp2_with (go_at_call 162; refine (isnan_any _ _).mono ?_; rintro e w' ⟨rfl, rfl⟩)
    go_ret
    exact ⟨ret_int HE.out.symm, rfl⟩

set_option maxHeartbeats 400000 in
theorem slcmp_any (a1 a2 : Option Addr) (c1 c2 : Nat) (l1 l2 : List ByteArray) (w : World) (h1 : Strs w a1 c1 l1) (h2 : Strs w a2 c2 l2) :
    Calls Tryz.prog 114 #[.slice a1 l1.length c1, .slice a2 l2.length c2] w fun e w' => e = .returned (.int .i64 (Pl.cmpP l1 l2)) ∧ w = w' := by
  have hl1 := h1.len
  have hl2 := h2.len
  go_enter Tryz.func114, Tryz.ntmps114
  go_wp2
  go_loop [11] (fun i => ∃ k : Nat, k ≤ l1.length ∧ k ≤ l2.length ∧ i = .int .i64 k ∧ Hid (Pl.cmpP l1 l2 = Pl.cmpP (l1.drop k) (l2.drop k))) (fun i => l1.length - (intOf i).toNat)
  case atStart => exact ⟨0, Nat.zero_le _, Nat.zero_le _, rfl, rfl⟩
  case round =>
    obtain ⟨k, hk1, hk2, rfl, HC⟩ := hrel
    by_cases hlt1 : k < l1.length
    · obtain ⟨b1, o1, rfl, hb1, hc1⟩ := h1.cells k hlt1
      by_cases hlt2 : k < l2.length
      · obtain ⟨b2, o2, rfl, hb2, hc2⟩ := h2.cells k hlt2
        have HS : Hid (Pl.cmpS (l1[k]'hlt1) (l2[k]'hlt2) = 0 → Pl.cmpP (l1.drop k) (l2.drop k) = Pl.cmpP (l1.drop (k + 1)) (l2.drop (k + 1))) := Pl.cmpP_step hlt1 hlt2
        have HT : Hid (¬ Pl.cmpS (l1[k]'hlt1) (l2[k]'hlt2) = 0 → Pl.cmpP (l1.drop k) (l2.drop k) = Pl.cmpS (l1[k]'hlt1) (l2[k]'hlt2)) := Pl.cmpP_stop hlt1 hlt2
        generalize l1[k]'hlt1 = x at *
        generalize l2[k]'hlt2 = y at *
        by_cases hz : Pl.cmpS x y = 0
        · have HN : Hid (Pl.cmpP l1 l2 = Pl.cmpP (l1.drop (k + 1)) (l2.drop (k + 1))) := HC.out.trans (HS.out hz)
          have hz' : (Pl.cmpS x y != 0) = false := by simpa using hz
          clear hz
          go_wp2_with (go_at_call 141; refine (cmp_any _ _ _).mono ?_; rintro e w' ⟨rfl, rfl⟩)
          go_round
          case rel => exact ⟨k + 1, by omega, by omega, by go_num, HN⟩
          case measure => simp [intOf]; omega
        · have HN : Hid (Pl.cmpP l1 l2 = Pl.cmpS x y) := HC.out.trans (HT.out hz)
          have hz' : (Pl.cmpS x y != 0) = true := by simpa using hz
          clear hz
          go_wp2_with (go_at_call 141; refine (cmp_any _ _ _).mono ?_; rintro e w' ⟨rfl, rfl⟩)
          go_ret
          exact ⟨ret_int HN.out.symm, rfl⟩
      · have HN : Hid (Pl.cmpP l1 l2 = 1) := HC.out.trans (Pl.cmpP_more hlt1 hlt2)
        go_wp2
        go_ret
        exact ⟨ret_int HN.out.symm, rfl⟩
    · by_cases hlt2 : l1.length < l2.length
      · have HN : Hid (Pl.cmpP l1 l2 = -1) := HC.out.trans (Pl.cmpP_less hlt1 (by omega))
        go_wp2
        go_ret
        exact ⟨ret_int HN.out.symm, rfl⟩
      · have HN : Hid (Pl.cmpP l1 l2 = 0) := HC.out.trans (Pl.cmpP_end hlt1 (by omega))
        go_wp2
        go_ret
        exact ⟨ret_int HN.out.symm, rfl⟩

set_option maxHeartbeats 400000 in
theorem compare_any (a1 a2 : Option Addr) (c1 c2 : Nat) (l1 l2 : List ByteArray) (w : World) (h1 : Strs w a1 c1 l1) (h2 : Strs w a2 c2 l2) :
    Calls Tryz.prog 84 #[.slice a1 l1.length c1, .slice a2 l2.length c2] w fun e w' => e = .returned (.int .i64 (Pl.cmpP l1 l2)) ∧ w = w' := by
  have hl1 := h1.len
  have hl2 := h2.len
  go_enter Tryz.func84, Tryz.ntmps84
  go_wp2_with (go_at_call 114; refine (slcmp_any _ _ _ _ l1 l2 _ h1 h2).mono ?_; rintro e w' ⟨rfl, rfl⟩)
  go_ret
  exact ⟨rfl, rfl⟩

end Go.Proofs.YtfbhofomcenabaaGreatDoor
