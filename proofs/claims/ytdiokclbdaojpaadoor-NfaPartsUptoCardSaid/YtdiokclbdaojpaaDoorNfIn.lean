/- What nfa.inRange, nfa.fits and nfa.Right answer of any program. -/
import Derived.Test.YtdiokclbdaojpaaDoorNfAgn
import Derived.Test.YtdiokclbdaojpaaDoorNfM1
import Derived.BigQuiet
namespace Go.Proofs.YtdiokclbdaojpaaDoor
open Go Go.RowKit

namespace Nt
def inRg (u : Bool) (n lo hi : Int) : Bool := if u then decide (lo ≤ n) && decide (n ≤ hi) else n == 0
/-- An instruction has what its kind uses, and nothing else. -/
def fitI (gr sl : Int) (n : Nat) (x : Ins) : Bool :=
  decide (x.k ≤ 12) && (fb x.k 0 && ((fb x.k 1 || St.sameS x.s noS) && (inRg (fb x.k 2) x.to 0 ((n : Int) - 1) && (inRg (fb x.k 3) x.gr 1 gr && (inRg (fb x.k 4) x.la x.gr gr && inRg (fb x.k 5) x.sl 0 (sl - 1))))))
/-- A code in memory. -/
structure Cds (w : World) (B : Nat) (a : Option Addr) (cap : Nat) (L : List Ins) : Prop where
  len : L.length ≤ 1048576
  room : L.length ≤ cap
  most : cap ≤ maxLen
  nil : a = none → cap = 0
  lies : ∀ i (h : i < L.length), ∃ b off, a = some ⟨b, off, none⟩ ∧ b < B ∧ ∀ j, j < 9 → w.cell? ⟨b, off + i * 9 + j, none⟩ = (insL (L[i]))[j]?
end Nt
set_option maxRecDepth 100000 in
theorem inRange_any (u : Bool) (n lo hi : Int) (w : World) : Calls Tryd.prog 65 #[.bool u, .int .i64 n, .int .i64 lo, .int .i64 hi] w fun e w' => e = .returned (.bool (Nt.inRg u n lo hi)) ∧ w' = w := by
  cases u
  · go_enter Tryd.func65, Tryd.ntmps65
    go_wp2_with fail
    go_ret
    exact ⟨rfl, rfl⟩
  · by_cases h1 : lo ≤ n
    · go_enter Tryd.func65, Tryd.ntmps65
      go_wp2_with fail
      all_goals
        go_ret
        exact ⟨by simp [Nt.inRg, h1], rfl⟩
    · have h2 : decide (lo ≤ n) = false := decide_eq_false h1
      go_enter Tryd.func65, Tryd.ntmps65
      go_wp2_with fail
      all_goals
        go_ret
        exact ⟨by rw [Nt.inRg, h2]; rfl, rfl⟩
set_option maxRecDepth 100000 in
set_option maxHeartbeats 4000000 in
theorem ifits_any (x : Nt.Ins) (b o : Nat) (gr sl : Int) (a : Option Addr) (n cap : Nat) (w : World) (hx : ∀ j, j < 9 → w.cell? ⟨b, o + j, none⟩ = (Nt.insL x)[j]?) (hb : b < w.heap.size) (hT : Nt.Tabs w) (hn : n ≤ 1048576) (hg : 0 ≤ gr ∧ gr ≤ 99) (hs : 0 ≤ sl ∧ sl ≤ 16384) (hk8 : x.k ≤ 255) :
    Calls Tryd.prog 41 #[.pointer (some ⟨b, o, none⟩), .agg #[.int .i64 gr, .int .i64 sl, .slice a n cap]] w fun e w' => e = .returned (.bool (Nt.fitI gr sl n x)) ∧ Below w.heap.size w w' := by
  obtain ⟨hg1, hg2⟩ := hg
  obtain ⟨hs1, hs2⟩ := hs
  have hB0 : Below w.heap.size w (w.alloc (.cells #[.int .i64 gr, .int .i64 sl, .slice a n cap] 35)) := (Below.refl w.heap.size w).alloc (Nat.le_refl _) _
  have P0 : (w.alloc (.cells #[.int .i64 gr, .int .i64 sl, .slice a n cap] 35)).heap[w.heap.size]? = some (.cells #[.int .i64 gr, .int .i64 sl, .slice a n cap] 35 (0, 0)) := heap_alloc_new w _
  have hz : 0 < w.heap.size := by have := hT.big; omega
  obtain ⟨R, hR⟩ : ∃ R, Nt.fitI gr sl n x = R := ⟨_, rfl⟩
  rw [hR]
  have HR : Hid _ := hR
  have E : ∀ w : World, (binOp .eql 25 (.agg #[.int .u64 (St.wd x.s 0 : Nat), .int .u64 (St.wd x.s 1 : Nat), .int .u64 (St.wd x.s 2 : Nat), .int .u64 (St.wd x.s 3 : Nat)]) (.agg #[.int .u64 0, .int .u64 0, .int .u64 0, .int .u64 0])).run Tryd.prog w = .ok (.bool (St.sameS x.s Nt.noS)) w := fun w => by
    have := set_eql x.s Nt.noS w
    simp only [St.setV, Nt.wd_no] at this
    exact this
  have HI : Hid (∀ (u : Bool) (n lo hi : Int) (w : World), Calls Tryd.prog 65 #[.bool u, .int .i64 n, .int .i64 lo, .int .i64 hi] w fun e w' => e = .returned (.bool (Nt.inRg u n lo hi)) ∧ w' = w) := inRange_any
  have x0 : w.cell? ⟨b, o, none⟩ = some (.int .u8 (x.k : Int)) := hx 0 (by omega)
  have x1 : w.cell? ⟨b, o + 1, none⟩ = some (.int .u64 (St.wd x.s 0 : Nat)) := hx 1 (by omega)
  have x2 : w.cell? ⟨b, o + 2, none⟩ = some (.int .u64 (St.wd x.s 1 : Nat)) := hx 2 (by omega)
  have x3 : w.cell? ⟨b, o + 3, none⟩ = some (.int .u64 (St.wd x.s 2 : Nat)) := hx 3 (by omega)
  have x4 : w.cell? ⟨b, o + 4, none⟩ = some (.int .u64 (St.wd x.s 3 : Nat)) := hx 4 (by omega)
  have x5 : w.cell? ⟨b, o + 5, none⟩ = some (.int .i64 x.to) := hx 5 (by omega)
  have x6 : w.cell? ⟨b, o + 6, none⟩ = some (.int .i64 x.gr) := hx 6 (by omega)
  have x7 : w.cell? ⟨b, o + 7, none⟩ = some (.int .i64 x.la) := hx 7 (by omega)
  have x8 : w.cell? ⟨b, o + 8, none⟩ = some (.int .i64 x.sl) := hx 8 (by omega)
  clear hR hx P0
  by_cases hk : x.k ≤ 12
  · have t0 : w.cell? ⟨0, x.k * 6, none⟩ = some (.bool (Nt.fb x.k 0)) := by have := hT.at (j := 0) hk (by omega); simpa using this
    have t1 : w.cell? ⟨0, x.k * 6 + 1, none⟩ = some (.bool (Nt.fb x.k 1)) := hT.at hk (by omega)
    have t2 : w.cell? ⟨0, x.k * 6 + 2, none⟩ = some (.bool (Nt.fb x.k 2)) := hT.at hk (by omega)
    have t3 : w.cell? ⟨0, x.k * 6 + 3, none⟩ = some (.bool (Nt.fb x.k 3)) := hT.at hk (by omega)
    have t4 : w.cell? ⟨0, x.k * 6 + 4, none⟩ = some (.bool (Nt.fb x.k 4)) := hT.at hk (by omega)
    have t5 : w.cell? ⟨0, x.k * 6 + 5, none⟩ = some (.bool (Nt.fb x.k 5)) := hT.at hk (by omega)
    have HR2 : Hid (R = (Nt.fb x.k 0 && ((Nt.fb x.k 1 || St.sameS x.s Nt.noS) && (Nt.inRg (Nt.fb x.k 2) x.to 0 ((n : Int) - 1) && (Nt.inRg (Nt.fb x.k 3) x.gr 1 gr && (Nt.inRg (Nt.fb x.k 4) x.la x.gr gr && Nt.inRg (Nt.fb x.k 5) x.sl 0 (sl - 1))))))) := by
      show _ = _
      rw [← HR.out, Nt.fitI, decide_eq_true hk, Bool.true_and]
    obtain ⟨s0, hs0⟩ : ∃ s0, St.sameS x.s Nt.noS = s0 := ⟨_, rfl⟩
    rw [hs0] at E HR2
    generalize Nt.fb x.k 0 = u0 at *
    generalize Nt.fb x.k 1 = u1 at *
    generalize Nt.fb x.k 2 = u2 at *
    generalize Nt.fb x.k 3 = u3 at *
    generalize Nt.fb x.k 4 = u4 at *
    generalize Nt.fb x.k 5 = u5 at *
    have hd : decide ((13 : Int) ≤ (x.k : Int)) = false := by simp; omega
    clear hT HR hs0
    cases u0
    · have HF : Hid (R = false) := by show _ = _; rw [HR2.out]; rfl
      go_enter Tryd.func41, Tryd.ntmps41
      go_wp2_with fail
      go_ret
      exact ⟨by rw [HF.out]; rfl, hB0⟩
    · have HBu : Hid (∀ o2 : Obj, Below w.heap.size w ((w.alloc (.cells #[.int .i64 gr, .int .i64 sl, .slice a n cap] 35)).alloc o2)) := fun o2 => hB0.alloc (by simp) o2
      go_enter Tryd.func41, Tryd.ntmps41
      cases u1
      · cases s0
        · have HF : Hid (R = false) := by show _ = _; rw [HR2.out]; rfl
          go_wp2_with fail
          go_quiet (fail)
          go_wp2_with fail
          go_ret
          exact ⟨by rw [HF.out]; rfl, drewB (HBu.out _) _⟩
        · cases h2 : Nt.inRg u2 x.to 0 ((n : Int) - 1)
          · have HF : Hid (R = false) := by show _ = _; rw [HR2.out, h2]; rfl
            have C2 : Hid (∀ w : World, Calls Tryd.prog 65 #[.bool u2, .int .i64 x.to, .int .i64 0, .int .i64 ((n : Int) - 1)] w fun e w' => e = .returned (.bool false) ∧ w' = w) := fun w => by have := HI.out u2 x.to 0 ((n : Int) - 1) w; rw [h2] at this; exact this
            clear HI HR2 h2
            go_wp2_with fail
            go_quiet ((first | (go_at_call_of 65 (Value.int IntKind.i64 x.to); exact Calls.quiet_of_same (C2.out _))))
            go_wp2_with fail
            go_ret
            exact ⟨by rw [HF.out]; rfl, drewB (HBu.out _) _⟩
          · cases h3 : Nt.inRg u3 x.gr 1 gr
            · have HF : Hid (R = false) := by show _ = _; rw [HR2.out, h2, h3]; rfl
              have C2 : Hid (∀ w : World, Calls Tryd.prog 65 #[.bool u2, .int .i64 x.to, .int .i64 0, .int .i64 ((n : Int) - 1)] w fun e w' => e = .returned (.bool true) ∧ w' = w) := fun w => by have := HI.out u2 x.to 0 ((n : Int) - 1) w; rw [h2] at this; exact this
              have C3 : Hid (∀ w : World, Calls Tryd.prog 65 #[.bool u3, .int .i64 x.gr, .int .i64 1, .int .i64 gr] w fun e w' => e = .returned (.bool false) ∧ w' = w) := fun w => by have := HI.out u3 x.gr 1 gr w; rw [h3] at this; exact this
              clear HI HR2 h2 h3
              go_wp2_with fail
              go_quiet ((first | (go_at_call_of 65 (Value.int IntKind.i64 x.to); exact Calls.quiet_of_same (C2.out _)) | (go_at_call_of 65 (Value.int IntKind.i64 x.gr); exact Calls.quiet_of_same (C3.out _))))
              go_wp2_with fail
              go_ret
              exact ⟨by rw [HF.out]; rfl, drewB (HBu.out _) _⟩
            · cases h4 : Nt.inRg u4 x.la x.gr gr
              · have HF : Hid (R = false) := by show _ = _; rw [HR2.out, h2, h3, h4]; rfl
                have C2 : Hid (∀ w : World, Calls Tryd.prog 65 #[.bool u2, .int .i64 x.to, .int .i64 0, .int .i64 ((n : Int) - 1)] w fun e w' => e = .returned (.bool true) ∧ w' = w) := fun w => by have := HI.out u2 x.to 0 ((n : Int) - 1) w; rw [h2] at this; exact this
                have C3 : Hid (∀ w : World, Calls Tryd.prog 65 #[.bool u3, .int .i64 x.gr, .int .i64 1, .int .i64 gr] w fun e w' => e = .returned (.bool true) ∧ w' = w) := fun w => by have := HI.out u3 x.gr 1 gr w; rw [h3] at this; exact this
                have C4 : Hid (∀ w : World, Calls Tryd.prog 65 #[.bool u4, .int .i64 x.la, .int .i64 x.gr, .int .i64 gr] w fun e w' => e = .returned (.bool false) ∧ w' = w) := fun w => by have := HI.out u4 x.la x.gr gr w; rw [h4] at this; exact this
                clear HI HR2 h2 h3 h4
                go_wp2_with fail
                go_quiet ((first | (go_at_call_of 65 (Value.int IntKind.i64 x.to); exact Calls.quiet_of_same (C2.out _)) | (go_at_call_of 65 (Value.int IntKind.i64 x.la); exact Calls.quiet_of_same (C4.out _)) | (go_at_call_of 65 (Value.int IntKind.i64 x.gr); exact Calls.quiet_of_same (C3.out _))))
                go_wp2_with fail
                go_ret
                exact ⟨by rw [HF.out]; rfl, drewB (HBu.out _) _⟩
              · cases h5 : Nt.inRg u5 x.sl 0 (sl - 1)
                · have HF : Hid (R = false) := by show _ = _; rw [HR2.out, h2, h3, h4, h5]; rfl
                  have C2 : Hid (∀ w : World, Calls Tryd.prog 65 #[.bool u2, .int .i64 x.to, .int .i64 0, .int .i64 ((n : Int) - 1)] w fun e w' => e = .returned (.bool true) ∧ w' = w) := fun w => by have := HI.out u2 x.to 0 ((n : Int) - 1) w; rw [h2] at this; exact this
                  have C3 : Hid (∀ w : World, Calls Tryd.prog 65 #[.bool u3, .int .i64 x.gr, .int .i64 1, .int .i64 gr] w fun e w' => e = .returned (.bool true) ∧ w' = w) := fun w => by have := HI.out u3 x.gr 1 gr w; rw [h3] at this; exact this
                  have C4 : Hid (∀ w : World, Calls Tryd.prog 65 #[.bool u4, .int .i64 x.la, .int .i64 x.gr, .int .i64 gr] w fun e w' => e = .returned (.bool true) ∧ w' = w) := fun w => by have := HI.out u4 x.la x.gr gr w; rw [h4] at this; exact this
                  have C5 : Hid (∀ w : World, Calls Tryd.prog 65 #[.bool u5, .int .i64 x.sl, .int .i64 0, .int .i64 (sl - 1)] w fun e w' => e = .returned (.bool false) ∧ w' = w) := fun w => by have := HI.out u5 x.sl 0 (sl - 1) w; rw [h5] at this; exact this
                  clear HI HR2 h2 h3 h4 h5
                  go_wp2_with fail
                  go_quiet ((first | (go_at_call_of 65 (Value.int IntKind.i64 x.to); exact Calls.quiet_of_same (C2.out _)) | (go_at_call_of 65 (Value.int IntKind.i64 x.la); exact Calls.quiet_of_same (C4.out _)) | (go_at_call_of 65 (Value.int IntKind.i64 x.sl); exact Calls.quiet_of_same (C5.out _)) | (go_at_call_of 65 (Value.int IntKind.i64 x.gr); exact Calls.quiet_of_same (C3.out _))))
                  go_wp2_with fail
                  go_ret
                  exact ⟨by rw [HF.out]; rfl, drewB (HBu.out _) _⟩
                · have HF : Hid (R = true) := by show _ = _; rw [HR2.out, h2, h3, h4, h5]; rfl
                  have C2 : Hid (∀ w : World, Calls Tryd.prog 65 #[.bool u2, .int .i64 x.to, .int .i64 0, .int .i64 ((n : Int) - 1)] w fun e w' => e = .returned (.bool true) ∧ w' = w) := fun w => by have := HI.out u2 x.to 0 ((n : Int) - 1) w; rw [h2] at this; exact this
                  have C3 : Hid (∀ w : World, Calls Tryd.prog 65 #[.bool u3, .int .i64 x.gr, .int .i64 1, .int .i64 gr] w fun e w' => e = .returned (.bool true) ∧ w' = w) := fun w => by have := HI.out u3 x.gr 1 gr w; rw [h3] at this; exact this
                  have C4 : Hid (∀ w : World, Calls Tryd.prog 65 #[.bool u4, .int .i64 x.la, .int .i64 x.gr, .int .i64 gr] w fun e w' => e = .returned (.bool true) ∧ w' = w) := fun w => by have := HI.out u4 x.la x.gr gr w; rw [h4] at this; exact this
                  have C5 : Hid (∀ w : World, Calls Tryd.prog 65 #[.bool u5, .int .i64 x.sl, .int .i64 0, .int .i64 (sl - 1)] w fun e w' => e = .returned (.bool true) ∧ w' = w) := fun w => by have := HI.out u5 x.sl 0 (sl - 1) w; rw [h5] at this; exact this
                  clear HI HR2 h2 h3 h4 h5
                  go_wp2_with fail
                  go_quiet ((first | (go_at_call_of 65 (Value.int IntKind.i64 x.to); exact Calls.quiet_of_same (C2.out _)) | (go_at_call_of 65 (Value.int IntKind.i64 x.la); exact Calls.quiet_of_same (C4.out _)) | (go_at_call_of 65 (Value.int IntKind.i64 x.sl); exact Calls.quiet_of_same (C5.out _)) | (go_at_call_of 65 (Value.int IntKind.i64 x.gr); exact Calls.quiet_of_same (C3.out _))))
                  go_wp2_with fail
                  go_ret
                  exact ⟨by rw [HF.out]; rfl, drewB (HBu.out _) _⟩
      · cases h2 : Nt.inRg u2 x.to 0 ((n : Int) - 1)
        · have HF : Hid (R = false) := by show _ = _; rw [HR2.out, h2]; rfl
          have C2 : Hid (∀ w : World, Calls Tryd.prog 65 #[.bool u2, .int .i64 x.to, .int .i64 0, .int .i64 ((n : Int) - 1)] w fun e w' => e = .returned (.bool false) ∧ w' = w) := fun w => by have := HI.out u2 x.to 0 ((n : Int) - 1) w; rw [h2] at this; exact this
          clear HI HR2 h2
          go_wp2_with fail
          go_quiet ((first | (go_at_call_of 65 (Value.int IntKind.i64 x.to); exact Calls.quiet_of_same (C2.out _))))
          go_wp2_with fail
          go_ret
          exact ⟨by rw [HF.out]; rfl, drewB (HBu.out _) _⟩
        · cases h3 : Nt.inRg u3 x.gr 1 gr
          · have HF : Hid (R = false) := by show _ = _; rw [HR2.out, h2, h3]; rfl
            have C2 : Hid (∀ w : World, Calls Tryd.prog 65 #[.bool u2, .int .i64 x.to, .int .i64 0, .int .i64 ((n : Int) - 1)] w fun e w' => e = .returned (.bool true) ∧ w' = w) := fun w => by have := HI.out u2 x.to 0 ((n : Int) - 1) w; rw [h2] at this; exact this
            have C3 : Hid (∀ w : World, Calls Tryd.prog 65 #[.bool u3, .int .i64 x.gr, .int .i64 1, .int .i64 gr] w fun e w' => e = .returned (.bool false) ∧ w' = w) := fun w => by have := HI.out u3 x.gr 1 gr w; rw [h3] at this; exact this
            clear HI HR2 h2 h3
            go_wp2_with fail
            go_quiet ((first | (go_at_call_of 65 (Value.int IntKind.i64 x.to); exact Calls.quiet_of_same (C2.out _)) | (go_at_call_of 65 (Value.int IntKind.i64 x.gr); exact Calls.quiet_of_same (C3.out _))))
            go_wp2_with fail
            go_ret
            exact ⟨by rw [HF.out]; rfl, drewB (HBu.out _) _⟩
          · cases h4 : Nt.inRg u4 x.la x.gr gr
            · have HF : Hid (R = false) := by show _ = _; rw [HR2.out, h2, h3, h4]; rfl
              have C2 : Hid (∀ w : World, Calls Tryd.prog 65 #[.bool u2, .int .i64 x.to, .int .i64 0, .int .i64 ((n : Int) - 1)] w fun e w' => e = .returned (.bool true) ∧ w' = w) := fun w => by have := HI.out u2 x.to 0 ((n : Int) - 1) w; rw [h2] at this; exact this
              have C3 : Hid (∀ w : World, Calls Tryd.prog 65 #[.bool u3, .int .i64 x.gr, .int .i64 1, .int .i64 gr] w fun e w' => e = .returned (.bool true) ∧ w' = w) := fun w => by have := HI.out u3 x.gr 1 gr w; rw [h3] at this; exact this
              have C4 : Hid (∀ w : World, Calls Tryd.prog 65 #[.bool u4, .int .i64 x.la, .int .i64 x.gr, .int .i64 gr] w fun e w' => e = .returned (.bool false) ∧ w' = w) := fun w => by have := HI.out u4 x.la x.gr gr w; rw [h4] at this; exact this
              clear HI HR2 h2 h3 h4
              go_wp2_with fail
              go_quiet ((first | (go_at_call_of 65 (Value.int IntKind.i64 x.to); exact Calls.quiet_of_same (C2.out _)) | (go_at_call_of 65 (Value.int IntKind.i64 x.la); exact Calls.quiet_of_same (C4.out _)) | (go_at_call_of 65 (Value.int IntKind.i64 x.gr); exact Calls.quiet_of_same (C3.out _))))
              go_wp2_with fail
              go_ret
              exact ⟨by rw [HF.out]; rfl, drewB (HBu.out _) _⟩
            · cases h5 : Nt.inRg u5 x.sl 0 (sl - 1)
              · have HF : Hid (R = false) := by show _ = _; rw [HR2.out, h2, h3, h4, h5]; rfl
                have C2 : Hid (∀ w : World, Calls Tryd.prog 65 #[.bool u2, .int .i64 x.to, .int .i64 0, .int .i64 ((n : Int) - 1)] w fun e w' => e = .returned (.bool true) ∧ w' = w) := fun w => by have := HI.out u2 x.to 0 ((n : Int) - 1) w; rw [h2] at this; exact this
                have C3 : Hid (∀ w : World, Calls Tryd.prog 65 #[.bool u3, .int .i64 x.gr, .int .i64 1, .int .i64 gr] w fun e w' => e = .returned (.bool true) ∧ w' = w) := fun w => by have := HI.out u3 x.gr 1 gr w; rw [h3] at this; exact this
                have C4 : Hid (∀ w : World, Calls Tryd.prog 65 #[.bool u4, .int .i64 x.la, .int .i64 x.gr, .int .i64 gr] w fun e w' => e = .returned (.bool true) ∧ w' = w) := fun w => by have := HI.out u4 x.la x.gr gr w; rw [h4] at this; exact this
                have C5 : Hid (∀ w : World, Calls Tryd.prog 65 #[.bool u5, .int .i64 x.sl, .int .i64 0, .int .i64 (sl - 1)] w fun e w' => e = .returned (.bool false) ∧ w' = w) := fun w => by have := HI.out u5 x.sl 0 (sl - 1) w; rw [h5] at this; exact this
                clear HI HR2 h2 h3 h4 h5
                go_wp2_with fail
                go_quiet ((first | (go_at_call_of 65 (Value.int IntKind.i64 x.to); exact Calls.quiet_of_same (C2.out _)) | (go_at_call_of 65 (Value.int IntKind.i64 x.la); exact Calls.quiet_of_same (C4.out _)) | (go_at_call_of 65 (Value.int IntKind.i64 x.sl); exact Calls.quiet_of_same (C5.out _)) | (go_at_call_of 65 (Value.int IntKind.i64 x.gr); exact Calls.quiet_of_same (C3.out _))))
                go_wp2_with fail
                go_ret
                exact ⟨by rw [HF.out]; rfl, drewB (HBu.out _) _⟩
              · have HF : Hid (R = true) := by show _ = _; rw [HR2.out, h2, h3, h4, h5]; rfl
                have C2 : Hid (∀ w : World, Calls Tryd.prog 65 #[.bool u2, .int .i64 x.to, .int .i64 0, .int .i64 ((n : Int) - 1)] w fun e w' => e = .returned (.bool true) ∧ w' = w) := fun w => by have := HI.out u2 x.to 0 ((n : Int) - 1) w; rw [h2] at this; exact this
                have C3 : Hid (∀ w : World, Calls Tryd.prog 65 #[.bool u3, .int .i64 x.gr, .int .i64 1, .int .i64 gr] w fun e w' => e = .returned (.bool true) ∧ w' = w) := fun w => by have := HI.out u3 x.gr 1 gr w; rw [h3] at this; exact this
                have C4 : Hid (∀ w : World, Calls Tryd.prog 65 #[.bool u4, .int .i64 x.la, .int .i64 x.gr, .int .i64 gr] w fun e w' => e = .returned (.bool true) ∧ w' = w) := fun w => by have := HI.out u4 x.la x.gr gr w; rw [h4] at this; exact this
                have C5 : Hid (∀ w : World, Calls Tryd.prog 65 #[.bool u5, .int .i64 x.sl, .int .i64 0, .int .i64 (sl - 1)] w fun e w' => e = .returned (.bool true) ∧ w' = w) := fun w => by have := HI.out u5 x.sl 0 (sl - 1) w; rw [h5] at this; exact this
                clear HI HR2 h2 h3 h4 h5
                go_wp2_with fail
                go_quiet ((first | (go_at_call_of 65 (Value.int IntKind.i64 x.to); exact Calls.quiet_of_same (C2.out _)) | (go_at_call_of 65 (Value.int IntKind.i64 x.la); exact Calls.quiet_of_same (C4.out _)) | (go_at_call_of 65 (Value.int IntKind.i64 x.sl); exact Calls.quiet_of_same (C5.out _)) | (go_at_call_of 65 (Value.int IntKind.i64 x.gr); exact Calls.quiet_of_same (C3.out _))))
                go_wp2_with fail
                go_ret
                exact ⟨by rw [HF.out]; rfl, drewB (HBu.out _) _⟩
  · have HF : Hid (R = false) := by show _ = _; rw [← HR.out, Nt.fitI, decide_eq_false hk]; rfl
    have hd : decide ((13 : Int) ≤ (x.k : Int)) = true := by simp; omega
    clear hT
    go_enter Tryd.func41, Tryd.ntmps41
    go_wp2_with fail
    go_ret
    exact ⟨by rw [HF.out]; rfl, hB0⟩
end Go.Proofs.YtdiokclbdaojpaaDoor
