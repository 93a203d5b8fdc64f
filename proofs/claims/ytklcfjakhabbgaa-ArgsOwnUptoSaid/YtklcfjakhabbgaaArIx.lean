/- Which option a letter, a long name is, as the reading looks for it: slices.IndexFunc over the table. -/
import Derived.Test.YtklcfjakhabbgaaArDo
import Derived.Test.YtklcfjakhabbgaaLibsB
namespace Go.Proofs.Ytklcfjakhabbgaa
open Go.RowKit

theorem fst6_int {p : Nat → Bool} : (if Ar.fst6 p < 6 then ((Ar.fst6 p : Nat) : Int) else -1) = (if Ar.fst6 p < 6 then ((Ar.fst6 p : Nat) : Int) else -1) := rfl
/-- What IndexFunc answers. -/
def ixI (p : Nat → Bool) : Int := if Ar.fst6 p < 6 then ((Ar.fst6 p : Nat) : Int) else -1
theorem ixI_no {p : Nat → Bool} (h : ∀ k, k < 6 → p k = false) : ixI p = -1 := by unfold ixI; rw [Ar.fst6_no h]; rfl
theorem ixI_yes {p : Nat → Bool} {k : Nat} (hk : k < 6) (h : p k = true) (hn : ∀ j, j < k → p j = false) : ixI p = k := by unfold ixI; rw [Ar.fst6_yes hk h hn, if_pos hk]

set_option maxRecDepth 100000 in
set_option maxHeartbeats 2000000 in
theorem lclo_any (B lb k : Nat) (c : UInt8) (W : World) (hk : k < 6) (hl : W.cell? ⟨lb, 0, none⟩ = some (.string ⟨#[c]⟩)) (hlt : lb < W.heap.size) :
    Calls Try.prog 62 #[.agg #[.string (Ar.letK k), .slice (some ⟨B + 2 * k, 0, none⟩) (Ar.namK k).length (Ar.namK k).length, .int .i64 (Ar.valK k), doK B k], .pointer (some ⟨lb, 0, none⟩)] W fun e w' => e = .returned (.bool ((Ar.letK k).data.toList.contains c)) ∧ Below W.heap.size W w' := by
  have HC : Hid (∀ V, Calls Try.prog 63 #[.string (Ar.letK k), .string ⟨#[c]⟩] V fun e w' => e = .returned (.bool ((Ar.letK k).data.toList.contains c)) ∧ w' = V) := fun V => (Any.strings_Contains_one Try.lays144 (Ar.letK k) c V).mono fun e w' ⟨h1, h2⟩ => ⟨by rw [h1, Lib.contains_iff_indexByte], h2⟩
  generalize (Ar.letK k).data.toList.contains c = R at *
  match k, hk with
  | 0, _ | 1, _ | 2, _ | 3, _ | 4, _ | 5, _ =>
    simp only [doK, fnB, fnV, Ar.letK] at HC ⊢
    go_enter Try.func62, Try.ntmps62
    go_wp2_with (go_at_call 63; refine Calls.mono (HC.out _) ?_; rintro e w1 ⟨rfl, rfl⟩)
    go_ret
    exact ⟨rfl, alloc_below _ _⟩
set_option maxRecDepth 100000 in
set_option maxHeartbeats 2000000 in
theorem nclo_any (B lb k : Nat) (s : ByteArray) (W : World) (hk : k < 6) (hl : W.cell? ⟨lb, 0, none⟩ = some (.string s)) (hlt : lb < W.heap.size) (hT : KT B W) :
    Calls Try.prog 60 #[.agg #[.string (Ar.letK k), .slice (some ⟨B + 2 * k, 0, none⟩) (Ar.namK k).length (Ar.namK k).length, .int .i64 (Ar.valK k), doK B k], .pointer (some ⟨lb, 0, none⟩)] W fun e w' => e = .returned (.bool (Ar.memN s (Ar.namK k))) ∧ Below W.heap.size W w' := by
  have HC : Hid (∀ V, Below W.heap.size W V → Calls Try.prog 61 #[.slice (some ⟨B + 2 * k, 0, none⟩) (Ar.namK k).length (Ar.namK k).length, .string s] V fun e w' => e = .returned (.bool (Ar.memN s (Ar.namK k))) ∧ w' = V) := fun V hV => by
    refine (Any.slices_Contains_string Try.lays110 (B + 2 * k) 0 (Ar.namK k).length (Ar.namK k).length (Ar.namK k) s V (Nat.le_refl _) (by match k, hk with | 0, _ | 1, _ | 2, _ | 3, _ | 4, _ | 5, _ => decide) (fun j hj => ?_)).mono fun e w' ⟨h1, h2⟩ => ⟨by rw [h1, List.take_length, Ar.memN_eq], h2⟩
    rw [Nat.zero_add, (hT.below hV).strs k hk j hj]
    simp [hj]
  have HB : Hid (Below W.heap.size W (W.alloc (.cells #[.string (Ar.letK k), .slice (some ⟨B + 2 * k, 0, none⟩) (Ar.namK k).length (Ar.namK k).length, .int .i64 (Ar.valK k), doK B k] 69))) := alloc_below _ _
  generalize Ar.memN s (Ar.namK k) = R at *
  match k, hk with
  | 0, _ | 1, _ | 2, _ | 3, _ | 4, _ | 5, _ =>
    simp only [doK, fnB, fnV, Ar.letK, Ar.valK] at HC HB ⊢
    go_enter Try.func60, Try.ntmps60
    go_wp2_with (go_at_call 61; refine Calls.mono (HC.out _ HB.out) ?_; rintro e w1 ⟨rfl, rfl⟩)
    go_ret
    exact ⟨rfl, HB.out⟩
end Go.Proofs.Ytklcfjakhabbgaa
