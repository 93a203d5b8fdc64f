/- Two sets held against each other. -/
import Derived.Test.YtmlpfgfpmbnbeaaSRow
import Derived.Laws.StructEq
namespace Go.Proofs.Ytmlpfgfpmbnbeaa
open Go.RowKit

set_option maxRecDepth 100000 in
theorem eq_in (a0 a1 a2 a3 b0 b1 b2 b3 : Int) (w : World) :
    (Op.equalIn 10000 25 (.agg #[.int .u64 a0, .int .u64 a1, .int .u64 a2, .int .u64 a3]) (.agg #[.int .u64 b0, .int .u64 b1, .int .u64 b2, .int .u64 b3])).run Try.prog w = .ok (a0 == b0 && (a1 == b1 && (a2 == b2 && a3 == b3))) w := by
  have p0 : ∀ wx, (part 23 #[.int .u64 a0, .int .u64 a1, .int .u64 a2, .int .u64 a3] 0).run Try.prog wx = .ok (.int .u64 a0) wx := fun wx => by kernel_rfl
  have p1 : ∀ wx, (part 23 #[.int .u64 a0, .int .u64 a1, .int .u64 a2, .int .u64 a3] 1).run Try.prog wx = .ok (.int .u64 a1) wx := fun wx => by kernel_rfl
  have p2 : ∀ wx, (part 23 #[.int .u64 a0, .int .u64 a1, .int .u64 a2, .int .u64 a3] 2).run Try.prog wx = .ok (.int .u64 a2) wx := fun wx => by kernel_rfl
  have p3 : ∀ wx, (part 23 #[.int .u64 a0, .int .u64 a1, .int .u64 a2, .int .u64 a3] 3).run Try.prog wx = .ok (.int .u64 a3) wx := fun wx => by kernel_rfl
  have r0 : ∀ wx, (part 23 #[.int .u64 b0, .int .u64 b1, .int .u64 b2, .int .u64 b3] 0).run Try.prog wx = .ok (.int .u64 b0) wx := fun wx => by kernel_rfl
  have r1 : ∀ wx, (part 23 #[.int .u64 b0, .int .u64 b1, .int .u64 b2, .int .u64 b3] 1).run Try.prog wx = .ok (.int .u64 b1) wx := fun wx => by kernel_rfl
  have r2 : ∀ wx, (part 23 #[.int .u64 b0, .int .u64 b1, .int .u64 b2, .int .u64 b3] 2).run Try.prog wx = .ok (.int .u64 b2) wx := fun wx => by kernel_rfl
  have r3 : ∀ wx, (part 23 #[.int .u64 b0, .int .u64 b1, .int .u64 b2, .int .u64 b3] 3).run Try.prog wx = .ok (.int .u64 b3) wx := fun wx => by kernel_rfl
  have hz : ∀ wx, (sizeOf 23).run Try.prog wx = .ok 1 wx := fun wx => by kernel_rfl
  have he : ∀ (a b : Int) wx, (Op.equalIn 9999 23 (.int .u64 a) (.int .u64 b)).run Try.prog wx = .ok (a == b) wx := fun a b wx => run_equalIn_int wx 9998 23 .u64 .u64 a b Try.underlying23
  show (Op.equalIn (9999 + 1) 25 _ _).run Try.prog w = _
  rw [Op.equalIn]
  simp only [Sem.run_bind, run_underlying Try.underlying25, Result.andThen_ok, hz]
  simp only [Std.Legacy.Range.forIn_eq_forIn_range', Std.Legacy.Range.size]
  rw [show List.range' 0 ((4 - 0 + 1 - 1) / 1) = [0, 1, 2, 3] from rfl]
  simp only [Nat.mul_one]
  cases h0 : (a0 == b0)
  · simp [List.forIn_cons, p0, r0, he, h0]
  cases h1 : (a1 == b1)
  · simp [List.forIn_cons, p0, r0, p1, r1, he, h0, h1]
  cases h2 : (a2 == b2)
  · simp [List.forIn_cons, p0, r0, p1, r1, p2, r2, he, h0, h1, h2]
  cases h3 : (a3 == b3) <;> simp [List.forIn_cons, p0, r0, p1, r1, p2, r2, p3, r3, he, h0, h1, h2, h3]

namespace St
/-- Two sets have the same bytes. -/
def sameS (p q : Nat → Bool) : Bool := (List.range 256).all (fun c => p c == q c)
theorem sameS_iff (p q : Nat → Bool) : sameS p q = true ↔ ∀ c, c < 256 → p c = q c := by
  unfold sameS
  rw [List.all_eq_true]
  exact ⟨fun h c hc => by simpa using h c (List.mem_range.2 hc), fun h c hc => by simpa using h c (List.mem_range.1 hc)⟩
theorem sameS_words (p q : Nat → Bool) : (((wd p 0 : Nat) : Int) == ((wd q 0 : Nat) : Int) && (((wd p 1 : Nat) : Int) == ((wd q 1 : Nat) : Int) && (((wd p 2 : Nat) : Int) == ((wd q 2 : Nat) : Int) && ((wd p 3 : Nat) : Int) == ((wd q 3 : Nat) : Int)))) = sameS p q := by
  rw [Bool.eq_iff_iff, sameS_iff]
  simp only [Bool.and_eq_true, beq_iff_eq, Int.natCast_inj]
  constructor
  · rintro ⟨h0, h1, h2, h3⟩
    exact wd_inj h0 h1 h2 h3
  · intro h
    exact ⟨wd_congr h (by decide), wd_congr h (by decide), wd_congr h (by decide), wd_congr h (by decide)⟩
theorem sameS_of {p q : Nat → Bool} (h : ∀ c, c < 256 → p c = q c) : sameS p q = true := (sameS_iff p q).2 h
theorem sameS_congr {p p' q q' : Nat → Bool} (h : ∀ c, c < 256 → p c = p' c) (h2 : ∀ c, c < 256 → q c = q' c) : sameS p q = sameS p' q' := by
  rw [Bool.eq_iff_iff, sameS_iff, sameS_iff]
  exact ⟨fun k c hc => by rw [← h c hc, ← h2 c hc]; exact k c hc, fun k c hc => by rw [h c hc, h2 c hc]; exact k c hc⟩
end St
theorem set_eql (p q : Nat → Bool) (w : World) : (binOp .eql 25 (St.setV p) (St.setV q)).run Try.prog w = .ok (.bool (St.sameS p q)) w := by
  unfold St.setV
  rw [run_eql_struct, eq_in, St.sameS_words]; rfl
theorem set_neq (p q : Nat → Bool) (w : World) : (binOp .neq 25 (St.setV p) (St.setV q)).run Try.prog w = .ok (.bool (!St.sameS p q)) w := by
  unfold St.setV
  rw [run_neq_struct, eq_in, St.sameS_words]; rfl
end Go.Proofs.Ytmlpfgfpmbnbeaa
