/- Slices of lines in a world. -/
import Derived.Test.YthmofbcjhfcokaaLShare
import Derived.Test.YthmofbcjhfcokaaLPlain
import Derived.Maps.AppendAt
namespace Go.Proofs.Ythmofbcjhfcokaa
open Go.RowKit

theorem alloc_below (w : World) (o : Obj) : Below w.heap.size w (w.alloc o) := (Below.refl _ _).alloc (Nat.le_refl _) o
def lcells (l : List (ByteArray × Bool)) : List Value := l.flatMap fun x => [.string x.1, .bool x.2]
theorem lcells_length (l : List (ByteArray × Bool)) : (lcells l).length = l.length * 2 := by
  induction l with
  | nil => rfl
  | cons x r ih => simp only [lcells, List.flatMap_cons, List.length_append, List.length_cons, List.length_nil] at ih ⊢; omega
theorem lcells_append (a b : List (ByteArray × Bool)) : lcells (a ++ b) = lcells a ++ lcells b := by simp [lcells]
theorem lcells_get : ∀ (l : List (ByteArray × Bool)) (i : Nat) (h : i < l.length), (lcells l)[i * 2]? = some (.string (l[i]'h).1) ∧ (lcells l)[i * 2 + 1]? = some (.bool (l[i]'h).2)
  | [], i, h => absurd h (by simp)
  | x :: r, 0, h => by simp [lcells]
  | x :: r, i + 1, h => by
    have ih := lcells_get r i (by simpa using h)
    have e1 : (i + 1) * 2 = i * 2 + 1 + 1 := by omega
    have e2 : (i + 1) * 2 + 1 = i * 2 + 1 + 1 + 1 := by omega
    have e3 : lcells (x :: r) = .string x.1 :: .bool x.2 :: lcells r := rfl
    rw [e2, e1, e3]
    simpa using ih

/-- The slice at address a, of capacity cap, reads in w as the lines l. -/
structure Lns (w : World) (a : Option Addr) (cap : Nat) (l : List (ByteArray × Bool)) : Prop where
  len : l.length ≤ 67108864
  nil : a = none → cap = 0
  room : l.length ≤ cap
  most : cap ≤ maxLen
  size : ∀ x ∈ l, x.1.size ≤ 67108864
  cells : ∀ i (h : i < l.length), ∃ b off, a = some ⟨b, off, none⟩ ∧ b < w.heap.size ∧ w.cell? ⟨b, off + i * 2, none⟩ = some (.string (l[i]'h).1) ∧ w.cell? ⟨b, off + i * 2 + 1, none⟩ = some (.bool (l[i]'h).2)

theorem Lns.below {w w' : World} {a : Option Addr} {cap : Nat} {l : List (ByteArray × Bool)} (h : Lns w a cap l) (hb : Below w.heap.size w w') : Lns w' a cap l := by
  refine ⟨h.len, h.nil, h.room, h.most, h.size, fun i hi => ?_⟩
  obtain ⟨b, off, e, hlt, h1, h2⟩ := h.cells i hi
  exact ⟨b, off, e, Nat.lt_of_lt_of_le hlt hb.size, (hb.cell (p := ⟨b, off + i * 2, none⟩) hlt).trans h1, (hb.cell (p := ⟨b, off + i * 2 + 1, none⟩) hlt).trans h2⟩
theorem Lns.alloc {w : World} {a : Option Addr} {cap : Nat} {l : List (ByteArray × Bool)} (h : Lns w a cap l) (o : Obj) : Lns (w.alloc o) a cap l := h.below (alloc_below w o)

theorem own_lns {w : World} {base : Nat} {e : TypeId} {v : Value} {l : List (ByteArray × Bool)} (h : w.ownsRow base e 2 v l.length (lcells l)) (hlen : l.length ≤ 67108864) (hsz : ∀ x ∈ l, x.1.size ≤ 67108864) :
    ∃ a cap, v = .slice a l.length cap ∧ Lns w a cap l := by
  rcases h.2 with ⟨hv, hn⟩ | ⟨g, cap, cur, hv, hb, hg, hcap, hmax, hsize, htake⟩
  · exact ⟨none, 0, by rw [hv, hn], hlen, fun _ => rfl, by omega, Nat.zero_le _, hsz, fun i hi => absurd hi (by omega)⟩
  · refine ⟨some ⟨g, 0, none⟩, cap, hv, hlen, fun h => (by cases h), hcap, hmax, hsz, fun i hi => ⟨g, 0, rfl, lt_of_block hg, ?_, ?_⟩⟩
    · subst hv
      rw [Nat.zero_add, h.cellAt (i * 2) (by omega)]; exact (lcells_get l i hi).1
    · subst hv
      rw [Nat.zero_add, h.cellAt (i * 2 + 1) (by omega)]; exact (lcells_get l i hi).2

theorem Try.infoLine : (Try.prog.info? 34).map (fun i => (i.zero, i.size, i.bytes)) = some (some (.agg #[.string ⟨#[]⟩, .bool false]), 2, 24) := by kernel_rfl

end Go.Proofs.Ythmofbcjhfcokaa
