/- Slices of changes in a world: what the contracts of Diff, Apply and Unified lean on. -/
import Derived.Test.YtpoimhkfajppmaaDoorLLines
import Derived.Test.YtpoimhkfajppmaaDoorLPlainD
namespace Go.Proofs.YtpoimhkfajppmaaDoor
open Go.RowKit

def ccells (l : List (Nat × (ByteArray × Bool))) : List Value := l.flatMap fun x => [.int .u8 (x.1 : Int), .string x.2.1, .bool x.2.2]
theorem ccells_length (l : List (Nat × (ByteArray × Bool))) : (ccells l).length = l.length * 3 := by
  induction l with
  | nil => rfl
  | cons x r ih => simp only [ccells, List.flatMap_cons, List.length_append, List.length_cons, List.length_nil] at ih ⊢; omega
theorem ccells_append (a b : List (Nat × (ByteArray × Bool))) : ccells (a ++ b) = ccells a ++ ccells b := by simp [ccells]
theorem ccells_get : ∀ (l : List (Nat × (ByteArray × Bool))) (i : Nat) (h : i < l.length), (ccells l)[i * 3]? = some (.int .u8 ((l[i]'h).1 : Int)) ∧ (ccells l)[i * 3 + 1]? = some (.string (l[i]'h).2.1) ∧ (ccells l)[i * 3 + 2]? = some (.bool (l[i]'h).2.2)
  | [], i, h => absurd h (by simp)
  | x :: r, 0, h => by simp [ccells]
  | x :: r, i + 1, h => by
    have ih := ccells_get r i (by simpa using h)
    have e1 : (i + 1) * 3 = i * 3 + 1 + 1 + 1 := by omega
    have e2 : (i + 1) * 3 + 1 = i * 3 + 1 + 1 + 1 + 1 := by omega
    have e3 : (i + 1) * 3 + 2 = i * 3 + 2 + 1 + 1 + 1 := by omega
    have e4 : ccells (x :: r) = .int .u8 (x.1 : Int) :: .string x.2.1 :: .bool x.2.2 :: ccells r := rfl
    rw [e3, e2, e1, e4]
    simpa using ih

/-- The slice at address a, of capacity cap, reads in w as the changes l. -/
structure Chs (w : World) (a : Option Addr) (cap : Nat) (l : List (Nat × (ByteArray × Bool))) : Prop where
  len : l.length ≤ 67108864
  nil : a = none → cap = 0
  room : l.length ≤ cap
  most : cap ≤ maxLen
  size : ∀ x ∈ l, x.2.1.size ≤ 67108864
  kind : ∀ x ∈ l, x.1 < 256
  cells : ∀ i (h : i < l.length), ∃ b off, a = some ⟨b, off, none⟩ ∧ b < w.heap.size ∧ w.cell? ⟨b, off + i * 3, none⟩ = some (.int .u8 ((l[i]'h).1 : Int)) ∧ w.cell? ⟨b, off + i * 3 + 1, none⟩ = some (.string (l[i]'h).2.1) ∧ w.cell? ⟨b, off + i * 3 + 2, none⟩ = some (.bool (l[i]'h).2.2)
theorem Chs.below {w w' : World} {a : Option Addr} {cap : Nat} {l : List (Nat × (ByteArray × Bool))} (h : Chs w a cap l) (hb : Below w.heap.size w w') : Chs w' a cap l := by
  refine ⟨h.len, h.nil, h.room, h.most, h.size, h.kind, fun i hi => ?_⟩
  obtain ⟨b, off, e, hlt, h1, h2, h3⟩ := h.cells i hi
  exact ⟨b, off, e, Nat.lt_of_lt_of_le hlt hb.size, (hb.cell (p := ⟨b, off + i * 3, none⟩) hlt).trans h1, (hb.cell (p := ⟨b, off + i * 3 + 1, none⟩) hlt).trans h2, (hb.cell (p := ⟨b, off + i * 3 + 2, none⟩) hlt).trans h3⟩
theorem Chs.empty (w : World) : Chs w none 0 [] := ⟨by simp, fun _ => rfl, Nat.le_refl _, Nat.zero_le _, fun x h => by simp at h, fun x h => by simp at h, fun i h => absurd h (by simp)⟩
theorem own_chs {w : World} {base : Nat} {e : TypeId} {v : Value} {l : List (Nat × (ByteArray × Bool))} (h : w.ownsRow base e 3 v l.length (ccells l)) (hlen : l.length ≤ 67108864) (hsz : ∀ x ∈ l, x.2.1.size ≤ 67108864) (hk : ∀ x ∈ l, x.1 < 256) :
    ∃ a cap, v = .slice a l.length cap ∧ Chs w a cap l := by
  rcases h.2 with ⟨hv, hn⟩ | ⟨g, cap, cur, hv, hb, hg, hcap, hmax, hsize, htake⟩
  · exact ⟨none, 0, by rw [hv, hn], hlen, fun _ => rfl, by omega, Nat.zero_le _, hsz, hk, fun i hi => absurd hi (by omega)⟩
  · subst hv
    refine ⟨some ⟨g, 0, none⟩, cap, rfl, hlen, fun h => (by cases h), hcap, hmax, hsz, hk, fun i hi => ⟨g, 0, rfl, lt_of_block hg, ?_, ?_, ?_⟩⟩
    · rw [Nat.zero_add, h.cellAt (i * 3) (by omega)]; exact (ccells_get l i hi).1
    · rw [Nat.zero_add, h.cellAt (i * 3 + 1) (by omega)]; exact (ccells_get l i hi).2.1
    · rw [Nat.zero_add, h.cellAt (i * 3 + 2) (by omega)]; exact (ccells_get l i hi).2.2
theorem Tryd.infoChange : (Tryd.prog.info? 40).map (fun i => (i.zero, i.size, i.bytes)) = some (some (.agg #[.int .u8 0, .string ⟨#[]⟩, .bool false]), 3, 32) := by kernel_rfl
end Go.Proofs.YtpoimhkfajppmaaDoor
