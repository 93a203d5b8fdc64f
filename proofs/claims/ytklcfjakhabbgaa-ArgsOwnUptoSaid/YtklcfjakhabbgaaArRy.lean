/- Arguments that may be read, in every world behind. -/
import Derived.Test.YtklcfjakhabbgaaArBg
import Derived.Test.YtklcfjakhabbgaaArBkP
import Derived.Test.YtklcfjakhabbgaaLawArP
namespace Go.Proofs.Ytklcfjakhabbgaa
open Go.RowKit

/-- Arguments that may be read, in every world behind w. -/
structure Rdy (w : World) (al : Option Addr) (cl : Nat) (L : List ByteArray) : Prop where
  st : Strs w al cl L
  af : ∀ ad : Addr, al = some ad → ad.block < w.heap.size
  sz : ∀ s ∈ L, s.size ≤ 1048576
/-- The library's variable MaxLen holds some number. -/
structure MaxG (w : World) : Prop where
  m : ∃ m, w.cell? ⟨0, 0, none⟩ = some (.int .i64 m)
  g : 0 < w.heap.size
theorem MaxG.below {w V : World} (h : MaxG w) (hb : Below w.heap.size w V) : MaxG V := by
  obtain ⟨⟨m, hm⟩, hg⟩ := h
  exact ⟨⟨m, (hb.cell (p := ⟨0, 0, none⟩) hg).trans hm⟩, Nat.lt_of_lt_of_le hg hb.size⟩
theorem Rdy.below {w V : World} {al : Option Addr} {cl : Nat} {L : List ByteArray} (h : Rdy w al cl L) (hb : Below w.heap.size w V) : Rdy V al cl L := ⟨h.st.below hb, fun ad e => Nat.lt_of_lt_of_le (h.af ad e) hb.size, h.sz⟩
theorem Rdy.read {V : World} {al : Option Addr} {cl : Nat} {L : List ByteArray} (h : Rdy V al cl L) (hm : MaxG V) : Calls Try.prog 10 #[.slice al L.length cl] V (ReadIs L V) :=
  read_any L al cl V h.st h.af (fun _ hi => Nat.le_trans (h.sz _ (List.getElem_mem hi)) (by decide)) hm.m hm.g
/-- What was written, ready to be read. -/
theorem PrIs.rdy {x : Ar.Av} {n : Nat} {v : Value} {w : World} (h : PrIs x n v w) (he : Ar.printE x = 0) (h1 : ∀ p ∈ x.sc, p.2.size ≤ 1048576) (h2 : ∀ s ∈ x.nm, s.size ≤ 1048576) :
    ∃ a c, v = .slice a (Ar.printL x).length c ∧ Rdy w a c (Ar.printL x) := by
  have hsf := Ar.right_sf (Ar.printE_right he)
  have hsz : ∀ s ∈ Ar.printL x, s.size ≤ 1048576 := fun s hs => by
    rcases Ar.mem_printL hs with h | rfl | ⟨p, hp, rfl⟩ | hn
    · omega
    · rw [Ar.ip_size]; omega
    · exact h1 p hp
    · exact h2 s hn
  have hln := Ar.printE_len he
  obtain ⟨a, c, e1, e2, e3⟩ := own_strs (h.1 he) (by omega) (fun s hs => Nat.le_trans (hsz s hs) (by omega))
  exact ⟨a, c, e1, e2, fun ad e => ((h.1 he).lt ad.block (e3 ad e)).2, hsz⟩
/-- What was read, ready to be read again. -/
theorem Cop.read_to {M : Nat} (hM : M ≤ 1099511627776) {L : List ByteArray} {n : Nat} {w : World} {a b : Option Addr} {c d : Nat} (hz : ∀ s ∈ L, s.size ≤ M) (h : Cop n (Ar.readF L).1 a c b d w) : AvR w (Ar.readF L).1 a c b d := by
  rcases Ar.read_ok L M hz with ⟨_, _, hr, hs1, hs2, hl1, hl2, hl3⟩ | ⟨_, e, _⟩
  · have hsf := Ar.right_sf hr
    exact Cop.avR h (by omega) (fun p hp => Nat.le_trans (hs1 p hp) (by omega)) (by omega) (fun s hs => Nat.le_trans (hs2 s hs) (by omega)) (by omega)
  · rw [e] at h ⊢
    exact Cop.avR h (by decide) (fun p hp => (nomatch hp)) (by decide) (fun s hs => (nomatch hs)) (by decide)
theorem Cop.read {L : List ByteArray} {n : Nat} {w : World} {a b : Option Addr} {c d : Nat} (hz : ∀ s ∈ L, s.size ≤ 1048576) (h : Cop n (Ar.readF L).1 a c b d w) : AvR w (Ar.readF L).1 a c b d := Cop.read_to (by decide) hz h
theorem read_nums (L : List ByteArray) (hz : ∀ s ∈ L, s.size ≤ 1048576) : 0 ≤ (Ar.readF L).2.1 ∧ (Ar.readF L).2.1 ≤ 260 := by
  rcases Ar.read_ok L 1048576 hz with ⟨h, _⟩ | ⟨h, _⟩
  · omega
  · omega
/-- A row of texts of one's own, ready to be read. -/
theorem own_rdy {w : World} {B : Nat} {v : Value} {L : List ByteArray} (ho : w.ownsRow B 9 1 v L.length (L.map Value.string)) (hl : L.length ≤ 1099511627776) (hz : ∀ s ∈ L, s.size ≤ 1048576) : ∃ a c, v = .slice a L.length c ∧ Rdy w a c L := by
  obtain ⟨a, c, e1, e2, e3⟩ := own_strs ho hl (fun s h => Nat.le_trans (hz s h) (by omega))
  exact ⟨a, c, e1, e2, fun ad e => (ho.lt ad.block (e3 ad e)).2, hz⟩
/-- Longer texts too may be read. -/
theorem read_row {w : World} {B : Nat} {v : Value} {L : List ByteArray} (hm : MaxG w) (ho : w.ownsRow B 9 1 v L.length (L.map Value.string)) (hl : L.length ≤ 1099511627776) (hz : ∀ s ∈ L, s.size ≤ 2097152) : ∃ a c, v = .slice a L.length c ∧ Calls Try.prog 10 #[.slice a L.length c] w (ReadIs L w) := by
  obtain ⟨a, c, rfl, e2, e3⟩ := own_strs ho hl (fun s h => Nat.le_trans (hz s h) (by decide))
  exact ⟨a, c, rfl, read_any L a c w e2 (fun ad e => (ho.lt ad.block (e3 ad e)).2) (fun i hi => hz _ (List.getElem_mem hi)) hm.m hm.g⟩
end Go.Proofs.Ytklcfjakhabbgaa
