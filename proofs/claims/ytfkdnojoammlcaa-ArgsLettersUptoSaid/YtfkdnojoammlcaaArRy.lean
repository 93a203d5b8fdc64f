/- Arguments that may be read, in every world behind. -/
import Derived.Test.YtfkdnojoammlcaaArBg
import Derived.Test.YtfkdnojoammlcaaArBkP
import Derived.Test.YtfkdnojoammlcaaLawArP
namespace Go.Proofs.Ytfkdnojoammlcaa
open Go.RowKit

/-- Arguments that may be read, in every world behind w. -/
structure Rdy (w : World) (al : Option Addr) (cl : Nat) (L : List ByteArray) : Prop where
  st : Strs w al cl L
  af : ∀ ad : Addr, al = some ad → ad.block < w.heap.size
  sz : ∀ s ∈ L, s.size ≤ 1048576
/-- The library's variable MaxLen holds some number. -/
structure MaxG (w : World) : Prop where
  m : ∃ m, w.cell? ⟨0, 0, none⟩ = some (.int .i64 m)
  g : 0 < w.heap.size
theorem MaxG.below {w V : World} (h : MaxG w) (hb : Below w.heap.size w V) : MaxG V := by
  obtain ⟨⟨m, hm⟩, hg⟩ := h
  exact ⟨⟨m, (hb.cell (p := ⟨0, 0, none⟩) hg).trans hm⟩, Nat.lt_of_lt_of_le hg hb.size⟩
theorem Rdy.below {w V : World} {al : Option Addr} {cl : Nat} {L : List ByteArray} (h : Rdy w al cl L) (hb : Below w.heap.size w V) : Rdy V al cl L := ⟨h.st.below hb, fun ad e => Nat.lt_of_lt_of_le (h.af ad e) hb.size, h.sz⟩
theorem Rdy.read {V : World} {al : Option Addr} {cl : Nat} {L : List ByteArray} (h : Rdy V al cl L) (hm : MaxG V) : Calls Try.prog 10 #[.slice al L.length cl] V (ReadIs L V) :=
  read_any L al cl V h.st h.af (fun _ hi => h.sz _ (List.getElem_mem hi)) hm.m hm.g
/-- What was written, ready to be read. -/
theorem PrIs.rdy {x : Ar.Av} {n : Nat} {v : Value} {w : World} (h : PrIs x n v w) (he : Ar.printE x = 0) (h1 : ∀ p ∈ x.sc, p.2.size ≤ 1048576) (h2 : ∀ s ∈ x.nm, s.size ≤ 1048576) :
    ∃ a c, v = .slice a (Ar.printL x).length c ∧ Rdy w a c (Ar.printL x) := by
  have hsf := Ar.right_sf (Ar.printE_right he)
  have hsz : ∀ s ∈ Ar.printL x, s.size ≤ 1048576 := fun s hs => by
    rcases Ar.mem_printL hs with h | rfl | ⟨p, hp, rfl⟩ | hn
    · omega
    · rw [Ar.ip_size]; omega
    · exact h1 p hp
    · exact h2 s hn
  have hln := Ar.printE_len he
  obtain ⟨a, c, e1, e2, e3⟩ := own_strs (h.1 he) (by omega) (fun s hs => Nat.le_trans (hsz s hs) (by omega))
  exact ⟨a, c, e1, e2, fun ad e => ((h.1 he).lt ad.block (e3 ad e)).2, hsz⟩
end Go.Proofs.Ytfkdnojoammlcaa
