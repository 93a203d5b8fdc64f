/- begins(): a closed run of Read and Print. -/
import Derived.Test.YtklcfjakhabbgaaArRe
import Derived.Test.YtklcfjakhabbgaaArPs
import Derived.Test.YtklcfjakhabbgaaArNmP
namespace Go.Proofs.Ytklcfjakhabbgaa
open Go.RowKit

theorem Cop.avR {n : Nat} {x : Ar.Av} {a b : Option Addr} {c d : Nat} {w : World} (h : Cop n x a c b d w) (h1 : x.sc.length ≤ 1099511627776) (h2 : ∀ p ∈ x.sc, p.2.size ≤ 1099511627776) (h3 : x.nm.length ≤ 1099511627776) (h4 : ∀ s ∈ x.nm, s.size ≤ 1099511627776) (h5 : x.sf.size ≤ 1048576) : AvR w x a c b d := by
  obtain ⟨a1, c1, e1, q1, _⟩ := own_pcs h.rs h1 h2
  obtain ⟨b1, d1, e2, q2, _⟩ := own_strs h.rn h3 h4
  cases e1
  cases e2
  exact ⟨q1, q2, by omega⟩
/-- A list that is laid whole. -/
theorem strs_new (w : World) (l : List ByteArray) (t : TypeId) (hl : l.length ≤ 65536) (hz : ∀ i (h : i < l.length), (l[i]'h).size ≤ 1099511627776) : Strs (w.alloc (.cells (l.map Value.string).toArray t)) (some ⟨w.heap.size, 0, none⟩) l.length l :=
  ⟨by omega, fun e => by (cases e), Nat.le_refl _, by unfold maxLen; omega, hz, fun i hi => ⟨w.heap.size, 0, rfl, by simp, by
    rw [cell_of_row _ _ _ _ _ _ (heap_alloc_new _ _)]
    simp [hi]⟩⟩
namespace Ar
def begX : Av := { av0' with q := true, sc := [(false, ⟨#[112]⟩)], nm := [⟨#[102]⟩] }
def begP : List ByteArray := [⟨#[45, 110]⟩, ⟨#[45, 101]⟩, ⟨#[112]⟩, ⟨#[45, 45]⟩, ⟨#[102]⟩]
theorem begX_print : printE begX = 0 ∧ printL begX = begP := by
  have h1 : rightB begX = true := by
    have h3 : begX.sf.size = 0 := rfl
    have h4 : begX.sf.toList = [] := by rw [Lib.toList_data]; rfl
    simp [rightB, sfxB, h3, h4]
    simp [begX, av0', bs]
  have h2 : printL begX = begP := by rfl
  refine ⟨?_, h2⟩
  rw [printE, if_neg (by rw [h1]; decide), if_neg (by rw [h2]; decide)]
end Ar
set_option maxRecDepth 100000 in
set_option maxHeartbeats 2000000 in
theorem begins_any (w : World) (hm : ∃ m, w.cell? ⟨0, 0, none⟩ = some (.int .i64 m)) (hg0 : 0 < w.heap.size) :
    Calls Try.prog 22 #[] w fun e w' => e = .returned (.bool true) ∧ Below w.heap.size w w' := by
  obtain ⟨w0, hw0⟩ : ∃ w0, w0 = w.alloc (.cells #[.string ⟨#[45, 110, 101]⟩, .string ⟨#[112]⟩, .string ⟨#[102]⟩] 9) := ⟨_, rfl⟩
  have HB0 : Hid (Below w.heap.size w w0) := by rw [hw0]; exact alloc_below _ _
  have HR : Hid (Calls Try.prog 10 #[.slice (some ⟨w.heap.size, 0, none⟩) 3 3] w0 (ReadIs Ar.begL w0)) := by
    refine read_any Ar.begL _ 3 w0 ?_ ?_ ?_ ?_ ?_
    · rw [hw0]; exact strs_new w Ar.begL 9 (by decide) (by decide)
    · intro ad e; cases e; rw [hw0]; simp
    · decide
    · obtain ⟨m, hm⟩ := hm
      exact ⟨m, (HB0.out.cell (p := ⟨0, 0, none⟩) hg0).trans hm⟩
    · rw [hw0]; simp
  have HW0 : Hid _ := hw0
  rw [hw0] at HR
  clear hm hg0 hw0
  go_enter Try.func22, Try.ntmps22
  go_wp2_with fail
  refine Calls.mono HR.out ?_
  rw [← HW0.out]
  rintro e w1 ⟨a, c, b, d, rfl, hc1, hb1⟩
  have he : avA (Ar.readF Ar.begL).1 a c b d = #[.bool true, .bool false, .bool false, .bool false, .string ⟨#[]⟩, .slice a 1 c, .slice b 1 d] := by rw [Ar.read_beg]; rfl
  have hr := Ar.read_beg
  rw [he, show (Ar.readF Ar.begL).2.1 = 0 by rw [hr], show (Ar.readF Ar.begL).2.2 = 0 by rw [hr]]
  rw [hr] at hc1
  clear he hr
  have HA1 : Hid (AvR w1 Ar.begX a c b d) := Cop.avR (x := Ar.begX) hc1 (by decide) (by decide) (by decide) (by decide) (by decide)
  have HB1 : Hid (Below w.heap.size w w1) := HB0.out.trans (hb1.mono (by have := HB0.out.size; exact this))
  have HP : Hid (∀ V, AvR V Ar.begX a c b d → Calls Try.prog 15 #[.agg #[.bool true, .bool false, .bool false, .bool false, .string ⟨#[]⟩, .slice a 1 c, .slice b 1 d]] V fun e w' => ∃ v, e = .returned (.tuple #[v, .int .i64 0]) ∧ w'.ownsRow V.heap.size 9 1 v 5 (Ar.begP.map Value.string) ∧ Below V.heap.size V w') := fun V hV => by
    refine (print_any Ar.begX a b c d V hV).mono ?_
    rintro e w' ⟨v, rfl, hp, hb⟩
    have h1 := hp.1 Ar.begX_print.1
    rw [Ar.begX_print.2] at h1
    exact ⟨v, by rw [Ar.begX_print.1], h1, hb⟩
  clear hc1 hb1 HR HW0 HB0
  go_wp2_with fail
  refine Calls.mono (HP.out _ (HA1.out.alloc _)) ?_
  rintro e w3 ⟨v, rfl, ho, hb3⟩
  obtain ⟨va, vc, rfl, hs, _⟩ := own_strs (l := Ar.begP) ho (by decide) (by decide)
  have hbx : w3.heap[w1.heap.size]? = some (.cells #[.bool true, .bool false, .bool false, .bool false, .string ⟨#[]⟩, .slice a 1 c, .slice b 1 d] 28) := (hb3.block _ (by simp)).trans (heap_alloc_new _ _)
  have HA3 : Hid (AvR w3 Ar.begX a c b d) := (HA1.out.alloc _).below hb3
  have k0 : w3.cell? ⟨w1.heap.size, 0, none⟩ = some (.bool true) := cell_of_row _ _ _ _ _ _ hbx
  have k5 : w3.cell? ⟨w1.heap.size, 5, none⟩ = some (.slice a 1 c) := cell_of_row _ _ _ _ _ _ hbx
  have HB3 : Hid (Below w.heap.size w w3) := (HB1.out.trans ((alloc_below w1 _).mono HB1.out.size)).trans (hb3.mono (by have := HB1.out.size; simp; omega))
  obtain ⟨sb, so, rfl, hsb, _, s1⟩ := HA3.out.sc.cells 0 (by decide)
  have s2 : w3.cell? ⟨sb, so + 1, none⟩ = some (.string ⟨#[112]⟩) := s1
  clear s1
  have HT : Hid (∀ V, Below w3.heap.size w3 V → Calls Try.prog 13 #[.slice va Ar.begP.length vc, .slice (some ⟨V.heap.size, 0, none⟩) 5 5] (V.alloc (.cells #[.string ⟨#[45, 110]⟩, .string ⟨#[45, 101]⟩, .string ⟨#[112]⟩, .string ⟨#[45, 45]⟩, .string ⟨#[102]⟩] 9)) fun e w' => e = .returned (.bool true) ∧ Below w.heap.size w w') := fun V hV => by
    have hb : Below w3.heap.size w3 (V.alloc (.cells #[.string ⟨#[45, 110]⟩, .string ⟨#[45, 101]⟩, .string ⟨#[112]⟩, .string ⟨#[45, 45]⟩, .string ⟨#[102]⟩] 9)) := hV.trans ((alloc_below V _).mono hV.size)
    refine (texts_any va (some ⟨V.heap.size, 0, none⟩) vc 5 Ar.begP Ar.begP _ (hs.below hb) (strs_new V Ar.begP 9 (by decide) (by decide))).mono ?_
    rintro e w' ⟨rfl, hb2⟩
    exact ⟨by rw [decide_eq_true rfl], HB3.out.trans ((hb.trans (hb2.mono hb.size)).mono HB3.out.size)⟩
  clear hs ho hb3 hbx HP
  go_wp2_with fail
  refine Calls.mono (HT.out _ (Below.refl _ _)) ?_
  rintro e w4 ⟨rfl, hb4⟩
  have HB4 : Hid _ := hb4
  clear hb4
  go_wp2_with fail
  go_ret
  exact ⟨rfl, HB4.out⟩
end Go.Proofs.Ytklcfjakhabbgaa
