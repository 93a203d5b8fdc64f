/- The law ArgsScripts: the script that pieces make is the document's. -/
import Derived.Test.YtklcfjakhabbgaaArSr
import Derived.Test.YtklcfjakhabbgaaArRy
namespace Go.Proofs.Ytklcfjakhabbgaa
open Go.RowKit

set_option maxRecDepth 100000 in
set_option maxHeartbeats 2000000 in
theorem law_scripts (l : List Ar.Pc) (pa : Option Addr) (pc : Nat) (F : List ByteArray) (fa : Option Addr) (fc : Nat) (w : World) (hl : Pcs w pa pc l) (hF : Strs w fa fc F) (haf : ∀ ad : Addr, fa = some ad → F ≠ [] → ad.block < w.heap.size) (hz : (l.map (fun p => p.2.size + 3)).sum + Ar.tsz F ≤ 4194304) (hll : l.length ≤ 1048576) (hm : MaxG w) :
    Calls Try.prog 5 #[.slice pa l.length pc, .slice fa F.length fc] w fun e w' => e = .returned (.bool true) ∧ Below w.heap.size w w' := by
  have H1 : Hid _ := script_any l pa pc F fa fc w hl hF haf hz hll
  have H2 : Hid (∀ V, Below w.heap.size w V → Calls Try.prog 21 #[.slice pa l.length pc, .slice fa F.length fc] V (ScIs l F V)) := fun V hV => rscript_any l pa pc F fa fc V (hl.below hV) (hF.below hV) hz hll
  have H3 : Hid (∀ V, Below w.heap.size w V → Calls Try.prog 22 #[] V fun e w' => e = .returned (.bool true) ∧ Below V.heap.size V w') := fun V hV => begins_any V (hm.below hV).m (hm.below hV).g
  have HN : Hid ((Ar.scrR l F).2 = 0 ∨ (Ar.scrR l F).2 = 2) := by
    unfold Ar.scrR
    split
    · exact .inl rfl
    · exact .inr rfl
  unfold ScIs at H1 H2
  generalize Ar.scrR l F = R at *
  obtain ⟨T, n⟩ := R
  dsimp only at *
  clear hl hF haf hz hm
  rcases HN.out with rfl | rfl
  all_goals
    go_enter Try.func5, Try.ntmps5
    go_wp2_with fail
    refine Calls.mono H1.out ?_
    rintro e w1 ⟨rfl, hb1⟩
    have HB1 : Hid (Below w.heap.size w w1) := hb1
    clear hb1
    go_wp2_with fail
    refine Calls.mono (H2.out _ HB1.out) ?_
    rintro e w2 ⟨rfl, hb2⟩
    have HB2 : Hid (Below w.heap.size w w2) := HB1.out.trans (hb2.mono HB1.out.size)
    clear hb2
    go_wp2_with fail
    refine Calls.mono (H3.out _ HB2.out) ?_
    rintro e w3 ⟨rfl, hb3⟩
    have HB3 : Hid (Below w.heap.size w w3) := HB2.out.trans (hb3.mono HB2.out.size)
    clear hb3
    go_wp2_with fail
    go_ret
    exact ⟨rfl, HB3.out⟩
end Go.Proofs.Ytklcfjakhabbgaa
