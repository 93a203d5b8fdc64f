/- The law ArgsReads: what args.Read answers is the document's. -/
import Derived.Test.YtfkdnojoammlcaaArFr
import Derived.Test.YtfkdnojoammlcaaArC
import Derived.Test.YtfkdnojoammlcaaArRy
namespace Go.Proofs.Ytfkdnojoammlcaa
open Go.RowKit

/-- What was read, ready to be read again. -/
theorem Cop.read {L : List ByteArray} {n : Nat} {w : World} {a b : Option Addr} {c d : Nat} (hz : ∀ s ∈ L, s.size ≤ 1048576) (h : Cop n (Ar.readF L).1 a c b d w) : AvR w (Ar.readF L).1 a c b d := by
  rcases Ar.read_ok L 1048576 hz with ⟨_, _, hr, hs1, hs2, hl1, hl2, hl3⟩ | ⟨_, e, _⟩
  · have hsf := Ar.right_sf hr
    exact Cop.avR h (by omega) (fun p hp => Nat.le_trans (hs1 p hp) (by omega)) (by omega) (fun s hs => Nat.le_trans (hs2 s hs) (by omega)) (by omega)
  · rw [e] at h ⊢
    exact Cop.avR h (by decide) (fun p hp => (nomatch hp)) (by decide) (fun s hs => (nomatch hs)) (by decide)
theorem read_nums (L : List ByteArray) (hz : ∀ s ∈ L, s.size ≤ 1048576) : 0 ≤ (Ar.readF L).2.1 ∧ (Ar.readF L).2.1 ≤ 260 := by
  rcases Ar.read_ok L 1048576 hz with ⟨h, _⟩ | ⟨h, _⟩
  · omega
  · omega
/-- A row of texts of one's own, ready to be read. -/
theorem own_rdy {w : World} {B : Nat} {v : Value} {L : List ByteArray} (ho : w.ownsRow B 9 1 v L.length (L.map Value.string)) (hl : L.length ≤ 1099511627776) (hz : ∀ s ∈ L, s.size ≤ 1048576) : ∃ a c, v = .slice a L.length c ∧ Rdy w a c L := by
  obtain ⟨a, c, e1, e2, e3⟩ := own_strs ho hl (fun s h => Nat.le_trans (hz s h) (by omega))
  exact ⟨a, c, e1, e2, fun ad e => (ho.lt ad.block (e3 ad e)).2, hz⟩

set_option maxRecDepth 100000 in
set_option maxHeartbeats 4000000 in
theorem law_reads (L : List ByteArray) (al : Option Addr) (cl : Nat) (w : World) (hL : Rdy w al cl L) (hl : L.length ≤ 1048576) (hm : MaxG w) :
    Calls Try.prog 3 #[.slice al L.length cl] w fun e w' => e = .returned (.bool true) ∧ Below w.heap.size w w' := by
  have HC : Hid _ := copied_any L al cl w hL.st (by omega)
  have HLw : Hid _ := hL
  have HMw : Hid _ := hm
  clear hL hm
  go_enter Try.func3, Try.ntmps3
  go_wp2_with fail
  refine Calls.mono HC.out ?_
  rintro e w1 ⟨v1, rfl, ho1, hb1⟩
  obtain ⟨ga, gc, rfl, hr1⟩ := own_rdy ho1 (by omega) HLw.out.sz
  have HB1 : Hid (Below w.heap.size w w1) := hb1
  have HG1 : Hid (Rdy w1 ga gc L) := hr1
  have HR : Hid _ := hr1.read (HMw.out.below hb1)
  clear ho1 hb1 hr1 HC
  go_wp2_with fail
  refine Calls.mono HR.out ?_
  rintro e w2 ⟨xa, xc, xb, xd, rfl, hc2, hb2⟩
  have HX2 : Hid (AvR w2 (Ar.readF L).1 xa xc xb xd) := Cop.read HLw.out.sz hc2
  have HB2 : Hid (Below w.heap.size w w2) := HB1.out.trans (hb2.mono HB1.out.size)
  have HG2 : Hid (Rdy w2 ga gc L) := HG1.out.below hb2
  have HZ : Hid _ := read_nums L HLw.out.sz
  obtain ⟨R, hR⟩ : ∃ R, R = Ar.readF L := ⟨_, rfl⟩
  rw [← hR] at HX2 HZ ⊢
  have HRd : Hid _ := hR
  obtain ⟨w3, hw3⟩ : ∃ w3, w3 = w2.alloc (.cells (avA R.1 xa xc xb xd) 28) := ⟨_, rfl⟩
  have HX3 : Hid (AvAt w3 w2.heap.size R.1 xa xc xb xd) := by rw [hw3]; exact avAt_new w2 HX2.out
  have HB3 : Hid (Below w.heap.size w w3) := HB2.out.trans (by rw [hw3]; exact (alloc_below w2 _).mono HB2.out.size)
  have HG3 : Hid (Rdy w3 ga gc L) := HG2.out.below (by rw [hw3]; exact alloc_below w2 _)
  have HW3 : Hid _ := hw3
  have HR2 : Hid _ := rread_any L al cl w3 (HLw.out.below HB3.out).st (HLw.out.below HB3.out).af (fun _ hi => HLw.out.sz _ (List.getElem_mem hi))
  clear hc2 hb2 hR hw3 HR HG1 HB1
  simp only [avA] at HW3 ⊢
  go_upto_region 3 with fail
  rw [← HW3.out]
  go_wp2_with fail
  refine Calls.mono HR2.out ?_
  rintro e w4 ⟨ya, yc, yb, yd, rfl, hc4, hb4⟩
  have HY4 : Hid (AvR w4 (Ar.readF L).1 ya yc yb yd) := Cop.read HLw.out.sz hc4
  rw [← HRd.out] at HY4 ⊢
  have HB4 : Hid (Below w.heap.size w w4) := HB3.out.trans (hb4.mono HB3.out.size)
  have HX4 : Hid (AvAt w4 w2.heap.size R.1 xa xc xb xd) := HX3.out.under hb4
  have HG4 : Hid (Rdy w4 ga gc L) := HG3.out.below hb4
  obtain ⟨w5, hw5⟩ : ∃ w5, w5 = w4.alloc (.cells (avA R.1 ya yc yb yd) 28) := ⟨_, rfl⟩
  have hb5 : Below w4.heap.size w4 w5 := by rw [hw5]; exact alloc_below w4 _
  have HB5 : Hid (Below w.heap.size w w5) := HB4.out.trans (hb5.mono HB4.out.size)
  have HY5 : Hid (AvAt w5 w4.heap.size R.1 ya yc yb yd) := by rw [hw5]; exact avAt_new w4 HY4.out
  have HX5 : Hid (AvAt w5 w2.heap.size R.1 xa xc xb xd) := HX4.out.under hb5
  have HG5 : Hid (Rdy w5 ga gc L) := HG4.out.below hb5
  have HW5 : Hid _ := hw5
  have HS : Hid (Calls Try.prog 12 #[.agg (avA R.1 xa xc xb xd), .agg (avA R.1 ya yc yb yd)] w5 fun e w' => e = .returned (.bool true) ∧ Below w5.heap.size w5 w') := (rsame_any R.1 R.1 xa xb ya yb xc xd yc yd w5 HX5.out.r HY5.out.r).mono fun e w' h => ⟨by rw [h.1, Ar.sameA_refl], h.2⟩
  have HT : Hid (∀ V, Below w5.heap.size w5 V → Calls Try.prog 13 #[.slice ga L.length gc, .slice al L.length cl] V fun e w' => e = .returned (.bool true) ∧ Below w5.heap.size w5 w') := fun V hV => by
    refine (texts_any ga al gc cl L L V (HG5.out.below hV).st ((HLw.out.below HB5.out).below hV).st).mono ?_
    rintro e w' ⟨rfl, hb⟩
    exact ⟨by rw [decide_eq_true rfl], below_tr hV (hb.mono hV.size)⟩
  clear hc4 hb4 hb5 hw5 HR2 HX3 HG3 HX4 HG4 HG2 HX2 HB2 HB3 HB4
  simp only [avA] at HW5 HS ⊢
  obtain ⟨X, er, at'⟩ := R
  dsimp only at *
  go_upto_region 4 with fail
  rw [← HW5.out]
  obtain ⟨d00, d01, d02, d03, d04, d05, d06⟩ := HX5.out.cells
  obtain ⟨f00, f01, f02, f03, f04, f05, f06⟩ := HY5.out.cells
  obtain ⟨z1, z2⟩ := HZ.out
  go_wp2_with fail
  refine Calls.mono HS.out ?_
  rintro e w6 ⟨rfl, hb6⟩
  have HB6 : Hid _ := hb6
  clear hb6
  go_wp2_with fail
  refine Calls.mono (HT.out _ HB6.out) ?_
  rintro e w7 ⟨rfl, hb7⟩
  have HB7 : Hid (Below w.heap.size w w7) := HB5.out.trans (hb7.mono HB5.out.size)
  clear hb7
  go_wp2_with fail
  go_ret
  exact ⟨rfl, HB7.out⟩
end Go.Proofs.Ytfkdnojoammlcaa
