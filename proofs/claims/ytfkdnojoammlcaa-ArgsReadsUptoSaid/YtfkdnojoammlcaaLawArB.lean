/- The law ArgsBack: what is written is read as it was; what is read is right, and is written so that it is read as the same. -/
import Derived.Test.YtfkdnojoammlcaaArBg
import Derived.Test.YtfkdnojoammlcaaArBkP
import Derived.Test.YtfkdnojoammlcaaLawArP
import Derived.Deep.DeepCutAuto
namespace Go.Proofs.Ytfkdnojoammlcaa
open Go.RowKit

theorem avAt_refl {w : World} {g : Nat} {x : Ar.Av} {a b : Option Addr} {c d : Nat} (h : AvR w x a c b d) (hg : w.heap[g]? = some (.cells (avA x a c b d) 28)) : AvAt w g x a c b d := ⟨hg, h⟩
/-- Arguments that may be read, in every world behind w. -/
structure Rdy (w : World) (al : Option Addr) (cl : Nat) (L : List ByteArray) : Prop where
  st : Strs w al cl L
  af : ∀ ad : Addr, al = some ad → ad.block < w.heap.size
  sz : ∀ s ∈ L, s.size ≤ 1048576
/-- The library's variable MaxLen holds some number. -/
structure MaxG (w : World) : Prop where
  m : ∃ m, w.cell? ⟨0, 0, none⟩ = some (.int .i64 m)
  g : 0 < w.heap.size
theorem MaxG.below {w V : World} (h : MaxG w) (hb : Below w.heap.size w V) : MaxG V := by
  obtain ⟨⟨m, hm⟩, hg⟩ := h
  exact ⟨⟨m, (hb.cell (p := ⟨0, 0, none⟩) hg).trans hm⟩, Nat.lt_of_lt_of_le hg hb.size⟩
theorem Rdy.below {w V : World} {al : Option Addr} {cl : Nat} {L : List ByteArray} (h : Rdy w al cl L) (hb : Below w.heap.size w V) : Rdy V al cl L := ⟨h.st.below hb, fun ad e => Nat.lt_of_lt_of_le (h.af ad e) hb.size, h.sz⟩
theorem Rdy.read {V : World} {al : Option Addr} {cl : Nat} {L : List ByteArray} (h : Rdy V al cl L) (hm : MaxG V) : Calls Try.prog 10 #[.slice al L.length cl] V (ReadIs L V) :=
  read_any L al cl V h.st h.af (fun _ hi => h.sz _ (List.getElem_mem hi)) hm.m hm.g
/-- What was written, ready to be read. -/
theorem PrIs.rdy {x : Ar.Av} {n : Nat} {v : Value} {w : World} (h : PrIs x n v w) (he : Ar.printE x = 0) (h1 : ∀ p ∈ x.sc, p.2.size ≤ 1048576) (h2 : ∀ s ∈ x.nm, s.size ≤ 1048576) :
    ∃ a c, v = .slice a (Ar.printL x).length c ∧ Rdy w a c (Ar.printL x) := by
  have hsf := Ar.right_sf (Ar.printE_right he)
  have hsz : ∀ s ∈ Ar.printL x, s.size ≤ 1048576 := fun s hs => by
    rcases Ar.mem_printL hs with h | rfl | ⟨p, hp, rfl⟩ | hn
    · omega
    · rw [Ar.ip_size]; omega
    · exact h1 p hp
    · exact h2 s hn
  have hln := Ar.printE_len he
  obtain ⟨a, c, e1, e2, e3⟩ := own_strs (h.1 he) (by omega) (fun s hs => Nat.le_trans (hsz s hs) (by omega))
  exact ⟨a, c, e1, e2, fun ad e => ((h.1 he).lt ad.block (e3 ad e)).2, hsz⟩

set_option maxRecDepth 100000 in
set_option maxHeartbeats 4000000 in
theorem law_back (x : Ar.Av) (a b : Option Addr) (c d : Nat) (L : List ByteArray) (al : Option Addr) (cl : Nat) (w : World) (hx : AvR w x a c b d) (h1 : ∀ p ∈ x.sc, p.2.size ≤ 1048576) (h2 : ∀ s ∈ x.nm, s.size ≤ 1048576) (hL : Rdy w al cl L) (hm : MaxG w) :
    Calls Try.prog 6 #[.agg (avA x a c b d), .slice al L.length cl] w fun e w' => e = .returned (.bool true) ∧ Below w.heap.size w w' := by
  obtain ⟨w0, hw0⟩ : ∃ w0, w0 = w.alloc (.cells (avA x a c b d) 28) := ⟨_, rfl⟩
  have HB0 : Hid (Below w.heap.size w w0) := by rw [hw0]; exact alloc_below _ _
  have HX0 : Hid (AvAt w0 w.heap.size x a c b d) := by rw [hw0]; exact avAt_new w hx
  have HW0 : Hid _ := hw0
  have HLw : Hid _ := hL
  have HMw : Hid _ := hm
  have HXw : Hid _ := hx
  have H1 : Hid _ := h1
  have H2 : Hid _ := h2
  have HBg : Hid _ := begins_any w0 (hm.below HB0.out).m (hm.below HB0.out).g
  clear hw0 hL hm hx h1 h2
  simp only [avA] at HW0 ⊢
  go_enter Try.func6, Try.ntmps6
  go_wp2_with fail
  rw [← HW0.out]
  refine Calls.mono HBg.out ?_
  rintro e w1 ⟨rfl, hb1⟩
  have HX1 : Hid (AvAt w1 w.heap.size x a c b d) := HX0.out.under hb1
  have HB1 : Hid (Below w.heap.size w w1) := HB0.out.trans (hb1.mono HB0.out.size)
  clear hb1 HBg HW0 HX0 HB0
  have C1 : Hid (Calls Try.prog 15 #[.agg (avA x a c b d)] w1 _) := print_any x a b c d w1 HX1.out.r
  simp only [avA] at C1
  obtain ⟨d00, d01, d02, d03, d04, d05, d06⟩ := HX1.out.cells
  go_wp2_with fail
  refine Calls.mono C1.out ?_
  rintro e w2 ⟨v1, rfl, p1, b2⟩
  have HP1 : Hid _ := p1
  have HX2 : Hid (AvAt w2 w.heap.size x a c b d) := HX1.out.under b2
  have HB2 : Hid (Below w.heap.size w w2) := HB1.out.trans (b2.mono HB1.out.size)
  clear p1 b2 C1 d00 d01 d02 d03 d04 d05 d06 HX1 HB1
  have hPe : -9223372036854775808 ≤ Ar.printE x ∧ Ar.printE x ≤ 9223372036854775807 := by
    unfold Ar.printE; split
    · decide
    · split <;> decide
  go_upto_if 22 with fail
  go_cut [] (fun wx => Hid (Below w.heap.size w wx))
  case first =>
    by_cases he : Ar.printE x = 0
    · obtain ⟨am, cm, rfl, hrd⟩ := PrIs.rdy HP1.out he H1.out H2.out
      have HR : Hid _ := hrd.read (HMw.out.below HB2.out)
      have HRP : Hid _ := Ar.read_print he
      have HRB : Hid _ := Ar.printE_right he
      rw [he] at *
      go_wp2_with fail
      refine Calls.mono HR.out ?_
      rintro e w3 ⟨ya, yc, yb, yd, rfl, hc3, hb3⟩
      rw [show (Ar.readF (Ar.printL x)).1 = x by rw [HRP.out], show (Ar.readF (Ar.printL x)).2.1 = 0 by rw [HRP.out], show (Ar.readF (Ar.printL x)).2.2 = 0 by rw [HRP.out]]
      rw [HRP.out] at hc3
      have HX3 : Hid (AvAt w3 w.heap.size x a c b d) := HX2.out.under hb3
      have HY3 : Hid (AvR w3 x ya yc yb yd) := Cop.reads (x := x) hc3 HX2.out.r
      have HB3 : Hid (Below w.heap.size w w3) := HB2.out.trans (hb3.mono HB2.out.size)
      obtain ⟨w4, hw4⟩ : ∃ w4, w4 = w3.alloc (.cells (avA x ya yc yb yd) 28) := ⟨_, rfl⟩
      have HB4 : Hid (Below w3.heap.size w3 w4) := by rw [hw4]; exact alloc_below _ _
      have HY4 : Hid (AvAt w4 w3.heap.size x ya yc yb yd) := by rw [hw4]; exact avAt_new w3 HY3.out
      have HX4 : Hid (AvAt w4 w.heap.size x a c b d) := HX3.out.under HB4.out
      have HW4 : Hid _ := hw4
      have HS : Hid (∀ V, Below w4.heap.size w4 V → Calls Try.prog 12 #[.agg (avA x a c b d), .agg (avA x ya yc yb yd)] V fun e w' => e = .returned (.bool true) ∧ Below w4.heap.size w4 w') := fun V hV => (rsame_any x x a b ya yb c d yc yd V (HX4.out.r.below hV) (HY4.out.r.below hV)).mono fun e w' h => ⟨by rw [h.1, Ar.sameA_refl x], below_tr hV (h.2.mono hV.size)⟩
      have HT : Hid (∀ V, Below w4.heap.size w4 V → Calls Try.prog 17 #[.agg (avA x a c b d)] V fun e w' => e = .returned (.bool true) ∧ Below w4.heap.size w4 w') := fun V hV => (right_any x a b c d V (by have := HX4.out.r.sf; unfold maxLen; omega) HX4.out.r.sc.len).mono fun e w' h => ⟨by rw [h.1, HRB.out], below_tr hV (h.2.mono hV.size)⟩
      clear hw4 hc3 hb3 HR
      simp only [avA] at HW4 HS HT ⊢
      go_upto_region 6 with fail
      rw [← HW4.out]
      obtain ⟨d00, d01, d02, d03, d04, d05, d06⟩ := HX4.out.cells
      obtain ⟨f00, f01, f02, f03, f04, f05, f06⟩ := HY4.out.cells
      go_wp2_with fail
      refine Calls.mono (HS.out _ (Below.refl _ _)) ?_
      rintro e w5 ⟨rfl, hb5⟩
      clear d00 d01 d02 d03 d04 d05 d06 f00 f01 f02 f03 f04 f05 f06
      have HB5 : Hid _ := hb5
      obtain ⟨d00, d01, d02, d03, d04, d05, d06⟩ := (HX4.out.under hb5).cells
      clear hb5
      go_wp2_with fail
      refine Calls.mono (HT.out _ HB5.out) ?_
      rintro e w6 ⟨rfl, hb6⟩
      have HB6 : Hid (Below w.heap.size w w6) := (HB3.out.trans (HB4.out.mono HB3.out.size)).trans (hb6.mono (Nat.le_trans HB3.out.size HB4.out.size))
      clear hb6
      go_wp2_with fail
      go_meet
      case rel => exact HB6
    · go_wp2_with fail
      go_meet
      case rel => exact HB2
  case rest =>
    have HBc : Hid _ := hcut.out
    clear hcut HX2 HP1 hPe HB2 HXw H1 H2
    rename World => wc
    have HR : Hid _ := (HLw.out.below HBc.out).read (HMw.out.below HBc.out)
    have HO : Hid _ := Ar.read_ok L 1048576 HLw.out.sz
    go_wp2_with fail
    refine Calls.mono HR.out ?_
    rintro e w3 ⟨ya, yc, yb, yd, rfl, hc3, hb3⟩
    have HB3 : Hid (Below w.heap.size w w3) := HBc.out.trans (hb3.mono HBc.out.size)
    have HC3 : Hid _ := hc3
    have HM3 : Hid (MaxG w3) := HMw.out.below HB3.out
    clear hc3 hb3 HR HLw HMw HBc
    generalize Ar.readF L = rr at *
    obtain ⟨y, er, at'⟩ := rr
    rcases HO.out with ⟨rfl, rfl, hr, hs1, hs2, hl1, hl2, hl3⟩ | ⟨her, rfl, hat⟩
    · have hsf := Ar.right_sf hr
      dsimp only at *
      have HY3 : Hid (AvR w3 y ya yc yb yd) := Cop.avR HC3.out (by omega) (fun p hp => Nat.le_trans (hs1 p hp) (by omega)) (by omega) (fun s hs => Nat.le_trans (hs2 s hs) (by omega)) (by omega)
      have HS1 : Hid _ := hs1
      have HS2 : Hid _ := hs2
      have HRT : Hid _ := hr
      obtain ⟨w4, hw4⟩ : ∃ w4, w4 = w3.alloc (.cells (avA y ya yc yb yd) 28) := ⟨_, rfl⟩
      have HB4 : Hid (Below w3.heap.size w3 w4) := by rw [hw4]; exact alloc_below _ _
      have HY4 : Hid (AvAt w4 w3.heap.size y ya yc yb yd) := by rw [hw4]; exact avAt_new w3 HY3.out
      have HW4 : Hid _ := hw4
      have HT : Hid (Calls Try.prog 17 #[.agg (avA y ya yc yb yd)] w4 fun e w' => e = .returned (.bool true) ∧ Below w4.heap.size w4 w') := (right_any y ya yb yc yd w4 (by have := HY4.out.r.sf; unfold maxLen; omega) HY4.out.r.sc.len).mono fun e w' h => ⟨by rw [h.1, HRT.out], h.2⟩
      clear hw4 hs1 hs2 hr hsf hl1 hl2 hl3 HO HC3
      simp only [avA] at HW4 HT ⊢
      go_upto_region 11 with fail
      rw [← HW4.out]
      obtain ⟨f00, f01, f02, f03, f04, f05, f06⟩ := HY4.out.cells
      go_wp2_with fail
      refine Calls.mono HT.out ?_
      rintro e w5 ⟨rfl, hb5⟩
      have HB5 : Hid (Below w.heap.size w w5) := (HB3.out.trans (HB4.out.mono HB3.out.size)).trans (hb5.mono (Nat.le_trans HB3.out.size HB4.out.size))
      have HY5 : Hid (AvAt w5 w3.heap.size y ya yc yb yd) := HY4.out.under hb5
      have HM5 : Hid (MaxG w5) := (HM3.out.below HB4.out).below hb5
      clear f00 f01 f02 f03 f04 f05 f06 hb5 HT HW4 HY4 HB4 HB3 HM3 HY3
      obtain ⟨f00, f01, f02, f03, f04, f05, f06⟩ := HY5.out.cells
      have C1 : Hid (Calls Try.prog 15 #[.agg (avA y ya yc yb yd)] w5 _) := print_any y ya yb yc yd w5 HY5.out.r
      simp only [avA] at C1
      go_wp2_with fail
      refine Calls.mono C1.out ?_
      rintro e w6 ⟨v1, rfl, p1, b6⟩
      have HP1 : Hid _ := p1
      have HY6 : Hid (AvAt w6 w3.heap.size y ya yc yb yd) := HY5.out.under b6
      have HB6 : Hid (Below w.heap.size w w6) := HB5.out.trans (b6.mono HB5.out.size)
      have HM6 : Hid (MaxG w6) := HM5.out.below b6
      clear p1 b6 C1 f00 f01 f02 f03 f04 f05 f06 HY5 HB5 HM5
      by_cases he : Ar.printE y = 0
      · obtain ⟨am, cm, rfl, hrd⟩ := PrIs.rdy HP1.out he HS1.out HS2.out
        have HR : Hid _ := hrd.read HM6.out
        have HRP : Hid _ := Ar.read_print he
        rw [he] at *
        clear hrd he
        go_wp2_with fail
        refine Calls.mono HR.out ?_
        rintro e w7 ⟨za, zc, zb, zd, rfl, hc7, hb7⟩
        rw [show (Ar.readF (Ar.printL y)).1 = y by rw [HRP.out], show (Ar.readF (Ar.printL y)).2.1 = 0 by rw [HRP.out], show (Ar.readF (Ar.printL y)).2.2 = 0 by rw [HRP.out]]
        rw [HRP.out] at hc7
        have HY7 : Hid (AvAt w7 w3.heap.size y ya yc yb yd) := HY6.out.under hb7
        have HZ7 : Hid (AvR w7 y za zc zb zd) := Cop.reads (x := y) hc7 HY6.out.r
        have HB7 : Hid (Below w.heap.size w w7) := HB6.out.trans (hb7.mono HB6.out.size)
        obtain ⟨w8, hw8⟩ : ∃ w8, w8 = w7.alloc (.cells (avA y za zc zb zd) 28) := ⟨_, rfl⟩
        have HB8 : Hid (Below w7.heap.size w7 w8) := by rw [hw8]; exact alloc_below _ _
        have HZ8 : Hid (AvAt w8 w7.heap.size y za zc zb zd) := by rw [hw8]; exact avAt_new w7 HZ7.out
        have HY8 : Hid (AvAt w8 w3.heap.size y ya yc yb yd) := HY7.out.under HB8.out
        have HW8 : Hid _ := hw8
        have HS : Hid (Calls Try.prog 12 #[.agg (avA y ya yc yb yd), .agg (avA y za zc zb zd)] w8 fun e w' => e = .returned (.bool true) ∧ Below w8.heap.size w8 w') := (rsame_any y y ya yb za zb yc yd zc zd w8 HY8.out.r HZ8.out.r).mono fun e w' h => ⟨by rw [h.1, Ar.sameA_refl y], h.2⟩
        clear hw8 hc7 hb7 HR
        simp only [avA] at HW8 HS ⊢
        go_upto_region 17 with fail
        rw [← HW8.out]
        obtain ⟨d00, d01, d02, d03, d04, d05, d06⟩ := HY8.out.cells
        obtain ⟨f00, f01, f02, f03, f04, f05, f06⟩ := HZ8.out.cells
        go_wp2_with fail
        refine Calls.mono HS.out ?_
        rintro e w9 ⟨rfl, hb9⟩
        have HB9 : Hid (Below w.heap.size w w9) := (HB7.out.trans (HB8.out.mono HB7.out.size)).trans (hb9.mono (Nat.le_trans HB7.out.size HB8.out.size))
        clear hb9
        go_wp2_with fail
        go_ret
        exact ⟨rfl, HB9.out⟩
      · have he3 : Ar.printE y = 3 := by
          have hr := HRT.out
          unfold Ar.printE at he ⊢
          rw [if_neg (by rw [hr]; decide)] at he ⊢
          split
          · rfl
          · rename_i hn
            rw [if_neg hn] at he
            exact absurd rfl he
        rw [he3] at *
        go_wp2_with fail
        go_ret
        exact ⟨rfl, HB6.out⟩
    · dsimp only at *
      have HC : Hid (AvR w3 Ar.av0' ya yc yb yd) := Cop.avR HC3.out (by decide) (fun p hp => (nomatch hp)) (by decide) (fun s hs => (nomatch hs)) (by decide)
      have hA : avA Ar.av0' ya yc yb yd = #[.bool false, .bool false, .bool false, .bool false, .string ⟨#[]⟩, .slice ya 0 yc, .slice yb 0 yd] := rfl
      obtain ⟨w4, hw4⟩ : ∃ w4, w4 = w3.alloc (.cells #[.bool false, .bool false, .bool false, .bool false, .string ⟨#[]⟩, .slice ya 0 yc, .slice yb 0 yd] 28) := ⟨_, rfl⟩
      have HB4 : Hid (Below w3.heap.size w3 w4) := by rw [hw4]; exact alloc_below _ _
      have HY4 : Hid (AvAt w4 w3.heap.size Ar.av0' ya yc yb yd) := by rw [hw4]; exact avAt_new w3 HC.out
      have HW4 : Hid _ := hw4
      have HS : Hid (Calls Try.prog 12 #[.agg #[.bool false, .bool false, .bool false, .bool false, .string ⟨#[]⟩, .slice ya 0 yc, .slice yb 0 yd], .agg #[.bool false, .bool false, .bool false, .bool false, .string ⟨#[]⟩, .slice none 0 0, .slice none 0 0]] w4 fun e w' => e = .returned (.bool true) ∧ Below w4.heap.size w4 w') := (rsame_any Ar.av0' Ar.av0' ya yb none none yc yd 0 0 w4 HY4.out.r ⟨⟨by simp [Ar.av0'], fun _ => rfl, by simp [Ar.av0'], by simp, by simp [Ar.av0'], fun i hi => absurd hi (by simp [Ar.av0'])⟩, Strs.empty _, by decide⟩).mono fun e w' h => ⟨by rw [h.1, Ar.sameA_refl], h.2⟩
      have hy4 := HY4.out.cells
      obtain ⟨f00, f01, f02, f03, f04, f05, f06⟩ := hy4
      rw [hA]
      have hat2 : (at' : Int) ≤ (L.length : Int) := by omega
      have HBE : Hid (∀ V, Below w4.heap.size w4 V → Below w.heap.size w V) := fun V hV => (HB3.out.trans (HB4.out.mono HB3.out.size)).trans (hV.mono (Nat.le_trans HB3.out.size HB4.out.size))
      clear hw4 hA HO HC3 HC hat
      rcases her with rfl | rfl
      all_goals
        go_upto_region 10 with fail
        rw [← HW4.out]
        go_wp2_with fail
        refine Calls.mono HS.out ?_
        rintro e w5 ⟨rfl, hb5⟩
        have HB5 : Hid _ := HBE.out _ hb5
        clear hb5
        go_wp2_with fail
        go_ret
        exact ⟨by simp, HB5.out⟩
end Go.Proofs.Ytfkdnojoammlcaa
