/- The law ArgsValues: a value stands right behind its letter, in the next argument, or behind a long name: the same. -/
import Derived.Test.YtklcfjakhabbgaaArGt
import Derived.Test.YtklcfjakhabbgaaArAs
import Derived.Test.YtklcfjakhabbgaaArVlP
namespace Go.Proofs.Ytklcfjakhabbgaa
open Go.RowKit

theorem below_made {W V : World} {o : Obj} (hg : (W.alloc o).grownBy V (some W.heap.size)) : Below W.heap.size W V :=
  ⟨hg.os, hg.tape, hg.output, Nat.le_trans (by simp) hg.size, fun k h => (hg.block k (by simp; omega) (fun e => by have := Option.some.inj e; omega)).trans (heap_alloc_old W o h)⟩
/-- What is read of a list that append made. -/
theorem made_row {w W V : World} {o : Obj} {v : Value} {X : List ByteArray} (hm : MaxG w) (hB : Below w.heap.size w W) (hg : (W.alloc o).grownBy V (some W.heap.size)) (ho : V.ownsRow W.heap.size 9 1 v X.length (X.map Value.string)) (hX : X.length ≤ 65536) (hz : ∀ s ∈ X, s.size ≤ 2097152) :
    Below w.heap.size w V ∧ Below W.heap.size W V ∧ ∃ a c, v = .slice a X.length c ∧ Calls Try.prog 10 #[.slice a X.length c] V (ReadIs X V) := by
  have hV := hB.trans ((below_made hg).mono hB.size)
  exact ⟨hV, below_made hg, read_row (hm.below hV) ho (by omega) hz⟩
theorem read_to {L : List ByteArray} {T : Ar.Av × Int × Nat} {n : Nat} {w : World} {a b : Option Addr} {c d : Nat} (hz : ∀ s ∈ L, s.size ≤ 2097152) (e : (Ar.readF L).1 = T.1) (h : Cop n (Ar.readF L).1 a c b d w) : Cop n T.1 a c b d w ∧ AvR w T.1 a c b d := by
  have h2 := Cop.read_to (by decide) hz h
  rw [e] at h h2
  exact ⟨h, h2⟩

set_option maxRecDepth 100000 in
set_option maxHeartbeats 8000000 in
theorem law_values (v : ByteArray) (f : Bool) (R : List ByteArray) (ra : Option Addr) (rc : Nat) (w : World) (hv : v.size ≤ 1048576) (hR : Rdy w ra rc R) (hm : MaxG w) (hRl : R.length ≤ 1048576) :
    Calls Try.prog 6 #[.string v, .bool f, .slice ra R.length rc] w fun e w' => e = .returned (.bool true) ∧ Below w.heap.size w w' := by
  have HBg : Hid _ := begins_any w hm.m hm.g
  have HRw : Hid _ := hR
  have HMw : Hid _ := hm
  clear hR hm
  have hw9 : IntKind.i64.wrap ((R.length : Int) + 2) = (R.length : Int) + 2 := by rw [IntKind.wrap_i64]; omega
  by_cases hbig : 65536 < R.length + 2
  · have hd : (65536 : Int) < (R.length : Int) + 2 := by omega
    go_enter Try.func6, Try.ntmps6
    go_wp2_with fail
    refine Calls.mono HBg.out ?_
    rintro e w1 ⟨rfl, hb1⟩
    have HB1 : Hid _ := hb1
    clear hb1
    go_wp2_with fail
    go_ret
    exact ⟨rfl, HB1.out⟩
  have hd : decide ((65536 : Int) < (R.length : Int) + 2) = false := decide_eq_false (by omega)
  have hRb : 2 + R.length ≤ 65536 := by omega
  have HRb : Hid _ := hRb
  have HVL : Hid _ := Ar.read_vl (f := f) (v := v) hRb
  obtain ⟨T, hT⟩ : ∃ T, T = Ar.rdB R (Ar.vX f v) 0 := ⟨_, rfl⟩
  have HA1 : Hid _ := Ar.rdB_at R (Ar.vX f v) 1
  have HA2 : Hid _ := Ar.rdB_at R (Ar.vX f v) 2
  rw [← hT] at HA1 HA2
  have HE : Hid (T.2.1 = 0 ∨ T.2.1 = 260) := by rw [hT]; exact Ar.rdB_err _ _ _
  have HTa : Hid (T.2.2 ≤ 1099511627776) := by rw [hT]; exact Nat.le_trans (Ar.rdB_le R _) (by omega)
  clear hT hbig hRb
  cases f
  · have zLT : (⟨#[45, 101]⟩ : ByteArray).size = 2 := rfl
    have zNM : (⟨#[45, 45, 101, 120, 112, 114, 101, 115, 115, 105, 111, 110, 61]⟩ : ByteArray).size ≤ 13 := by decide
    have HP1 : Hid ((Ar.readF ((⟨#[45, 101]⟩ : ByteArray) :: v :: R)).1 = T.1 ∧ (Ar.readF ((⟨#[45, 101]⟩ : ByteArray) :: v :: R)).2.1 = T.2.1 ∧ (T.2.1 ≠ 0 → (Ar.readF ((⟨#[45, 101]⟩ : ByteArray) :: v :: R)).2.2 = 2 + T.2.2)) := by
      have e : Ar.readF ((⟨#[45, 101]⟩ : ByteArray) :: v :: R) = Ar.rdB R (Ar.vX false v) 2 := HVL.out.1
      rw [e]
      exact ⟨HA2.out.1, HA2.out.2.1, fun h => HA2.out.2.2.2 (by rw [HA2.out.2.1]; exact h)⟩
    have HP2 : Hid ((Ar.readF (((⟨#[45, 45, 101, 120, 112, 114, 101, 115, 115, 105, 111, 110, 61]⟩ : ByteArray) ++ v) :: R)).1 = T.1 ∧ (Ar.readF (((⟨#[45, 45, 101, 120, 112, 114, 101, 115, 115, 105, 111, 110, 61]⟩ : ByteArray) ++ v) :: R)).2.1 = T.2.1 ∧ (T.2.1 ≠ 0 → (Ar.readF (((⟨#[45, 45, 101, 120, 112, 114, 101, 115, 115, 105, 111, 110, 61]⟩ : ByteArray) ++ v) :: R)).2.2 = 1 + T.2.2)) := by
      have e : Ar.readF (((⟨#[45, 45, 101, 120, 112, 114, 101, 115, 115, 105, 111, 110, 61]⟩ : ByteArray) ++ v) :: R) = Ar.rdB R (Ar.vX false v) 1 := HVL.out.2.1
      rw [e]
      exact ⟨HA1.out.1, HA1.out.2.1, fun h => HA1.out.2.2.2 (by rw [HA1.out.2.1]; exact h)⟩
    have HP3 : Hid (v.data.toList ≠ [] → (Ar.readF (((⟨#[45, 101]⟩ : ByteArray) ++ v) :: R)).1 = T.1 ∧ (Ar.readF (((⟨#[45, 101]⟩ : ByteArray) ++ v) :: R)).2.1 = T.2.1 ∧ (T.2.1 ≠ 0 → (Ar.readF (((⟨#[45, 101]⟩ : ByteArray) ++ v) :: R)).2.2 = 1 + T.2.2)) := fun hv => by
      have e : Ar.readF (((⟨#[45, 101]⟩ : ByteArray) ++ v) :: R) = Ar.rdB R (Ar.vX false v) 1 := HVL.out.2.2 hv
      rw [e]
      exact ⟨HA1.out.1, HA1.out.2.1, fun h => HA1.out.2.2.2 (by rw [HA1.out.2.1]; exact h)⟩
    have HZ1 : Hid (∀ s ∈ (⟨#[45, 101]⟩ : ByteArray) :: v :: R, s.size ≤ 2097152) := fun s hs => by
      rcases List.mem_cons.1 hs with rfl | hs
      · omega
      rcases List.mem_cons.1 hs with rfl | hs
      · omega
      exact Nat.le_trans (HRw.out.sz s hs) (by decide)
    have HZ2 : Hid (∀ s ∈ ((⟨#[45, 45, 101, 120, 112, 114, 101, 115, 115, 105, 111, 110, 61]⟩ : ByteArray) ++ v) :: R, s.size ≤ 2097152) := fun s hs => by
      rcases List.mem_cons.1 hs with rfl | hs
      · rw [ByteArray.size_append]; omega
      exact Nat.le_trans (HRw.out.sz s hs) (by decide)
    have HZ3 : Hid (∀ s ∈ ((⟨#[45, 101]⟩ : ByteArray) ++ v) :: R, s.size ≤ 2097152) := fun s hs => by
      rcases List.mem_cons.1 hs with rfl | hs
      · rw [ByteArray.size_append]; omega
      exact Nat.le_trans (HRw.out.sz s hs) (by decide)
    clear HVL HA1 HA2 zLT zNM
    go_enter Try.func6, Try.ntmps6
    go_wp2_with fail
    refine Calls.mono HBg.out ?_
    rintro e w1 ⟨rfl, hb1⟩
    have HB1 : Hid (Below w.heap.size w w1) := hb1
    have HRow1 : Hid _ := row_lit w1 [(⟨#[45, 101]⟩ : ByteArray), v] (by simp)
    have HR1 : Hid (∀ o, Strs (w1.alloc o) ra rc R) := fun o => ((HRw.out.below HB1.out).below (alloc_below w1 o)).st
    clear hb1 HBg
    go_upto_region 10 with fail
    go_wp2_with (at_builtin; refine wpList_append_strs _ rfl _ _ rfl w1.heap.size _ [(⟨#[45, 101]⟩ : ByteArray), v] rfl HRow1.out ra rc R rfl (HR1.out _) (by have := HRb.out; show 2 + _ ≤ _; omega) (by simp) ?_)
    intro v2 w2 ho2 hg2
    obtain ⟨hb2, _, a2, c2, rfl, hr2⟩ := made_row (X := (⟨#[45, 101]⟩ : ByteArray) :: v :: R) HMw.out HB1.out hg2 ho2 (by have := HRb.out; show R.length + 1 + 1 ≤ _; omega) HZ1.out
    have HB2 : Hid _ := hb2
    have HR2 : Hid _ := hr2
    clear hb2 hr2 ho2 hg2 HRow1 HR1
    go_wp2_with fail
    refine Calls.mono HR2.out ?_
    rintro e w3 ⟨xa, xc, xb, xd, rfl, hc3, hb3⟩
    have HX3 : Hid _ := read_to HZ1.out HP1.out.1 hc3
    rw [HP1.out.1, HP1.out.2.1]
    have HQ1 : Hid _ := HP1.out.2.2
    generalize (Ar.readF ((⟨#[45, 101]⟩ : ByteArray) :: v :: R)).2.2 = A1 at *
    have HB3 : Hid (Below w.heap.size w w3) := HB2.out.trans (hb3.mono HB2.out.size)
    obtain ⟨w4, hw4⟩ : ∃ w4, w4 = w3.alloc (.cells (avA T.1 xa xc xb xd) 28) := ⟨_, rfl⟩
    have hb4 : Below w3.heap.size w3 w4 := by rw [hw4]; exact alloc_below _ _
    have HG4 : Hid (Got w2.heap.size w3.heap.size T.1 xa xc xb xd w4) := by rw [hw4]; exact got_new HX3.out.1 hb3.size
    have HB4 : Hid (Below w.heap.size w w4) := HB3.out.trans (hb4.mono HB3.out.size)
    have HRow4 : Hid _ := row_lit w4 [(⟨#[45, 45, 101, 120, 112, 114, 101, 115, 115, 105, 111, 110, 61]⟩ : ByteArray) ++ v] (by simp)
    have HR4 : Hid (∀ o, Strs (w4.alloc o) ra rc R) := fun o => ((HRw.out.below HB4.out).below (alloc_below w4 o)).st
    have HW4 : Hid _ := hw4
    clear hc3 hb3 hb4 hw4 HR2 HP1 HB1 HB2 HB3
    simp only [avA] at HW4 ⊢
    go_upto_region 11 with fail
    rw [← HW4.out]
    go_wp2_with (at_builtin; refine wpList_append_strs _ rfl _ _ rfl w4.heap.size _ [(⟨#[45, 45, 101, 120, 112, 114, 101, 115, 115, 105, 111, 110, 61]⟩ : ByteArray) ++ v] rfl HRow4.out ra rc R rfl (HR4.out _) (by have := HRb.out; show 1 + _ ≤ _; omega) (by simp) ?_)
    intro v5 w5 ho5 hg5
    obtain ⟨hb5, hbx5, a5, c5, rfl, hr5⟩ := made_row (X := ((⟨#[45, 45, 101, 120, 112, 114, 101, 115, 115, 105, 111, 110, 61]⟩ : ByteArray) ++ v) :: R) HMw.out HB4.out hg5 ho5 (by have := HRb.out; show R.length + 1 ≤ _; omega) HZ2.out
    have HB5 : Hid _ := hb5
    have HR5 : Hid _ := hr5
    have HG5 : Hid _ := HG4.out.below hbx5
    clear hb5 hr5 ho5 hg5 hbx5 HRow4 HR4 HG4
    go_wp2_with fail
    refine Calls.mono HR5.out ?_
    rintro e w6 ⟨za, zc, zb, zd, rfl, hc6, hb6⟩
    have HX6 : Hid _ := read_to HZ2.out HP2.out.1 hc6
    rw [HP2.out.1, HP2.out.2.1]
    have HQ2 : Hid _ := HP2.out.2.2
    generalize (Ar.readF (((⟨#[45, 45, 101, 120, 112, 114, 101, 115, 115, 105, 111, 110, 61]⟩ : ByteArray) ++ v) :: R)).2.2 = A2 at *
    have HB6 : Hid (Below w.heap.size w w6) := HB5.out.trans (hb6.mono HB5.out.size)
    obtain ⟨w7, hw7⟩ : ∃ w7, w7 = w6.alloc (.cells (avA T.1 za zc zb zd) 28) := ⟨_, rfl⟩
    have hb7 : Below w6.heap.size w6 w7 := by rw [hw7]; exact alloc_below _ _
    have HZ7 : Hid (Got w5.heap.size w6.heap.size T.1 za zc zb zd w7) := by rw [hw7]; exact got_new HX6.out.1 hb6.size
    have HG7 : Hid _ := (HG5.out.below hb6).below hb7
    have HB7 : Hid (Below w.heap.size w w7) := HB6.out.trans (hb7.mono HB6.out.size)
    have HW7 : Hid _ := hw7
    have HAv : Hid (∀ (n g : Nat) (p q : Option Addr) (r s : Nat) (V : World), Got n g T.1 p r q s V → AvR V T.1 p r q s) := fun n g p q r s V h => h.cop.reads HX6.out.2
    clear hc6 hb6 hb7 hw7 HR5 HP2 HG5 HB4 HB5 HB6 HX6 HX3
    simp only [avA] at HW7 ⊢
    go_upto_region 12 with fail
    rw [← HW7.out]
    obtain ⟨Tx, Te, Ta⟩ := T
    dsimp only at *
    have hTa : Ta ≤ 1099511627776 := HTa.out
    have HS : Hid (∀ (n g n' g' : Nat) (p q p' q' : Option Addr) (r s r' s' : Nat) (V : World), Got n g Tx p r q s V → Got n' g' Tx p' r' q' s' V → Calls Try.prog 12 #[.agg (avA Tx p r q s), .agg (avA Tx p' r' q' s')] V fun e w' => e = .returned (.bool true) ∧ Below V.heap.size V w') := fun n g n' g' p q p' q' r s r' s' V h h' => (rsame_any Tx Tx p q p' q' r s r' s' V (HAv.out _ _ _ _ _ _ _ h) (HAv.out _ _ _ _ _ _ _ h')).mono fun e w' k => ⟨by rw [k.1, Ar.sameA_refl], k.2⟩
    simp only [avA] at HS
    obtain ⟨d00, d01, d02, d03, d04, d05, d06⟩ := HG7.out.cells
    obtain ⟨f00, f01, f02, f03, f04, f05, f06⟩ := HZ7.out.cells
    have HS7 : Hid _ := HS.out _ _ _ _ _ _ _ _ _ _ _ _ _ HG7.out HZ7.out
    rcases HE.out with rfl | rfl
    · clear HQ1 HQ2 HE
      go_wp2_with fail
      refine Calls.mono HS7.out ?_
      rintro e w8 ⟨rfl, hb8⟩
      have HB8 : Hid (Below w.heap.size w w8) := HB7.out.trans (hb8.mono HB7.out.size)
      have HG8 : Hid _ := HG7.out.below hb8
      clear d00 d01 d02 d03 d04 d05 d06 f00 f01 f02 f03 f04 f05 f06 hb8 HS7
      by_cases hve : v.data.toList = []
      · have hem : v.toList.isEmpty = true := by rw [Lib.toList_data, hve]; rfl
        clear hve
        go_wp2_with fail
        go_ret
        exact ⟨rfl, HB8.out⟩
      · have hem : v.toList.isEmpty = false := by
          rw [Lib.toList_data]
          cases hx : v.data.toList with
          | nil => exact absurd hx hve
          | cons _ _ => rfl
        have HP3' : Hid _ := HP3.out hve
        have HRow8 : Hid _ := row_lit w8 [(⟨#[45, 101]⟩ : ByteArray) ++ v] (by simp)
        have HR8 : Hid (∀ o, Strs (w8.alloc o) ra rc R) := fun o => ((HRw.out.below HB8.out).below (alloc_below w8 o)).st
        clear hve HP3
        go_wp2_with (at_builtin; refine wpList_append_strs _ rfl _ _ rfl w8.heap.size _ [(⟨#[45, 101]⟩ : ByteArray) ++ v] rfl HRow8.out ra rc R rfl (HR8.out _) (by have := HRb.out; show 1 + _ ≤ _; omega) (by simp) ?_)
        intro v9 w9 ho9 hg9
        obtain ⟨hb9, hbx9, a9, c9, rfl, hr9⟩ := made_row (X := ((⟨#[45, 101]⟩ : ByteArray) ++ v) :: R) HMw.out HB8.out hg9 ho9 (by have := HRb.out; show R.length + 1 ≤ _; omega) HZ3.out
        have HB9 : Hid _ := hb9
        have HR9 : Hid _ := hr9
        have HG9 : Hid _ := HG8.out.below hbx9
        clear hb9 hr9 ho9 hg9 hbx9 HRow8 HR8 HG8
        go_wp2_with fail
        refine Calls.mono HR9.out ?_
        rintro e w10 ⟨ya, yc, yb, yd, rfl, hc10, hb10⟩
        have HX10 : Hid _ := read_to (T := (Tx, (0 : Int), Ta)) HZ3.out HP3'.out.1 hc10
        rw [HP3'.out.1, HP3'.out.2.1]
        have HQ3 : Hid _ := HP3'.out.2.2
        generalize (Ar.readF (((⟨#[45, 101]⟩ : ByteArray) ++ v) :: R)).2.2 = A3 at *
        have HB10 : Hid (Below w.heap.size w w10) := HB9.out.trans (hb10.mono HB9.out.size)
        obtain ⟨w11, hw11⟩ : ∃ w11, w11 = w10.alloc (.cells (avA Tx ya yc yb yd) 28) := ⟨_, rfl⟩
        have hb11 : Below w10.heap.size w10 w11 := by rw [hw11]; exact alloc_below _ _
        have HY11 : Hid (Got w9.heap.size w10.heap.size Tx ya yc yb yd w11) := by rw [hw11]; exact got_new HX10.out.1 hb10.size
        have HG11 : Hid _ := (HG9.out.below hb10).below hb11
        have HB11 : Hid (Below w.heap.size w w11) := HB10.out.trans (hb11.mono HB10.out.size)
        have HW11 : Hid _ := hw11
        have HS11 : Hid _ := HS.out _ _ _ _ _ _ _ _ _ _ _ _ _ HG11.out HY11.out
        clear hc10 hb10 hb11 hw11 HR9 HG9
        simp only [avA] at HW11 ⊢
        go_upto_region 17 with fail
        rw [← HW11.out]
        obtain ⟨d00, d01, d02, d03, d04, d05, d06⟩ := HG11.out.cells
        obtain ⟨f00, f01, f02, f03, f04, f05, f06⟩ := HY11.out.cells
        clear HQ3 HP3'
        go_wp2_with fail
        refine Calls.mono HS11.out ?_
        rintro e w12 ⟨rfl, hb12⟩
        have HB12 : Hid (Below w.heap.size w w12) := HB11.out.trans (hb12.mono HB11.out.size)
        clear hb12
        go_wp2_with fail
        go_ret
        exact ⟨by simp, HB12.out⟩
    · obtain rfl := HQ1.out (by decide)
      obtain rfl := HQ2.out (by decide)
      have w1' : IntKind.i64.wrap (((1 + Ta : Nat) : Int) + 1) = ((1 + Ta : Nat) : Int) + 1 := by rw [IntKind.wrap_i64]; omega
      have e1 : (((2 + Ta : Nat) : Int) == ((1 + Ta : Nat) : Int) + 1) = true := by rw [beq_iff_eq]; omega
      have e2 : ((2 + Ta : Nat) : Int) = ((1 + Ta : Nat) : Int) + 1 := by omega
      clear HQ1 HQ2 HE
      go_wp2_with fail
      refine Calls.mono HS7.out ?_
      rintro e w8 ⟨rfl, hb8⟩
      have HB8 : Hid (Below w.heap.size w w8) := HB7.out.trans (hb8.mono HB7.out.size)
      have HG8 : Hid _ := HG7.out.below hb8
      clear d00 d01 d02 d03 d04 d05 d06 f00 f01 f02 f03 f04 f05 f06 hb8 HS7
      by_cases hve : v.data.toList = []
      · have hem : v.toList.isEmpty = true := by rw [Lib.toList_data, hve]; rfl
        clear hve
        go_wp2_with fail
        go_ret
        exact ⟨rfl, HB8.out⟩
      · have hem : v.toList.isEmpty = false := by
          rw [Lib.toList_data]
          cases hx : v.data.toList with
          | nil => exact absurd hx hve
          | cons _ _ => rfl
        have HP3' : Hid _ := HP3.out hve
        have HRow8 : Hid _ := row_lit w8 [(⟨#[45, 101]⟩ : ByteArray) ++ v] (by simp)
        have HR8 : Hid (∀ o, Strs (w8.alloc o) ra rc R) := fun o => ((HRw.out.below HB8.out).below (alloc_below w8 o)).st
        clear hve HP3
        go_wp2_with (at_builtin; refine wpList_append_strs _ rfl _ _ rfl w8.heap.size _ [(⟨#[45, 101]⟩ : ByteArray) ++ v] rfl HRow8.out ra rc R rfl (HR8.out _) (by have := HRb.out; show 1 + _ ≤ _; omega) (by simp) ?_)
        intro v9 w9 ho9 hg9
        obtain ⟨hb9, hbx9, a9, c9, rfl, hr9⟩ := made_row (X := ((⟨#[45, 101]⟩ : ByteArray) ++ v) :: R) HMw.out HB8.out hg9 ho9 (by have := HRb.out; show R.length + 1 ≤ _; omega) HZ3.out
        have HB9 : Hid _ := hb9
        have HR9 : Hid _ := hr9
        have HG9 : Hid _ := HG8.out.below hbx9
        clear hb9 hr9 ho9 hg9 hbx9 HRow8 HR8 HG8
        go_wp2_with fail
        refine Calls.mono HR9.out ?_
        rintro e w10 ⟨ya, yc, yb, yd, rfl, hc10, hb10⟩
        have HX10 : Hid _ := read_to (T := (Tx, (260 : Int), Ta)) HZ3.out HP3'.out.1 hc10
        rw [HP3'.out.1, HP3'.out.2.1]
        have HQ3 : Hid _ := HP3'.out.2.2
        generalize (Ar.readF (((⟨#[45, 101]⟩ : ByteArray) ++ v) :: R)).2.2 = A3 at *
        have HB10 : Hid (Below w.heap.size w w10) := HB9.out.trans (hb10.mono HB9.out.size)
        obtain ⟨w11, hw11⟩ : ∃ w11, w11 = w10.alloc (.cells (avA Tx ya yc yb yd) 28) := ⟨_, rfl⟩
        have hb11 : Below w10.heap.size w10 w11 := by rw [hw11]; exact alloc_below _ _
        have HY11 : Hid (Got w9.heap.size w10.heap.size Tx ya yc yb yd w11) := by rw [hw11]; exact got_new HX10.out.1 hb10.size
        have HG11 : Hid _ := (HG9.out.below hb10).below hb11
        have HB11 : Hid (Below w.heap.size w w11) := HB10.out.trans (hb11.mono HB10.out.size)
        have HW11 : Hid _ := hw11
        have HS11 : Hid _ := HS.out _ _ _ _ _ _ _ _ _ _ _ _ _ HG11.out HY11.out
        clear hc10 hb10 hb11 hw11 HR9 HG9
        simp only [avA] at HW11 ⊢
        go_upto_region 17 with fail
        rw [← HW11.out]
        obtain ⟨d00, d01, d02, d03, d04, d05, d06⟩ := HG11.out.cells
        obtain ⟨f00, f01, f02, f03, f04, f05, f06⟩ := HY11.out.cells
        obtain rfl := HQ3.out (by decide)
        clear HQ3 HP3'
        go_wp2_with fail
        refine Calls.mono HS11.out ?_
        rintro e w12 ⟨rfl, hb12⟩
        have HB12 : Hid (Below w.heap.size w w12) := HB11.out.trans (hb12.mono HB11.out.size)
        clear hb12
        go_wp2_with fail
        go_ret
        exact ⟨by simp, HB12.out⟩
  · have zLT : (⟨#[45, 102]⟩ : ByteArray).size = 2 := rfl
    have zNM : (⟨#[45, 45, 102, 105, 108, 101, 61]⟩ : ByteArray).size ≤ 13 := by decide
    have HP1 : Hid ((Ar.readF ((⟨#[45, 102]⟩ : ByteArray) :: v :: R)).1 = T.1 ∧ (Ar.readF ((⟨#[45, 102]⟩ : ByteArray) :: v :: R)).2.1 = T.2.1 ∧ (T.2.1 ≠ 0 → (Ar.readF ((⟨#[45, 102]⟩ : ByteArray) :: v :: R)).2.2 = 2 + T.2.2)) := by
      have e : Ar.readF ((⟨#[45, 102]⟩ : ByteArray) :: v :: R) = Ar.rdB R (Ar.vX true v) 2 := HVL.out.1
      rw [e]
      exact ⟨HA2.out.1, HA2.out.2.1, fun h => HA2.out.2.2.2 (by rw [HA2.out.2.1]; exact h)⟩
    have HP2 : Hid ((Ar.readF (((⟨#[45, 45, 102, 105, 108, 101, 61]⟩ : ByteArray) ++ v) :: R)).1 = T.1 ∧ (Ar.readF (((⟨#[45, 45, 102, 105, 108, 101, 61]⟩ : ByteArray) ++ v) :: R)).2.1 = T.2.1 ∧ (T.2.1 ≠ 0 → (Ar.readF (((⟨#[45, 45, 102, 105, 108, 101, 61]⟩ : ByteArray) ++ v) :: R)).2.2 = 1 + T.2.2)) := by
      have e : Ar.readF (((⟨#[45, 45, 102, 105, 108, 101, 61]⟩ : ByteArray) ++ v) :: R) = Ar.rdB R (Ar.vX true v) 1 := HVL.out.2.1
      rw [e]
      exact ⟨HA1.out.1, HA1.out.2.1, fun h => HA1.out.2.2.2 (by rw [HA1.out.2.1]; exact h)⟩
    have HP3 : Hid (v.data.toList ≠ [] → (Ar.readF (((⟨#[45, 102]⟩ : ByteArray) ++ v) :: R)).1 = T.1 ∧ (Ar.readF (((⟨#[45, 102]⟩ : ByteArray) ++ v) :: R)).2.1 = T.2.1 ∧ (T.2.1 ≠ 0 → (Ar.readF (((⟨#[45, 102]⟩ : ByteArray) ++ v) :: R)).2.2 = 1 + T.2.2)) := fun hv => by
      have e : Ar.readF (((⟨#[45, 102]⟩ : ByteArray) ++ v) :: R) = Ar.rdB R (Ar.vX true v) 1 := HVL.out.2.2 hv
      rw [e]
      exact ⟨HA1.out.1, HA1.out.2.1, fun h => HA1.out.2.2.2 (by rw [HA1.out.2.1]; exact h)⟩
    have HZ1 : Hid (∀ s ∈ (⟨#[45, 102]⟩ : ByteArray) :: v :: R, s.size ≤ 2097152) := fun s hs => by
      rcases List.mem_cons.1 hs with rfl | hs
      · omega
      rcases List.mem_cons.1 hs with rfl | hs
      · omega
      exact Nat.le_trans (HRw.out.sz s hs) (by decide)
    have HZ2 : Hid (∀ s ∈ ((⟨#[45, 45, 102, 105, 108, 101, 61]⟩ : ByteArray) ++ v) :: R, s.size ≤ 2097152) := fun s hs => by
      rcases List.mem_cons.1 hs with rfl | hs
      · rw [ByteArray.size_append]; omega
      exact Nat.le_trans (HRw.out.sz s hs) (by decide)
    have HZ3 : Hid (∀ s ∈ ((⟨#[45, 102]⟩ : ByteArray) ++ v) :: R, s.size ≤ 2097152) := fun s hs => by
      rcases List.mem_cons.1 hs with rfl | hs
      · rw [ByteArray.size_append]; omega
      exact Nat.le_trans (HRw.out.sz s hs) (by decide)
    clear HVL HA1 HA2 zLT zNM
    go_enter Try.func6, Try.ntmps6
    go_wp2_with fail
    refine Calls.mono HBg.out ?_
    rintro e w1 ⟨rfl, hb1⟩
    have HB1 : Hid (Below w.heap.size w w1) := hb1
    have HRow1 : Hid _ := row_lit w1 [(⟨#[45, 102]⟩ : ByteArray), v] (by simp)
    have HR1 : Hid (∀ o, Strs (w1.alloc o) ra rc R) := fun o => ((HRw.out.below HB1.out).below (alloc_below w1 o)).st
    clear hb1 HBg
    go_upto_region 10 with fail
    go_wp2_with (at_builtin; refine wpList_append_strs _ rfl _ _ rfl w1.heap.size _ [(⟨#[45, 102]⟩ : ByteArray), v] rfl HRow1.out ra rc R rfl (HR1.out _) (by have := HRb.out; show 2 + _ ≤ _; omega) (by simp) ?_)
    intro v2 w2 ho2 hg2
    obtain ⟨hb2, _, a2, c2, rfl, hr2⟩ := made_row (X := (⟨#[45, 102]⟩ : ByteArray) :: v :: R) HMw.out HB1.out hg2 ho2 (by have := HRb.out; show R.length + 1 + 1 ≤ _; omega) HZ1.out
    have HB2 : Hid _ := hb2
    have HR2 : Hid _ := hr2
    clear hb2 hr2 ho2 hg2 HRow1 HR1
    go_wp2_with fail
    refine Calls.mono HR2.out ?_
    rintro e w3 ⟨xa, xc, xb, xd, rfl, hc3, hb3⟩
    have HX3 : Hid _ := read_to HZ1.out HP1.out.1 hc3
    rw [HP1.out.1, HP1.out.2.1]
    have HQ1 : Hid _ := HP1.out.2.2
    generalize (Ar.readF ((⟨#[45, 102]⟩ : ByteArray) :: v :: R)).2.2 = A1 at *
    have HB3 : Hid (Below w.heap.size w w3) := HB2.out.trans (hb3.mono HB2.out.size)
    obtain ⟨w4, hw4⟩ : ∃ w4, w4 = w3.alloc (.cells (avA T.1 xa xc xb xd) 28) := ⟨_, rfl⟩
    have hb4 : Below w3.heap.size w3 w4 := by rw [hw4]; exact alloc_below _ _
    have HG4 : Hid (Got w2.heap.size w3.heap.size T.1 xa xc xb xd w4) := by rw [hw4]; exact got_new HX3.out.1 hb3.size
    have HB4 : Hid (Below w.heap.size w w4) := HB3.out.trans (hb4.mono HB3.out.size)
    have HRow4 : Hid _ := row_lit w4 [(⟨#[45, 45, 102, 105, 108, 101, 61]⟩ : ByteArray) ++ v] (by simp)
    have HR4 : Hid (∀ o, Strs (w4.alloc o) ra rc R) := fun o => ((HRw.out.below HB4.out).below (alloc_below w4 o)).st
    have HW4 : Hid _ := hw4
    clear hc3 hb3 hb4 hw4 HR2 HP1 HB1 HB2 HB3
    simp only [avA] at HW4 ⊢
    go_upto_region 11 with fail
    rw [← HW4.out]
    go_wp2_with (at_builtin; refine wpList_append_strs _ rfl _ _ rfl w4.heap.size _ [(⟨#[45, 45, 102, 105, 108, 101, 61]⟩ : ByteArray) ++ v] rfl HRow4.out ra rc R rfl (HR4.out _) (by have := HRb.out; show 1 + _ ≤ _; omega) (by simp) ?_)
    intro v5 w5 ho5 hg5
    obtain ⟨hb5, hbx5, a5, c5, rfl, hr5⟩ := made_row (X := ((⟨#[45, 45, 102, 105, 108, 101, 61]⟩ : ByteArray) ++ v) :: R) HMw.out HB4.out hg5 ho5 (by have := HRb.out; show R.length + 1 ≤ _; omega) HZ2.out
    have HB5 : Hid _ := hb5
    have HR5 : Hid _ := hr5
    have HG5 : Hid _ := HG4.out.below hbx5
    clear hb5 hr5 ho5 hg5 hbx5 HRow4 HR4 HG4
    go_wp2_with fail
    refine Calls.mono HR5.out ?_
    rintro e w6 ⟨za, zc, zb, zd, rfl, hc6, hb6⟩
    have HX6 : Hid _ := read_to HZ2.out HP2.out.1 hc6
    rw [HP2.out.1, HP2.out.2.1]
    have HQ2 : Hid _ := HP2.out.2.2
    generalize (Ar.readF (((⟨#[45, 45, 102, 105, 108, 101, 61]⟩ : ByteArray) ++ v) :: R)).2.2 = A2 at *
    have HB6 : Hid (Below w.heap.size w w6) := HB5.out.trans (hb6.mono HB5.out.size)
    obtain ⟨w7, hw7⟩ : ∃ w7, w7 = w6.alloc (.cells (avA T.1 za zc zb zd) 28) := ⟨_, rfl⟩
    have hb7 : Below w6.heap.size w6 w7 := by rw [hw7]; exact alloc_below _ _
    have HZ7 : Hid (Got w5.heap.size w6.heap.size T.1 za zc zb zd w7) := by rw [hw7]; exact got_new HX6.out.1 hb6.size
    have HG7 : Hid _ := (HG5.out.below hb6).below hb7
    have HB7 : Hid (Below w.heap.size w w7) := HB6.out.trans (hb7.mono HB6.out.size)
    have HW7 : Hid _ := hw7
    have HAv : Hid (∀ (n g : Nat) (p q : Option Addr) (r s : Nat) (V : World), Got n g T.1 p r q s V → AvR V T.1 p r q s) := fun n g p q r s V h => h.cop.reads HX6.out.2
    clear hc6 hb6 hb7 hw7 HR5 HP2 HG5 HB4 HB5 HB6 HX6 HX3
    simp only [avA] at HW7 ⊢
    go_upto_region 12 with fail
    rw [← HW7.out]
    obtain ⟨Tx, Te, Ta⟩ := T
    dsimp only at *
    have hTa : Ta ≤ 1099511627776 := HTa.out
    have HS : Hid (∀ (n g n' g' : Nat) (p q p' q' : Option Addr) (r s r' s' : Nat) (V : World), Got n g Tx p r q s V → Got n' g' Tx p' r' q' s' V → Calls Try.prog 12 #[.agg (avA Tx p r q s), .agg (avA Tx p' r' q' s')] V fun e w' => e = .returned (.bool true) ∧ Below V.heap.size V w') := fun n g n' g' p q p' q' r s r' s' V h h' => (rsame_any Tx Tx p q p' q' r s r' s' V (HAv.out _ _ _ _ _ _ _ h) (HAv.out _ _ _ _ _ _ _ h')).mono fun e w' k => ⟨by rw [k.1, Ar.sameA_refl], k.2⟩
    simp only [avA] at HS
    obtain ⟨d00, d01, d02, d03, d04, d05, d06⟩ := HG7.out.cells
    obtain ⟨f00, f01, f02, f03, f04, f05, f06⟩ := HZ7.out.cells
    have HS7 : Hid _ := HS.out _ _ _ _ _ _ _ _ _ _ _ _ _ HG7.out HZ7.out
    rcases HE.out with rfl | rfl
    · clear HQ1 HQ2 HE
      go_wp2_with fail
      refine Calls.mono HS7.out ?_
      rintro e w8 ⟨rfl, hb8⟩
      have HB8 : Hid (Below w.heap.size w w8) := HB7.out.trans (hb8.mono HB7.out.size)
      have HG8 : Hid _ := HG7.out.below hb8
      clear d00 d01 d02 d03 d04 d05 d06 f00 f01 f02 f03 f04 f05 f06 hb8 HS7
      by_cases hve : v.data.toList = []
      · have hem : v.toList.isEmpty = true := by rw [Lib.toList_data, hve]; rfl
        clear hve
        go_wp2_with fail
        go_ret
        exact ⟨rfl, HB8.out⟩
      · have hem : v.toList.isEmpty = false := by
          rw [Lib.toList_data]
          cases hx : v.data.toList with
          | nil => exact absurd hx hve
          | cons _ _ => rfl
        have HP3' : Hid _ := HP3.out hve
        have HRow8 : Hid _ := row_lit w8 [(⟨#[45, 102]⟩ : ByteArray) ++ v] (by simp)
        have HR8 : Hid (∀ o, Strs (w8.alloc o) ra rc R) := fun o => ((HRw.out.below HB8.out).below (alloc_below w8 o)).st
        clear hve HP3
        go_wp2_with (at_builtin; refine wpList_append_strs _ rfl _ _ rfl w8.heap.size _ [(⟨#[45, 102]⟩ : ByteArray) ++ v] rfl HRow8.out ra rc R rfl (HR8.out _) (by have := HRb.out; show 1 + _ ≤ _; omega) (by simp) ?_)
        intro v9 w9 ho9 hg9
        obtain ⟨hb9, hbx9, a9, c9, rfl, hr9⟩ := made_row (X := ((⟨#[45, 102]⟩ : ByteArray) ++ v) :: R) HMw.out HB8.out hg9 ho9 (by have := HRb.out; show R.length + 1 ≤ _; omega) HZ3.out
        have HB9 : Hid _ := hb9
        have HR9 : Hid _ := hr9
        have HG9 : Hid _ := HG8.out.below hbx9
        clear hb9 hr9 ho9 hg9 hbx9 HRow8 HR8 HG8
        go_wp2_with fail
        refine Calls.mono HR9.out ?_
        rintro e w10 ⟨ya, yc, yb, yd, rfl, hc10, hb10⟩
        have HX10 : Hid _ := read_to (T := (Tx, (0 : Int), Ta)) HZ3.out HP3'.out.1 hc10
        rw [HP3'.out.1, HP3'.out.2.1]
        have HQ3 : Hid _ := HP3'.out.2.2
        generalize (Ar.readF (((⟨#[45, 102]⟩ : ByteArray) ++ v) :: R)).2.2 = A3 at *
        have HB10 : Hid (Below w.heap.size w w10) := HB9.out.trans (hb10.mono HB9.out.size)
        obtain ⟨w11, hw11⟩ : ∃ w11, w11 = w10.alloc (.cells (avA Tx ya yc yb yd) 28) := ⟨_, rfl⟩
        have hb11 : Below w10.heap.size w10 w11 := by rw [hw11]; exact alloc_below _ _
        have HY11 : Hid (Got w9.heap.size w10.heap.size Tx ya yc yb yd w11) := by rw [hw11]; exact got_new HX10.out.1 hb10.size
        have HG11 : Hid _ := (HG9.out.below hb10).below hb11
        have HB11 : Hid (Below w.heap.size w w11) := HB10.out.trans (hb11.mono HB10.out.size)
        have HW11 : Hid _ := hw11
        have HS11 : Hid _ := HS.out _ _ _ _ _ _ _ _ _ _ _ _ _ HG11.out HY11.out
        clear hc10 hb10 hb11 hw11 HR9 HG9
        simp only [avA] at HW11 ⊢
        go_upto_region 17 with fail
        rw [← HW11.out]
        obtain ⟨d00, d01, d02, d03, d04, d05, d06⟩ := HG11.out.cells
        obtain ⟨f00, f01, f02, f03, f04, f05, f06⟩ := HY11.out.cells
        clear HQ3 HP3'
        go_wp2_with fail
        refine Calls.mono HS11.out ?_
        rintro e w12 ⟨rfl, hb12⟩
        have HB12 : Hid (Below w.heap.size w w12) := HB11.out.trans (hb12.mono HB11.out.size)
        clear hb12
        go_wp2_with fail
        go_ret
        exact ⟨by simp, HB12.out⟩
    · obtain rfl := HQ1.out (by decide)
      obtain rfl := HQ2.out (by decide)
      have w1' : IntKind.i64.wrap (((1 + Ta : Nat) : Int) + 1) = ((1 + Ta : Nat) : Int) + 1 := by rw [IntKind.wrap_i64]; omega
      have e1 : (((2 + Ta : Nat) : Int) == ((1 + Ta : Nat) : Int) + 1) = true := by rw [beq_iff_eq]; omega
      have e2 : ((2 + Ta : Nat) : Int) = ((1 + Ta : Nat) : Int) + 1 := by omega
      clear HQ1 HQ2 HE
      go_wp2_with fail
      refine Calls.mono HS7.out ?_
      rintro e w8 ⟨rfl, hb8⟩
      have HB8 : Hid (Below w.heap.size w w8) := HB7.out.trans (hb8.mono HB7.out.size)
      have HG8 : Hid _ := HG7.out.below hb8
      clear d00 d01 d02 d03 d04 d05 d06 f00 f01 f02 f03 f04 f05 f06 hb8 HS7
      by_cases hve : v.data.toList = []
      · have hem : v.toList.isEmpty = true := by rw [Lib.toList_data, hve]; rfl
        clear hve
        go_wp2_with fail
        go_ret
        exact ⟨rfl, HB8.out⟩
      · have hem : v.toList.isEmpty = false := by
          rw [Lib.toList_data]
          cases hx : v.data.toList with
          | nil => exact absurd hx hve
          | cons _ _ => rfl
        have HP3' : Hid _ := HP3.out hve
        have HRow8 : Hid _ := row_lit w8 [(⟨#[45, 102]⟩ : ByteArray) ++ v] (by simp)
        have HR8 : Hid (∀ o, Strs (w8.alloc o) ra rc R) := fun o => ((HRw.out.below HB8.out).below (alloc_below w8 o)).st
        clear hve HP3
        go_wp2_with (at_builtin; refine wpList_append_strs _ rfl _ _ rfl w8.heap.size _ [(⟨#[45, 102]⟩ : ByteArray) ++ v] rfl HRow8.out ra rc R rfl (HR8.out _) (by have := HRb.out; show 1 + _ ≤ _; omega) (by simp) ?_)
        intro v9 w9 ho9 hg9
        obtain ⟨hb9, hbx9, a9, c9, rfl, hr9⟩ := made_row (X := ((⟨#[45, 102]⟩ : ByteArray) ++ v) :: R) HMw.out HB8.out hg9 ho9 (by have := HRb.out; show R.length + 1 ≤ _; omega) HZ3.out
        have HB9 : Hid _ := hb9
        have HR9 : Hid _ := hr9
        have HG9 : Hid _ := HG8.out.below hbx9
        clear hb9 hr9 ho9 hg9 hbx9 HRow8 HR8 HG8
        go_wp2_with fail
        refine Calls.mono HR9.out ?_
        rintro e w10 ⟨ya, yc, yb, yd, rfl, hc10, hb10⟩
        have HX10 : Hid _ := read_to (T := (Tx, (260 : Int), Ta)) HZ3.out HP3'.out.1 hc10
        rw [HP3'.out.1, HP3'.out.2.1]
        have HQ3 : Hid _ := HP3'.out.2.2
        generalize (Ar.readF (((⟨#[45, 102]⟩ : ByteArray) ++ v) :: R)).2.2 = A3 at *
        have HB10 : Hid (Below w.heap.size w w10) := HB9.out.trans (hb10.mono HB9.out.size)
        obtain ⟨w11, hw11⟩ : ∃ w11, w11 = w10.alloc (.cells (avA Tx ya yc yb yd) 28) := ⟨_, rfl⟩
        have hb11 : Below w10.heap.size w10 w11 := by rw [hw11]; exact alloc_below _ _
        have HY11 : Hid (Got w9.heap.size w10.heap.size Tx ya yc yb yd w11) := by rw [hw11]; exact got_new HX10.out.1 hb10.size
        have HG11 : Hid _ := (HG9.out.below hb10).below hb11
        have HB11 : Hid (Below w.heap.size w w11) := HB10.out.trans (hb11.mono HB10.out.size)
        have HW11 : Hid _ := hw11
        have HS11 : Hid _ := HS.out _ _ _ _ _ _ _ _ _ _ _ _ _ HG11.out HY11.out
        clear hc10 hb10 hb11 hw11 HR9 HG9
        simp only [avA] at HW11 ⊢
        go_upto_region 17 with fail
        rw [← HW11.out]
        obtain ⟨d00, d01, d02, d03, d04, d05, d06⟩ := HG11.out.cells
        obtain ⟨f00, f01, f02, f03, f04, f05, f06⟩ := HY11.out.cells
        obtain rfl := HQ3.out (by decide)
        clear HQ3 HP3'
        go_wp2_with fail
        refine Calls.mono HS11.out ?_
        rintro e w12 ⟨rfl, hb12⟩
        have HB12 : Hid (Below w.heap.size w w12) := HB11.out.trans (hb12.mono HB11.out.size)
        clear hb12
        go_wp2_with fail
        go_ret
        exact ⟨by simp, HB12.out⟩
end Go.Proofs.Ytklcfjakhabbgaa
