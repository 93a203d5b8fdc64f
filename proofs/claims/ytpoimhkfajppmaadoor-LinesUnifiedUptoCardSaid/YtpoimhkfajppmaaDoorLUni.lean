/- What lines.Unified answers. -/
import Derived.Test.YtpoimhkfajppmaaDoorLDiff
import Derived.Test.YtpoimhkfajppmaaDoorLItoa
import Derived.Test.YtpoimhkfajppmaaDoorLWrite
import Derived.Test.YtpoimhkfajppmaaDoorLHunks
import Derived.Test.YtpoimhkfajppmaaDoorLSlice
import Derived.Test.YtpoimhkfajppmaaDoorLPlainV
namespace Go.Proofs.YtpoimhkfajppmaaDoor
open Go.RowKit

namespace Ln
def uniR (nm s t : ByteArray) (ar : Int) : List UInt8 × Nat :=
  if ar < 0 ∨ 4096 < ar then ([], 2) else if (diffR (splB s) (splB t)).2 ≠ 0 then ([], (diffR (splB s) (splB t)).2) else if (s.toList == t.toList) = true then ([], 0) else (uniB (quoP nm).data.toList (diffR (splB s) (splB t)).1 ar.toNat, 0)
end Ln

set_option maxRecDepth 100000 in
set_option maxHeartbeats 8000000 in
theorem uni_any (nm s t : ByteArray) (ar : Int) (w : World) (TT : Tabs2 w) (hnm : nm.size ≤ 1048576) (hs : s.size ≤ 1048576) (ht : t.size ≤ 1048576) :
    Calls Tryd.prog 12 #[.string nm, .string s, .string t, .int .i64 ar] w fun e w' => e = .returned (.tuple #[.string (Ln.bs (Ln.uniR nm s t ar).1), .int .i64 ((Ln.uniR nm s t ar).2 : Nat)]) ∧ Below w.heap.size w w' := by
  by_cases h0 : ar < 0 ∨ 4096 < ar
  · have HR : Hid (Ln.uniR nm s t ar = ([], 2)) := by show _ = _; unfold Ln.uniR; rw [if_pos h0]
    rcases h0 with h0 | h0
    · go_enter Tryd.func12, Tryd.ntmps12
      go_wp2_with fail
      go_ret2
      rw [HR.out]
      exact ⟨rfl, Below.refl _ _⟩
    · have h1 : ¬ ar < 0 := by omega
      go_enter Tryd.func12, Tryd.ntmps12
      go_wp2_with fail
      go_ret2
      rw [HR.out]
      exact ⟨rfl, Below.refl _ _⟩
  obtain ⟨A, rfl⟩ : ∃ A : Nat, ar = (A : Int) := ⟨ar.toNat, by omega⟩
  have hA : A ≤ 4096 := by omega
  have hA1 : ¬ (A : Int) < 0 := by omega
  have hA2 : ¬ 4096 < (A : Int) := by omega
  obtain ⟨D, dc, hD⟩ : ∃ D dc, Ln.diffR (Ln.splB s) (Ln.splB t) = (D, dc) := ⟨_, _, rfl⟩
  have HD : Hid (Ln.diffR (Ln.splB s) (Ln.splB t) = (D, dc)) := hD
  have hdc : dc = 0 ∨ dc = 3 := by
    unfold Ln.diffR at hD
    split at hD <;> cases hD <;> simp
  have HU : Hid (Ln.uniR nm s t (A : Int) = if dc ≠ 0 then ([], dc) else if (s.toList == t.toList) = true then ([], 0) else (Ln.uniB (Ln.quoP nm).data.toList D A, 0)) := by
    show _ = _
    unfold Ln.uniR
    rw [if_neg h0, hD]
    rfl
  clear hD h0
  go_enter Tryd.func12, Tryd.ntmps12
  go_wp2_with fail
  refine (diff_any s t _ (by omega) (by omega)).mono ?_
  rw [HD.out]
  rintro e w1 ⟨v1, rfl, od, hb⟩
  have TT1 := TT.below hb
  have hB1 : Below w.heap.size w w1 := hb
  clear hb
  rcases hdc with rfl | rfl
  · cases hq : (s.toList == t.toList)
    · have HU2 : Hid (Ln.uniR nm s t (A : Int) = (Ln.uniB (Ln.quoP nm).data.toList D A, 0)) := by show _ = _; rw [HU.out, if_neg (by simp), hq]; rfl
      clear HU
      obtain ⟨-, hDl, HDk, HDs, HDt, HDn⟩ := Ln.told_of HD.out hs ht
      have hDp : 0 < D.length := by
        rcases Nat.eq_zero_or_pos D.length with e | e
        · have := HDn (List.eq_nil_of_length_eq_zero e)
          subst this
          simp at hq
        · exact e
      have HDk : Hid (∀ x ∈ D, x.1 < 256) := HDk
      have HDs : Hid (∀ x ∈ D, x.2.1.size ≤ 67108864) := HDs
      have HDt : Hid (Ln.tot (D.map (·.2)) ≤ 4194304) := HDt
      have hqz := Ln.quoP_size nm
      clear HDn
      simp only at od
      obtain ⟨gd', cd, hvd, hgd1, hgd2⟩ := od.form (by omega)
      subst hvd
      go_wp2_with fail
      refine (quote_any nm _ TT1.tabs (by omega)).mono ?_
      rintro e w2 ⟨rfl, hb⟩
      have TT2 := TT1.below hb
      replace od := own_below od hb
      have hB2 := hB1.trans (hb.mono hB1.size)
      clear hb
      go_wp2_with fail
      refine (quote_any nm _ TT2.tabs (by omega)).mono ?_
      rintro e w3 ⟨rfl, hb⟩
      have TT3 := TT2.below hb
      replace od := own_below od hb
      have hB3 := hB2.trans (hb.mono hB2.size)
      clear hb TT1 TT2 hB1 hB2
      obtain ⟨HDR, hHDR⟩ : ∃ HDR, (⟨#[45, 45, 45, 32]⟩ : ByteArray) ++ Ln.quoP nm ++ ⟨#[10, 43, 43, 43, 32]⟩ ++ Ln.quoP nm ++ ⟨#[10]⟩ = HDR := ⟨_, rfl⟩
      have HH : Hid (HDR.data.toList = [45, 45, 45, 32] ++ (Ln.quoP nm).data.toList ++ [10, 43, 43, 43, 32] ++ (Ln.quoP nm).data.toList ++ [10]) := by show _ = _; rw [← hHDR]; simp
      have hHz : HDR.size ≤ 10000000 := by rw [← Ln.szL, HH.out]; simp only [List.length_append, Ln.szL, List.length_cons, List.length_nil]; omega
      obtain ⟨v4, w4, hcv, o4, hb4⟩ := conv_ownB w3 HDR w.heap.size hB3.size (by omega)
      have od4 := own_below od hb4
      have TT4 := TT3.below hb4
      have hB4 := hB3.trans (hb4.mono hB3.size)
      clear hb4 TT3 hB3 od
      obtain ⟨g4, cp4, rfl, _, hcp4, _⟩ := o4.slice
      have s4 := hB4.size
      obtain ⟨HP, hHP⟩ : ∃ HP, Ln.hunksP A D = HP := ⟨_, rfl⟩
      have HHP : Hid (Ln.hunksP A D = HP) := hHP
      obtain ⟨hr1, hr2⟩ := Ln.hunks_rise A D
      simp only [hHP] at hr1 hr2
      have HR1 : Hid (∀ k (h : k < HP.length), (HP[k]'h).1 < (HP[k]'h).2 ∧ (HP[k]'h).2 ≤ D.length) := hr1
      have HR2 : Hid (∀ k (h : k + 1 < HP.length), (HP[k]'(by omega)).2 ≤ (HP[k + 1]'h).1) := hr2
      have hHl : HP.length ≤ 8192 := by rw [← hHP]; have := Ln.hks_len A D D.length; simp [Ln.hunksP]; omega
      obtain ⟨ad4, cd4, hvd4, chs4⟩ := own_chs od4 (by omega) HDs.out HDk.out
      obtain ⟨rfl, rfl⟩ : some (⟨gd', 0, none⟩ : Addr) = ad4 ∧ cd = cd4 := by cases hvd4; exact ⟨rfl, rfl⟩
      clear hvd4 hr1 hr2 hHP
      go_wp2_with fail
      refine (hunks_any _ _ A D _ chs4 hA (by omega)).mono ?_
      rw [HHP.out]
      rintro e w5 ⟨vh, rfl, oh, hb5⟩
      have od5 := own_below od4 hb5
      have o5 := o4.below hb5
      have TT5 := TT4.below hb5
      have hB5 := hB4.trans (hb5.mono s4)
      have s5 := hB5.size
      clear hb5 TT4 hB4 od4 o4 chs4
      obtain ⟨ah, ch, rfl, hch1, hch2⟩ := own_slice oh
      unfold maxLen at hch2
      have hcd : D.length ≤ cd ∧ cd ≤ maxLen := by
        rcases od5.2 with ⟨e, _⟩ | ⟨g, c, cur, e, _, _, q1, q2, _⟩
        · cases e
        · cases e; exact ⟨q1, q2⟩
      obtain ⟨hcd1, hcd2⟩ := hcd
      unfold maxLen at hcd2
      have hHDl : HDR.data.toList.length = HDR.size := Ln.szL HDR
      have HHDl : Hid (HDR.data.toList.length = HDR.size) := hHDl
      clear hHDl
      go_wp2_with fail
      go_loopw [12, 13, 14, 15, 55] (fun v dv ov nv i wr => ∃ (k dn o n : Nat) (O : List UInt8), k ≤ HP.length ∧ i = .int .i64 k ∧ dv = .int .i64 dn ∧ ov = .int .i64 o ∧ nv = .int .i64 n ∧ dn ≤ D.length ∧ o ≤ dn ∧ n ≤ dn ∧ O.length ≤ 10000000 + k * 5000000 ∧ Hid (∀ h : k < HP.length, dn ≤ (HP[k]'h).1) ∧ Hid (Ln.cntO (D.take dn) = o) ∧ Hid (Ln.cntN (D.take dn) = n) ∧
        Hid (O = HDR.data.toList ++ (HP.take k).flatMap fun h => Ln.hunkB D h.1 h.2) ∧ Hid (OwnB wr w.heap.size v O) ∧ Below w.heap.size w wr ∧ Hid (Oth w5 wr)) (fun _ _ _ _ i _ => HP.length - (intOf i).toNat)
      case atStart => exact ⟨0, 0, 0, 0, HDR.data.toList, Nat.zero_le _, rfl, rfl, rfl, rfl, Nat.zero_le _, Nat.le_refl _, Nat.le_refl _, by have := HHDl.out; omega, fun _ => Nat.zero_le _, rfl, rfl, by simp [Hid], o5, hB5, ⟨Nat.le_refl _, fun _ _ _ => rfl⟩⟩
      case round =>
        obtain ⟨k, dn, o, n, O, hk, rfl, rfl, rfl, rfl, hdn, ho, hn, hO, HK, HO, HNN, HOO, OB, hnx, hot⟩ := hrel
        have hsz := hnx.size
        clear o5 hB5 s5 s4
        by_cases hlt : k < HP.length
        · have hdf := HK.out hlt
          have hft := HR1.out k hlt
          have HNX : Hid (∀ h : k + 1 < HP.length, (HP[k]'hlt).2 ≤ (HP[k + 1]'h).1) := fun h => HR2.out k h
          have HTK : Hid (HP.take (k + 1) = HP.take k ++ [HP[k]'hlt]) := List.take_succ_eq_append_getElem hlt
          have oh' := own_oth oh (by decide) hot.out
          obtain ⟨gh, ch', hvh, _, hghl⟩ := oh'.form (by omega)
          obtain ⟨rfl, rfl⟩ : ah = some ⟨gh, 0, none⟩ ∧ ch = ch' := by cases hvh; exact ⟨rfl, rfl⟩
          have gq := pcells_get HP k hlt
          have hlc := oh'.1
          have q0 := (oh'.cellAt (k * 2) (by omega)).trans gq.1
          have q1 := (oh'.cellAt (k * 2 + 1) (by omega)).trans gq.2
          clear gq hlc hvh oh'
          generalize HP[k]'hlt = x at *
          obtain ⟨f, t2⟩ := x
          simp only at hdf hft q0 q1
          obtain ⟨gv, cv, hvv, _, hcv2, _⟩ := OB.out.slice
          subst hvv
          unfold maxLen at hcv2
          have ne1 : ¬ cd = dn := by omega
          have ne2 : ¬ cd = f := by omega
          obtain ⟨wb, hwb⟩ : ∃ wb, wb = wr.alloc (.cells #[.int .i64 (f : Int), .int .i64 (t2 : Int)] 58) := ⟨_, rfl⟩
          have hbb : Below wr.heap.size wr wb := by rw [hwb]; exact alloc_below _ _
          have HBX : Hid (wb.heap[wr.heap.size]? = some (.cells #[.int .i64 (f : Int), .int .i64 (t2 : Int)] 58)) := by rw [hwb]; exact heap_alloc_new wr _
          have HWB : Hid (wb = wr.alloc (.cells #[.int .i64 (f : Int), .int .i64 (t2 : Int)] 58)) := hwb
          clear hwb
          have OBb : Hid (OwnB wb w.heap.size (.slice (some ⟨gv, 0, none⟩) O.length cv) O) := OB.out.below hbb
          have odb := own_oth od5 (by decide) (hot.out.trans (Oth.of hbb))
          have hBb := hnx.trans (hbb.mono hsz)
          have TTb : Hid (Tabs2 wb) := by
            have := TT.below hBb
            exact this
          have hsb := hBb.size
          obtain ⟨adb, cdb, hvdb, chsb⟩ := own_chs odb (by omega) HDs.out HDk.out
          obtain ⟨rfl, rfl⟩ : some (⟨gd', 0, none⟩ : Addr) = adb ∧ cd = cdb := by cases hvdb; exact ⟨rfl, rfl⟩
          have ch1 := chs_sub chsb hdf (show f ≤ D.length by omega)
          have ch2 := chs_sub chsb (Nat.le_of_lt hft.1) hft.2
          rw [if_neg ne1] at ch1
          rw [if_neg ne2] at ch2
          have c0 := (cell_oth (j := 0) HBX.out (by decide) (show Oth wb wb from ⟨Nat.le_refl _, fun _ _ _ => rfl⟩) rfl).2
          have c1 := (cell_oth (j := 1) HBX.out (by decide) (show Oth wb wb from ⟨Nat.le_refl _, fun _ _ _ => rfl⟩) rfl).2
          have hxl : wr.heap.size < wb.heap.size := lt_of_block HBX.out
          clear hvdb
          go_wp2_with fail
          rw [← HWB.out]
          rw [Nat.zero_add] at ch1 ch2
          have hl1 : (Ln.sub D dn f).length = f - dn := Ln.sub_length hdf (by omega)
          have hl2 : (Ln.sub D f t2).length = t2 - f := Ln.sub_length (Nat.le_of_lt hft.1) hft.2
          have HL2 : Hid ((Ln.sub D f t2).length = t2 - f) := hl2
          have e1 : o + Ln.cntO (Ln.sub D dn f) = Ln.cntO (D.take f) := by rw [Ln.take_sub hdf, Ln.cntO_append, HO.out]
          have e2 : n + Ln.cntN (Ln.sub D dn f) = Ln.cntN (D.take f) := by rw [Ln.take_sub hdf, Ln.cntN_append, HNN.out]
          have e3 : Ln.cntO (D.take f) + Ln.cntO (Ln.sub D f t2) = Ln.cntO (D.take t2) := by rw [Ln.take_sub (Nat.le_of_lt hft.1), Ln.cntO_append]
          have e4 : Ln.cntN (D.take f) + Ln.cntN (Ln.sub D f t2) = Ln.cntN (D.take t2) := by rw [Ln.take_sub (Nat.le_of_lt hft.1), Ln.cntN_append]
          have b1 := Ln.cntO_le (D.take t2)
          have b2 := Ln.cntN_le (D.take t2)
          have b3 : (D.take t2).length ≤ t2 := List.length_take_le _ _
          have HHB : Hid (Ln.hunkB D f t2 = [64, 64, 32, 45] ++ Ln.placeP (Ln.cntO (D.take f)) (Ln.cntO (Ln.sub D f t2)) ++ [32, 43] ++ Ln.placeP (Ln.cntN (D.take f)) (Ln.cntN (Ln.sub D f t2)) ++ [32, 64, 64, 10] ++ (Ln.sub D f t2).flatMap Ln.chB) := rfl
          have HHL : Hid ((Ln.hunkB D f t2).length ≤ 5000000) := Ln.hunk_len D f t2 hDl HDt.out
          have HPL : Hid (∀ i, (((Ln.sub D f t2).take i).flatMap Ln.chB).length ≤ 4500000) := fun i => Ln.part_len D f t2 i hDl HDt.out
          refine (sides_at _ _ _ (Ln.sub D dn f) _ ch1 hl1).mono ?_
          clear hl1 hl2 ch1
          generalize Ln.cntO (Ln.sub D dn f) = o1 at *
          generalize Ln.cntN (Ln.sub D dn f) = n1 at *
          rintro e w6 ⟨rfl, hb6⟩
          replace ch2 := ch2.below hb6
          have c0' := (hb6.cell (p := ⟨wr.heap.size, 0, none⟩) hxl).trans c0
          have c1' := (hb6.cell (p := ⟨wr.heap.size, 1, none⟩) hxl).trans c1
          have HO6 : Hid (Oth wb w6) := Oth.of hb6
          have OB6 : Hid (OwnB w6 w.heap.size (.slice (some ⟨gv, 0, none⟩) O.length cv) O) := OBb.out.below hb6
          have TT6 : Hid (Tabs2 w6) := TTb.out.below hb6
          have hB6 := hBb.trans (hb6.mono hsb)
          have hs6 := hb6.size
          clear hb6 c0 c1 OBb TTb
          go_wp2_with fail
          refine (sides_at _ _ _ (Ln.sub D f t2) _ ch2 HL2.out).mono ?_
          generalize hc3 : Ln.cntO (Ln.sub D f t2) = o2 at *
          generalize hc4 : Ln.cntN (Ln.sub D f t2) = n2 at *
          rintro e w7 ⟨rfl, hb7⟩
          clear hc3 hc4
          have c0 := (hb7.cell (p := ⟨wr.heap.size, 0, none⟩) (by show wr.heap.size < _; omega)).trans c0'
          have c1 := (hb7.cell (p := ⟨wr.heap.size, 1, none⟩) (by show wr.heap.size < _; omega)).trans c1'
          have HO7 : Hid (Oth wb w7) := HO6.out.trans (Oth.of hb7)
          have OB7 : Hid (OwnB w7 w.heap.size (.slice (some ⟨gv, 0, none⟩) O.length cv) O) := OB6.out.below hb7
          have TT7 : Hid (Tabs2 w7) := TT6.out.below hb7
          have hB7 := hB6.trans (hb7.mono (by omega))
          have hs7 := hb7.size
          clear hb7 c0' c1' OB6 TT6 HO6 hB6 ch2
          generalize hq1 : Ln.cntO (D.take f) = p1 at *
          generalize hq2 : Ln.cntN (D.take f) = p2 at *
          clear hq1 hq2
          have E1 : (o : Int) + (o1 : Int) = (p1 : Int) := by omega
          have E2 : (n : Int) + (n1 : Int) = (p2 : Int) := by omega
          have z1 := Ln.place_len p1 o2
          have z2 := Ln.place_len p2 n2
          have y1 : (Ln.bs (Ln.placeP p1 o2)).size ≤ 100000 := by simp [Ln.bs, ByteArray.size]; omega
          have y2 : (Ln.bs (Ln.placeP p2 n2)).size ≤ 100000 := by simp [Ln.bs, ByteArray.size]; omega
          go_wp2_with fail
          refine (place_any p1 o2 _ TT7.out (by omega) (by omega)).mono ?_
          rintro e w8 ⟨rfl, hb8⟩
          have c0' := (hb8.cell (p := ⟨wr.heap.size, 0, none⟩) (by show wr.heap.size < _; omega)).trans c0
          have c1' := (hb8.cell (p := ⟨wr.heap.size, 1, none⟩) (by show wr.heap.size < _; omega)).trans c1
          have HO8 : Hid (Oth wb w8) := HO7.out.trans (Oth.of hb8)
          have OB8 : Hid (OwnB w8 w.heap.size (.slice (some ⟨gv, 0, none⟩) O.length cv) O) := OB7.out.below hb8
          have TT8 : Hid (Tabs2 w8) := TT7.out.below hb8
          have hB8 := hB7.trans (hb8.mono (by omega))
          have hs8 := hb8.size
          clear hb8 c0 c1 OB7 TT7 HO7 hB7
          go_wp2_with fail
          refine (place_any p2 n2 _ TT8.out (by omega) (by omega)).mono ?_
          rintro e w9 ⟨rfl, hb9⟩
          have HO9 : Hid (Oth wb w9) := HO8.out.trans (Oth.of hb9)
          have OB9 : Hid (OwnB w9 w.heap.size (.slice (some ⟨gv, 0, none⟩) O.length cv) O) := OB8.out.below hb9
          have hB9 := hB8.trans (hb9.mono (by omega))
          have hs9 := hb9.size
          clear hb9 c0' c1' OB8 TT8 HO8 hB8
          go_wp2_with (at_builtin; refine appB_str _ rfl _ _ rfl w.heap.size _ O rfl OB9.out _ rfl ?k1 ?k2 ?_)
          case k1 => simp [show (⟨#[64, 64, 32, 45]⟩ : ByteArray).size = 4 from rfl, show (⟨#[32, 43]⟩ : ByteArray).size = 2 from rfl, show (⟨#[32, 64, 64, 10]⟩ : ByteArray).size = 4 from rfl]; omega
          case k2 => omega
          intro v10 w10 OB10 hb10 ho10
          have HO10 : Hid (Oth wb w10) := HO9.out.trans ho10
          have hB10 := hB9.trans hb10
          have hs10 := hB10.size
          replace OB10 : OwnB w10 w.heap.size v10 (O ++ ([64, 64, 32, 45] ++ Ln.placeP p1 o2 ++ [32, 43] ++ Ln.placeP p2 n2 ++ [32, 64, 64, 10])) := by simpa [Ln.bs] using OB10
          obtain ⟨O1, hO1⟩ : ∃ O1, O ++ ([64, 64, 32, 45] ++ Ln.placeP p1 o2 ++ [32, 43] ++ Ln.placeP p2 n2 ++ [32, 64, 64, 10]) = O1 := ⟨_, rfl⟩
          rw [hO1] at OB10
          have HO1 : Hid (O ++ ([64, 64, 32, 45] ++ Ln.placeP p1 o2 ++ [32, 43] ++ Ln.placeP p2 n2 ++ [32, 64, 64, 10]) = O1) := hO1
          have hO1l : O1.length ≤ O.length + 200100 := by rw [← hO1]; simp only [List.length_append, List.length_cons, List.length_nil]; omega
          clear hO1
          have c0 := (cell_oth (j := 0) HBX.out (by decide) HO10.out rfl).2
          have c1 := (cell_oth (j := 1) HBX.out (by decide) HO10.out rfl).2
          have od10 := own_oth odb (by decide) HO10.out
          obtain ⟨ad10, cd10, hvd10, chs10⟩ := own_chs od10 (by omega) HDs.out HDk.out
          obtain ⟨rfl, rfl⟩ : some (⟨gd', 0, none⟩ : Addr) = ad10 ∧ cd = cd10 := by cases hvd10; exact ⟨rfl, rfl⟩
          have ch10 := chs_sub chs10 (Nat.le_of_lt hft.1) hft.2
          rw [if_neg ne2, Nat.zero_add] at ch10
          have OBX : Hid (OwnB w10 w.heap.size v10 O1) := OB10
          clear hvd10 OB10 hb10 ho10 hB9 OB9 HO9 z1 z2 y1 y2 od10 chs10 chsb
          obtain ⟨SB, hSB⟩ : ∃ SB, Ln.sub D f t2 = SB := ⟨_, rfl⟩
          have HSB : Hid (Ln.sub D f t2 = SB) := hSB
          rw [hSB] at ch10
          have hSBl : SB.length ≤ 8192 := by rw [← hSB, HL2.out]; omega
          have HSL : Hid (SB.length = t2 - f) := by show _ = _; rw [← hSB]; exact HL2.out
          clear hSB
          obtain ⟨wz, hwz⟩ : ∃ wz, wz = wr := ⟨_, rfl⟩
          subst hwz
          go_wp2_with fail
          go_loopw [12, 103] (fun v i w11 => ∃ (j : Nat) (O2 : List UInt8), j ≤ t2 - f ∧ i = .int .i64 j ∧ O2.length ≤ O1.length + 4500000 ∧ Hid (O2 = O1 ++ (SB.take j).flatMap Ln.chB) ∧ Hid (OwnB w11 w.heap.size v O2) ∧ Below w.heap.size w w11 ∧ Hid (Oth w10 w11)) (fun _ i _ => (t2 - f) - (intOf i).toNat)
          case atStart => exact ⟨0, O1, Nat.zero_le _, rfl, by omega, by simp [Hid], OBX, hB10, ⟨Nat.le_refl _, fun _ _ _ => rfl⟩⟩
          case round =>
            obtain ⟨j, O2, hj, rfl, hO2l, HO2, OB2, hB11, hot11⟩ := hrel
            have hs11 := hB11.size
            have od11 := own_oth odb (by decide) (HO10.out.trans hot11.out)
            have hw10 := hot11.out.size
            clear OBX
            obtain ⟨gw, cw, hvw, _, hcw, _⟩ := OB2.out.slice
            subst hvw
            unfold maxLen at hcw
            by_cases hlt3 : j < t2 - f
            · have hlt2 : j < SB.length := by rw [HSL.out]; exact hlt3
              obtain ⟨ad11, cd11, hvd11, chs11⟩ := own_chs od11 (by omega) HDs.out HDk.out
              obtain ⟨rfl, rfl⟩ : some (⟨gd', 0, none⟩ : Addr) = ad11 ∧ cd = cd11 := by cases hvd11; exact ⟨rfl, rfl⟩
              have ch11 := chs_sub chs11 (Nat.le_of_lt hft.1) hft.2
              rw [if_neg ne2, Nat.zero_add, HSB.out] at ch11
              obtain ⟨bz, oz, hez, hbz, d1, d2, d3⟩ := ch11.cells j hlt2
              obtain ⟨rfl, rfl⟩ : gd' = bz ∧ f * 3 = oz := by cases hez; exact ⟨rfl, rfl⟩
              have hkd := ch11.kind _ (List.getElem_mem hlt2)
              have hxs := ch11.size _ (List.getElem_mem hlt2)
              have HT2 : Hid (SB.take (j + 1) = SB.take j ++ [SB[j]'hlt2]) := List.take_succ_eq_append_getElem hlt2
              clear hez hvd11 chs11 ch11
              generalize SB[j]'hlt2 = y at *
              obtain ⟨kd, y1, y2⟩ := y
              simp only at hkd hxs d1 d2 d3
              have HE2 : Hid (O2 ++ Ln.chB (kd, (y1, y2)) = O1 ++ (SB.take (j + 1)).flatMap Ln.chB) := by show _ = _; rw [HT2.out, HO2.out]; simp
              have hlE : (O2 ++ Ln.chB (kd, (y1, y2))).length ≤ O1.length + 4500000 := by
                rw [HE2.out, List.length_append, ← HSB.out]
                have := HPL.out (j + 1)
                omega
              have cj : (j : Int) < ((t2 - f : Nat) : Int) := by omega
              obtain ⟨wy, hwy⟩ : ∃ wy, wy = wr.alloc (.cells #[.int .u8 (kd : Int), .string y1, .bool y2] 40) := ⟨_, rfl⟩
              have hby : Below wr.heap.size wr wy := by rw [hwy]; exact alloc_below _ _
              have HWY : Hid (wy = wr.alloc (.cells #[.int .u8 (kd : Int), .string y1, .bool y2] 40)) := hwy
              clear hwy
              have hBy := hB11.trans (hby.mono hs11)
              have OBy := OB2.out.below hby
              go_wp2_with fail
              rw [← HWY.out]
              refine (write_any w.heap.size _ O2 kd y1 y2 _ OBy hBy.size (by omega) hkd).mono ?_
              rintro e w12 ⟨v12, rfl, OB12, hb12, ho12⟩
              go_wp2_with fail
              go_roundw
              case rel => first | exact ⟨j + 1, O2 ++ Ln.chB (kd, (y1, y2)), by omega, by go_num, hlE, HE2.out, OB12, hBy.trans hb12, hot11.out.trans ((Oth.of hby).trans ho12)⟩ | ((repeat apply Exists.intro); exact ⟨⟨j + 1, O2 ++ Ln.chB (kd, (y1, y2)), by omega, by go_num, hlE, HE2.out, OB12, hBy.trans hb12, hot11.out.trans ((Oth.of hby).trans ho12)⟩, rfl⟩)
              case measure => simp [intOf]; omega
            · have c1' := (cell_oth (j := 1) HBX.out (by decide) (HO10.out.trans hot11.out) rfl).2
              have HE3 : Hid (O2 = O ++ Ln.hunkB D f t2) := by
                show _ = _
                rw [HO2.out, List.take_of_length_le (by have := HSL.out; omega), HHB.out, ← HO1.out, HSB.out]
                simp
              have HE4 : Hid (O2 = HDR.data.toList ++ (HP.take (k + 1)).flatMap fun h => Ln.hunkB D h.1 h.2) := by
                show _ = _
                rw [HE3.out, HTK.out, HOO.out]
                simp
              have hl4 : O2.length ≤ 10000000 + (k + 1) * 5000000 := by
                rw [HE3.out, List.length_append]
                have := HHL.out
                omega
              have cj : ¬ (j : Int) < ((t2 - f : Nat) : Int) := by omega
              have E3 : (p1 : Int) + (o2 : Int) = ((Ln.cntO (D.take t2) : Nat) : Int) := by omega
              have E4 : (p2 : Int) + (n2 : Int) = ((Ln.cntN (D.take t2) : Nat) : Int) := by omega
              have q3 := Ln.cntO_le (D.take t2)
              go_wp2_with fail
              go_roundw
              case rel => exact ⟨k + 1, t2, Ln.cntO (D.take t2), Ln.cntN (D.take t2), O2, by omega, by go_num, rfl, rfl, rfl, hft.2, by omega, by omega, hl4, HNX, rfl, rfl, HE4, OB2, hB11, hot.out.trans ((Oth.of hbb).trans (HO10.out.trans hot11.out))⟩
              case measure => simp [intOf]; omega
        · have HE : Hid (Ln.uniB (Ln.quoP nm).data.toList D A = O) := by
            show _ = _
            unfold Ln.uniB
            rw [HOO.out, HH.out, HHP.out, List.take_of_length_le (by omega)]
          obtain ⟨gv, cv, hvv, _, _, _⟩ := OB.out.slice
          subst hvv
          have hcvt := ownB_string OB.out
          have ck : ¬ (k : Int) < (HP.length : Int) := by omega
          go_wp2_with fail
          go_ret2
          rw [HU2.out, HE.out]
          exact ⟨rfl, hnx⟩
    · have HU2 : Hid (Ln.uniR nm s t (A : Int) = ([], 0)) := by show _ = _; rw [HU.out, if_neg (by simp), hq]; rfl
      go_wp2_with fail
      go_ret2
      rw [HU2.out]
      exact ⟨rfl, hB1⟩
  · have HU2 : Hid (Ln.uniR nm s t (A : Int) = ([], 3)) := by show _ = _; rw [HU.out, if_pos (by simp)]
    go_wp2_with fail
    go_ret2
    rw [HU2.out]
    exact ⟨rfl, hB1⟩
end Go.Proofs.YtpoimhkfajppmaaDoor
