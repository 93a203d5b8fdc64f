/- The law TreesBack: what is written is read as it was; what is read is right, and is written and read alike. -/
import Derived.Test.YtgpheecapbhpkaaDoorFLives
import Derived.Test.YtgpheecapbhpkaaDoorTV
namespace Go.Proofs.YtgpheecapbhpkaaDoor
open Go Go.RowKit

namespace Ft
theorem lst_code (T : FT) : lstC T = if rightT T = true then 0 else 30 := by unfold lstC; cases rightT T <;> rfl
theorem prt_size {T : FT} (h : rightT T = true) : prtR T = Ln.bs (prtT T) := by unfold prtR; rw [if_pos h]
theorem back_sizes (s : ByteArray) (hs : s.size ≤ 1048576) : s.size ≤ 1099511627776 ∧ (Ln.splB s).length ≤ 1048576 ∧ ∀ x ∈ Ln.splB s, x.1.size ≤ 16777216 :=
  ⟨by omega, Nat.le_trans (Ln.splB_len s) hs, fun x hx => by have := splB_one s x hx; omega⟩
end Ft

set_option maxRecDepth 100000 in
set_option maxHeartbeats 2000000 in
theorem law_tback (T : Ft.FT) (a : Option Addr) (cap : Nat) (s : ByteArray) (w : World) (TT : TxT w) (hN : Ft.Fd w (· < w.heap.size) T a cap) (hz : Ft.szT T = true) (hcnt : (Ft.tdT.tdL [] T.kids).length ≤ 1048576) (hdat : Ft.datL (Ft.tdT.tdL [] T.kids) ≤ 1048576) (hs : s.size ≤ 1048576) :
    Calls Tryd.prog 3 #[Ft.fdV T a cap, .string s] w fun e w' => e = .returned (.bool true) ∧ Below w.heap.size w w' := by
  have hlen : Ft.rightT T = true → (Ft.prtT T).length ≤ 70368744177664 := fun h => by have := (Ft.text_small h hcnt hdat).1; omega
  have HSM : Hid (Ft.rightT T = true → (Ft.prtT T).length ≤ 1099511627776 ∧ (Ln.splB (Ln.bs (Ft.prtT T))).length ≤ 1048576 ∧ ∀ x ∈ Ln.splB (Ln.bs (Ft.prtT T)), x.1.size ≤ 16777216) := fun h => Ft.text_small h hcnt hdat
  have HSS : Hid (s.size ≤ 1099511627776 ∧ (Ln.splB s).length ≤ 1048576 ∧ ∀ x ∈ Ln.splB s, x.1.size ≤ 16777216) := Ft.back_sizes s hs
  have HSZ : Hid (s.size ≤ 1048576) := hs
  have HLEN : Hid _ := hlen
  have HZ : Hid _ := hz
  obtain ⟨W1, hW1⟩ : ∃ W1, W1 = w.alloc (.cells (Ft.fdA T a cap) 25) := ⟨_, rfl⟩
  have hb1 : Below w.heap.size w W1 := by rw [hW1]; exact (Below.refl _ _).alloc (Nat.le_refl _) _
  have HS1 : Hid (Sm w W1 w.heap.size T a cap) := ⟨by rw [hW1]; exact Ft.file_new w T a cap, hN.grew hb1 hb1.size, hb1, TT.under hb1⟩
  have HW1 : Hid (W1 = w.alloc (.cells #[.string T.nm, .int .u8 (T.k : Int), .string T.d, .slice a T.kids.length cap] 25)) := hW1
  clear hlen hz hs hcnt hdat TT hN hW1 hb1
  simp only [Ft.fdV, Ft.fdA]
  go_enter Tryd.func3, Tryd.ntmps3
  go_wp2_with fail
  rw [← HW1.out]
  refine (tlives_any W1 HS1.out.tab).mono ?_
  rintro e w2 ⟨rfl, hb2⟩
  have HS2 : Hid (Sm w w2 w.heap.size T a cap) := HS1.out.under hb2
  clear HW1 HS1 hb2
  obtain ⟨q0, q1, q2, q3⟩ := HS2.out.at_.four
  have hg2 : w.heap.size < w2.heap.size := HS2.out.at_.lt
  have C1 := tprint_any T a cap w2 HS2.out.tab HS2.out.fd HZ.out HLEN.out
  simp only [Ft.fdV, Ft.fdA] at C1
  generalize hgg : w.heap.size = g at HS2 q0 q1 q2 q3 hg2 ⊢
  have HG : Hid (w.heap.size = g) := hgg
  clear hgg
  go_wp2_with fail
  refine C1.mono ?_
  clear C1
  rintro e w3 ⟨rfl, hb3⟩
  have HS3 : Hid (Sm w w3 g T a cap) := HS2.out.under hb3
  clear q0 q1 q2 q3 HS2 hb3 hg2
  obtain ⟨q0, q1, q2, q3⟩ := HS3.out.at_.four
  have C2 := tcheck_any T a cap w3 HS3.out.fd HZ.out
  simp only [Ft.fdV, Ft.fdA] at C2
  have HC2 : Hid _ := C2
  rw [Ft.lst_code T]
  clear C2
  cases hr : Ft.rightT T
  · -- not right
    have HR : Hid (Ft.rightT T = false) := hr
    clear hr
    go_wp2_with fail
    refine Calls.mono HC2.out ?_
    clear HC2
    rintro e w4 ⟨⟨v, rfl, _⟩, hb4⟩
    rw [HR.out]
    have HV : Hid (Below w.heap.size w w4 ∧ TxT w4) := ⟨HS3.out.bel.trans (hb4.mono HS3.out.bel.size), HS3.out.tab.under hb4⟩
    clear q0 q1 q2 q3 HS3 hb4
    go_wp2_with fail
    refine (read_any s w4 HV.out.2 HSS.out.1 HSS.out.2.1 HSS.out.2.2).mono ?_
    rintro e x1 ⟨⟨a1, c1, rfl, hF1⟩, hb1⟩
    have HV1 : Hid (Below w.heap.size w x1 ∧ TxT x1) := ⟨HV.out.1.trans (hb1.mono HV.out.1.size), HV.out.2.under hb1⟩
    have hRf := Ft.read_forth s
    obtain ⟨R, hR⟩ : ∃ R, R = Ft.readR s := ⟨_, rfl⟩
    rw [← hR] at hF1 hRf ⊢
    clear hR HV hb1
    obtain ⟨U, code, fl, fr⟩ := R
    simp only [Ft.fdV, Ft.fdA] at hF1 ⊢
    rcases (show (code = 0 ∧ Ft.rightT U = true ∧ (Ft.tdT.tdL [] U.kids).length ≤ s.size ∧ Ft.datL (Ft.tdT.tdL [] U.kids) ≤ s.size) ∨ code = 51 from hRf.imp id (fun h => h.1)) with ⟨rfl, hr1, hn1, hd1⟩ | rfl
    · have hsz := HSZ.out
      have HRU : Hid (Ft.rightT U = true) := hr1
      have HSU : Hid ((Ft.prtT U).length ≤ 1099511627776 ∧ (Ln.splB (Ln.bs (Ft.prtT U))).length ≤ 1048576 ∧ ∀ x ∈ Ln.splB (Ln.bs (Ft.prtT U)), x.1.size ≤ 16777216) := Ft.text_small hr1 (by omega) (by omega)
      have HZU : Hid (Ft.szT U = true) := Ft.sz_root hr1 (by omega)
      obtain ⟨X2, hX2⟩ : ∃ X2, X2 = (x1.alloc (.cells (Ft.fdA U a1 c1) 25)).alloc (.cells #[.int .i64 (fl : Int), .int .i64 (fr : Int)] 35) := ⟨_, rfl⟩
      have hbx : Below x1.heap.size x1 X2 := by rw [hX2]; exact ((Below.refl _ _).alloc (Nat.le_refl _) _).alloc (by simp) _
      have HT2 : Hid (Sm w X2 x1.heap.size U a1 c1) := ⟨by rw [hX2]; exact Ft.FileAt.under (Ft.file_new x1 U a1 c1) ((Below.refl _ _).alloc (Nat.le_refl _) _), (hF1.mono (fun b h => h.2)).grew hbx hbx.size, HV1.out.1.trans (hbx.mono HV1.out.1.size), HV1.out.2.under hbx⟩
      have HX2 : Hid (X2 = (x1.alloc (.cells #[.string U.nm, .int .u8 (U.k : Int), .string U.d, .slice a1 U.kids.length c1] 25)).alloc (.cells #[.int .i64 (fl : Int), .int .i64 (fr : Int)] 35)) := hX2
      have D3 := tprint_any U a1 c1 X2 HT2.out.tab HT2.out.fd HZU.out (fun _ => by have := HSU.out.1; omega)
      rw [Ft.prt_size hr1, Ft.lst_code, hr1] at D3
      simp only [Ft.fdV, Ft.fdA] at D3
      have HD3 : Hid _ := D3
      clear D3 hr1 hn1 hd1 hsz hX2 hbx hF1 hRf HV1
      go_wp2_with fail
      rw [← HX2.out]
      refine Calls.mono HD3.out ?_
      clear HD3
      rintro e x3 ⟨rfl, hb3⟩
      have HT3 : Hid (Sm w x3 x1.heap.size U a1 c1) := HT2.out.under hb3
      clear HX2 HT2 hb3
      generalize x1.heap.size = g1 at HT3 ⊢
      have D4 := read_any (Ln.bs (Ft.prtT U)) x3 HT3.out.tab (by rw [Ln.bs_size]; exact HSU.out.1) HSU.out.2.1 HSU.out.2.2
      rw [Ft.read_back HRU.out] at D4
      have HD4 : Hid _ := D4
      clear D4
      go_wp2_with fail
      refine Calls.mono HD4.out ?_
      clear HD4
      rintro e x4 ⟨⟨a4, c4, rfl, hF4⟩, hb4⟩
      simp only [Ft.fdV, Ft.fdA]
      have HT4 : Hid (Sm w x4 g1 U a1 c1) := HT3.out.under hb4
      obtain ⟨X5, hX5⟩ : ∃ X5, X5 = (x4.alloc (.cells (Ft.fdA U a4 c4) 25)).alloc (.cells #[.int .i64 0, .int .i64 0] 35) := ⟨_, rfl⟩
      have hb5 : Below x4.heap.size x4 X5 := by rw [hX5]; exact ((Below.refl _ _).alloc (Nat.le_refl _) _).alloc (by simp) _
      have HT5 : Hid (Sm w X5 g1 U a1 c1) := HT4.out.under hb5
      have HG5 : Hid (Ft.Fd X5 (· < X5.heap.size) U a4 c4) := (hF4.mono (fun b h => h.2)).grew hb5 hb5.size
      have HX5 : Hid (X5 = (x4.alloc (.cells #[.string U.nm, .int .u8 (U.k : Int), .string U.d, .slice a4 U.kids.length c4] 25)).alloc (.cells #[.int .i64 0, .int .i64 0] 35)) := hX5
      have D6 := rsame_any U U a1 a4 c1 c4 X5 HT5.out.fd HG5.out
      rw [Ft.sameT_refl] at D6
      simp only [Ft.fdV, Ft.fdA] at D6
      have HD6 : Hid _ := D6
      obtain ⟨q0, q1, q2, q3⟩ := HT4.out.at_.four
      have hg1 : g1 < x4.heap.size := HT4.out.at_.lt
      clear D6 hF4 hb4 hX5 hb5 HT3
      go_wp2_with fail
      rw [← HX5.out]
      refine Calls.mono HD6.out ?_
      clear HD6
      rintro e x7 ⟨rfl, hb7⟩
      have HE : Hid (Below w.heap.size w x7) := HT5.out.bel.trans (hb7.mono HT5.out.bel.size)
      clear q0 q1 q2 q3 hg1 HT4 HT5 HG5 HX5 hb7
      go_wp2_with fail
      go_ret
      exact ⟨rfl, HE.out⟩
    · clear hRf hF1
      go_wp2_with fail
      go_ret
      exact ⟨rfl, HV1.out.1.trans ((((Below.refl _ x1).alloc (Nat.le_refl _) _).alloc (by simp) _).mono HV1.out.1.size)⟩
  · -- right
    have HR : Hid (Ft.rightT T = true) := hr
    clear hr
    go_wp2_with fail
    refine Calls.mono HC2.out ?_
    clear HC2
    rintro e w4 ⟨⟨v, rfl, _⟩, hb4⟩
    rw [HR.out]
    have HS4 : Hid (Sm w w4 g T a cap) := HS3.out.under hb4
    clear q0 q1 q2 q3 HS3 hb4
    have C3 := read_any (Ln.bs (Ft.prtT T)) w4 HS4.out.tab (by rw [Ln.bs_size]; exact (HSM.out HR.out).1) (HSM.out HR.out).2.1 (HSM.out HR.out).2.2
    rw [Ft.read_back HR.out] at C3
    have HC3 : Hid _ := C3
    clear C3
    rw [Ft.prt_size HR.out]
    go_wp2_with fail
    refine Calls.mono HC3.out ?_
    clear HC3
    rintro e w5 ⟨⟨a5, c5, rfl, hF5⟩, hb5⟩
    simp only [Ft.fdV, Ft.fdA]
    have HS5 : Hid (Sm w w5 g T a cap) := HS4.out.under hb5
    obtain ⟨W6, hW6⟩ : ∃ W6, W6 = (w5.alloc (.cells (Ft.fdA T a5 c5) 25)).alloc (.cells #[.int .i64 0, .int .i64 0] 35) := ⟨_, rfl⟩
    have hb6 : Below w5.heap.size w5 W6 := by rw [hW6]; exact ((Below.refl _ _).alloc (Nat.le_refl _) _).alloc (by simp) _
    have HS6 : Hid (Sm w W6 g T a cap) := HS5.out.under hb6
    have HF6 : Hid (Ft.Fd W6 (· < W6.heap.size) T a5 c5) := (hF5.mono (fun b h => h.2)).grew hb6 hb6.size
    have HW6 : Hid (W6 = (w5.alloc (.cells #[.string T.nm, .int .u8 (T.k : Int), .string T.d, .slice a5 T.kids.length c5] 25)).alloc (.cells #[.int .i64 0, .int .i64 0] 35)) := hW6
    have C5 := rsame_any T T a5 a c5 cap W6 HF6.out HS6.out.fd
    rw [Ft.sameT_refl] at C5
    simp only [Ft.fdV, Ft.fdA] at C5
    have HC5 : Hid _ := C5
    obtain ⟨q0, q1, q2, q3⟩ := HS5.out.at_.four
    have hg5 : g < w5.heap.size := HS5.out.at_.lt
    clear C5 hF5 hb5 hW6 hb6 HS4
    go_wp2_with fail
    rw [← HW6.out]
    refine Calls.mono HC5.out ?_
    clear HC5
    rintro e w7 ⟨rfl, hb7⟩
    have HV : Hid (Below w.heap.size w w7 ∧ TxT w7) := ⟨HS6.out.bel.trans (hb7.mono HS6.out.bel.size), HS6.out.tab.under hb7⟩
    clear q0 q1 q2 q3 hg5 HS5 HS6 HF6 HW6 hb7
    go_wp2_with fail
    refine (read_any s w7 HV.out.2 HSS.out.1 HSS.out.2.1 HSS.out.2.2).mono ?_
    rintro e x1 ⟨⟨a1, c1, rfl, hF1⟩, hb1⟩
    have HV1 : Hid (Below w.heap.size w x1 ∧ TxT x1) := ⟨HV.out.1.trans (hb1.mono HV.out.1.size), HV.out.2.under hb1⟩
    have hRf := Ft.read_forth s
    obtain ⟨R, hR⟩ : ∃ R, R = Ft.readR s := ⟨_, rfl⟩
    rw [← hR] at hF1 hRf ⊢
    clear hR HV hb1
    obtain ⟨U, code, fl, fr⟩ := R
    simp only [Ft.fdV, Ft.fdA] at hF1 ⊢
    rcases (show (code = 0 ∧ Ft.rightT U = true ∧ (Ft.tdT.tdL [] U.kids).length ≤ s.size ∧ Ft.datL (Ft.tdT.tdL [] U.kids) ≤ s.size) ∨ code = 51 from hRf.imp id (fun h => h.1)) with ⟨rfl, hr1, hn1, hd1⟩ | rfl
    · have hsz := HSZ.out
      have HRU : Hid (Ft.rightT U = true) := hr1
      have HSU : Hid ((Ft.prtT U).length ≤ 1099511627776 ∧ (Ln.splB (Ln.bs (Ft.prtT U))).length ≤ 1048576 ∧ ∀ x ∈ Ln.splB (Ln.bs (Ft.prtT U)), x.1.size ≤ 16777216) := Ft.text_small hr1 (by omega) (by omega)
      have HZU : Hid (Ft.szT U = true) := Ft.sz_root hr1 (by omega)
      obtain ⟨X2, hX2⟩ : ∃ X2, X2 = (x1.alloc (.cells (Ft.fdA U a1 c1) 25)).alloc (.cells #[.int .i64 (fl : Int), .int .i64 (fr : Int)] 35) := ⟨_, rfl⟩
      have hbx : Below x1.heap.size x1 X2 := by rw [hX2]; exact ((Below.refl _ _).alloc (Nat.le_refl _) _).alloc (by simp) _
      have HT2 : Hid (Sm w X2 x1.heap.size U a1 c1) := ⟨by rw [hX2]; exact Ft.FileAt.under (Ft.file_new x1 U a1 c1) ((Below.refl _ _).alloc (Nat.le_refl _) _), (hF1.mono (fun b h => h.2)).grew hbx hbx.size, HV1.out.1.trans (hbx.mono HV1.out.1.size), HV1.out.2.under hbx⟩
      have HX2 : Hid (X2 = (x1.alloc (.cells #[.string U.nm, .int .u8 (U.k : Int), .string U.d, .slice a1 U.kids.length c1] 25)).alloc (.cells #[.int .i64 (fl : Int), .int .i64 (fr : Int)] 35)) := hX2
      have D3 := tprint_any U a1 c1 X2 HT2.out.tab HT2.out.fd HZU.out (fun _ => by have := HSU.out.1; omega)
      rw [Ft.prt_size hr1, Ft.lst_code, hr1] at D3
      simp only [Ft.fdV, Ft.fdA] at D3
      have HD3 : Hid _ := D3
      clear D3 hr1 hn1 hd1 hsz hX2 hbx hF1 hRf HV1
      go_wp2_with fail
      rw [← HX2.out]
      refine Calls.mono HD3.out ?_
      clear HD3
      rintro e x3 ⟨rfl, hb3⟩
      have HT3 : Hid (Sm w x3 x1.heap.size U a1 c1) := HT2.out.under hb3
      clear HX2 HT2 hb3
      generalize x1.heap.size = g1 at HT3 ⊢
      have D4 := read_any (Ln.bs (Ft.prtT U)) x3 HT3.out.tab (by rw [Ln.bs_size]; exact HSU.out.1) HSU.out.2.1 HSU.out.2.2
      rw [Ft.read_back HRU.out] at D4
      have HD4 : Hid _ := D4
      clear D4
      go_wp2_with fail
      refine Calls.mono HD4.out ?_
      clear HD4
      rintro e x4 ⟨⟨a4, c4, rfl, hF4⟩, hb4⟩
      simp only [Ft.fdV, Ft.fdA]
      have HT4 : Hid (Sm w x4 g1 U a1 c1) := HT3.out.under hb4
      obtain ⟨X5, hX5⟩ : ∃ X5, X5 = (x4.alloc (.cells (Ft.fdA U a4 c4) 25)).alloc (.cells #[.int .i64 0, .int .i64 0] 35) := ⟨_, rfl⟩
      have hb5 : Below x4.heap.size x4 X5 := by rw [hX5]; exact ((Below.refl _ _).alloc (Nat.le_refl _) _).alloc (by simp) _
      have HT5 : Hid (Sm w X5 g1 U a1 c1) := HT4.out.under hb5
      have HG5 : Hid (Ft.Fd X5 (· < X5.heap.size) U a4 c4) := (hF4.mono (fun b h => h.2)).grew hb5 hb5.size
      have HX5 : Hid (X5 = (x4.alloc (.cells #[.string U.nm, .int .u8 (U.k : Int), .string U.d, .slice a4 U.kids.length c4] 25)).alloc (.cells #[.int .i64 0, .int .i64 0] 35)) := hX5
      have D6 := rsame_any U U a1 a4 c1 c4 X5 HT5.out.fd HG5.out
      rw [Ft.sameT_refl] at D6
      simp only [Ft.fdV, Ft.fdA] at D6
      have HD6 : Hid _ := D6
      obtain ⟨q0, q1, q2, q3⟩ := HT4.out.at_.four
      have hg1 : g1 < x4.heap.size := HT4.out.at_.lt
      clear D6 hF4 hb4 hX5 hb5 HT3
      go_wp2_with fail
      rw [← HX5.out]
      refine Calls.mono HD6.out ?_
      clear HD6
      rintro e x7 ⟨rfl, hb7⟩
      have HE : Hid (Below w.heap.size w x7) := HT5.out.bel.trans (hb7.mono HT5.out.bel.size)
      clear q0 q1 q2 q3 hg1 HT4 HT5 HG5 HX5 hb7
      go_wp2_with fail
      go_ret
      exact ⟨rfl, HE.out⟩
    · clear hRf hF1
      go_wp2_with fail
      go_ret
      exact ⟨rfl, HV1.out.1.trans ((((Below.refl _ x1).alloc (Nat.le_refl _) _).alloc (by simp) _).mono HV1.out.1.size)⟩
end Go.Proofs.YtgpheecapbhpkaaDoor
