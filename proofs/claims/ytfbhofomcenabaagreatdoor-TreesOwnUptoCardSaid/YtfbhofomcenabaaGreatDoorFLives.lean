/- What lives() of the trees' statements answers. -/
import Derived.Test.YtfbhofomcenabaaGreatDoorTS
import Derived.Test.YtfbhofomcenabaaGreatDoorTT
namespace Go.Proofs.YtfbhofomcenabaaGreatDoor
open Go Go.RowKit

theorem two_strs (w : World) (x y : ByteArray) (hx : x.size ≤ 1024) (hy : y.size ≤ 1024) : Strs (w.alloc (.cells #[.string x, .string y] 9)) (some ⟨w.heap.size, 0, none⟩) 2 [x, y] := by
  refine ⟨by simp, fun h => (by cases h), by simp, by decide, fun i hi => ?_, fun i hi => ⟨w.heap.size, 0, rfl, by simp, ?_⟩⟩
  · match i, hi with
    | 0, _ => show x.size ≤ _; omega
    | 1, _ => show y.size ≤ _; omega
  · match i, hi with
    | 0, _ => simp
    | 1, _ => simp
/-- A tree in a block of its own, while the program goes on. -/
structure Sm (w0 w : World) (g : Nat) (T : Ft.FT) (a : Option Addr) (c : Nat) : Prop where
  at_ : Ft.FileAt w g T a c
  fd : Ft.Fd w (· < w.heap.size) T a c
  bel : Below w0.heap.size w0 w
  tab : TxT w
theorem Sm.under {w0 w w' : World} {g : Nat} {T : Ft.FT} {a : Option Addr} {c : Nat} (h : Sm w0 w g T a c) (hb : Below w.heap.size w w') : Sm w0 w' g T a c :=
  ⟨h.at_.under hb, h.fd.grew hb hb.size, h.bel.trans (hb.mono h.bel.size), h.tab.under hb⟩

set_option maxRecDepth 100000 in
set_option maxHeartbeats 1000000 in
theorem tlives_any (w : World) (TT : TxT w) : Calls Tryz.prog 12 #[] w fun e w' => e = .returned (.bool true) ∧ Below w.heap.size w w' := by
  obtain ⟨T, hT⟩ : ∃ T, T = Ft.samT := ⟨_, rfl⟩
  have hr : Ft.rightT T = true := by rw [hT]; exact Ft.sam_right
  have hz : Ft.szT T = true := by rw [hT]; exact Ft.sam_sz
  have hp : Ft.prtR T = ⟨#[100, 105, 114, 32, 34, 47, 97, 34, 10, 116, 101, 120, 116, 32, 34, 47, 97, 47, 98, 34, 32, 34, 120, 92, 110, 34, 10, 108, 105, 110, 107, 32, 34, 47, 99, 34, 32, 34, 47, 97, 47, 98, 34, 10]⟩ := by unfold Ft.prtR; rw [hr, if_pos rfl, hT, Ft.sam_prt]; rfl
  have hl : Ft.lstC T = 0 := by unfold Ft.lstC; rw [hr]; rfl
  have hlen : (Ft.prtT T).length ≤ 70368744177664 := by rw [hT, Ft.sam_prt]; decide
  have hrd : Ft.readR ⟨#[100, 105, 114, 32, 34, 47, 97, 34, 10, 116, 101, 120, 116, 32, 34, 47, 97, 47, 98, 34, 32, 34, 120, 92, 110, 34, 10, 108, 105, 110, 107, 32, 34, 47, 99, 34, 32, 34, 47, 97, 47, 98, 34, 10]⟩ = (T, 0, 0, 0) := by rw [hT]; exact Ft.sam_reads
  have hg : Ft.getR T [⟨#[97]⟩, ⟨#[98]⟩] = .inr Ft.samB := by rw [hT]; exact Ft.sam_gets
  have HS := sample_any w
  rw [← hT] at HS
  simp only [Ft.fdV, Ft.fdA] at HS
  have HF : Hid (Ft.rightT T = true ∧ Ft.szT T = true ∧ Ft.prtR T = ⟨#[100, 105, 114, 32, 34, 47, 97, 34, 10, 116, 101, 120, 116, 32, 34, 47, 97, 47, 98, 34, 32, 34, 120, 92, 110, 34, 10, 108, 105, 110, 107, 32, 34, 47, 99, 34, 32, 34, 47, 97, 47, 98, 34, 10]⟩ ∧ Ft.lstC T = 0 ∧ (Ft.prtT T).length ≤ 70368744177664 ∧ Ft.readR ⟨#[100, 105, 114, 32, 34, 47, 97, 34, 10, 116, 101, 120, 116, 32, 34, 47, 97, 47, 98, 34, 32, 34, 120, 92, 110, 34, 10, 108, 105, 110, 107, 32, 34, 47, 99, 34, 32, 34, 47, 97, 47, 98, 34, 10]⟩ = (T, 0, 0, 0) ∧ Ft.getR T [⟨#[97]⟩, ⟨#[98]⟩] = .inr Ft.samB) := ⟨hr, hz, hp, hl, hlen, hrd, hg⟩
  have HT : Hid (TxT w) := TT
  clear hr hz hp hl hlen hrd hg hT TT
  go_enter Tryz.func12, Tryz.ntmps12
  go_wp2_with fail
  refine HS.mono ?_
  clear HS
  rintro e w1 ⟨a, rfl, hF, hb1⟩
  obtain ⟨W1, hW1⟩ : ∃ W1, W1 = w1.alloc (.cells (Ft.fdA T a 2) 25) := ⟨_, rfl⟩
  have hb2 : Below w1.heap.size w1 W1 := by rw [hW1]; exact (Below.refl _ _).alloc (Nat.le_refl _) _
  have HS : Hid (Sm w W1 w1.heap.size T a 2) := ⟨by rw [hW1]; exact Ft.file_new w1 T a 2, (hF.mono (fun b h => h.2)).grew hb2 hb2.size, hb1.trans (hb2.mono hb1.size), HT.out.under (hb1.trans (hb2.mono hb1.size))⟩
  have HW : Hid (W1 = w1.alloc (.cells #[.string T.nm, .int .u8 (T.k : Int), .string T.d, .slice a T.kids.length 2] 25)) := hW1
  clear hF hb1 hb2 hW1 HT
  obtain ⟨q0, q1, q2, q3⟩ := HS.out.at_.four
  have hsz : w1.heap.size < W1.heap.size := HS.out.at_.lt
  have HZ : Hid (w1.heap.size < W1.heap.size) := hsz
  have C1 := tcheck_any T a 2 W1 HS.out.fd HF.out.2.1
  simp only [Ft.fdV, Ft.fdA] at C1
  clear hsz
  go_wp2_with fail
  rw [← HW.out]
  refine C1.mono ?_
  clear C1
  rintro e w2 ⟨⟨v, rfl, _⟩, hb2⟩
  rw [HF.out.1]
  have HS2 : Hid (Sm w w2 w1.heap.size T a 2) := HS.out.under hb2
  clear q0 q1 q2 q3 HW HS hb2 HZ
  obtain ⟨q0, q1, q2, q3⟩ := HS2.out.at_.four
  generalize w1.heap.size = g at *
  have hb3 : Below w2.heap.size w2 (w2.alloc (.cells #[.string ⟨#[97]⟩, .string ⟨#[98]⟩] 9)) := (Below.refl _ _).alloc (Nat.le_refl _) _
  have HS3 : Hid (Sm w (w2.alloc (.cells #[.string ⟨#[97]⟩, .string ⟨#[98]⟩] 9)) g T a 2) := HS2.out.under hb3
  have C2 := tget_any T [⟨#[97]⟩, ⟨#[98]⟩] a (some ⟨w2.heap.size, 0, none⟩) 2 2 _ HS3.out.fd HF.out.2.1 (two_strs w2 ⟨#[97]⟩ ⟨#[98]⟩ (by decide) (by decide))
  rw [HF.out.2.2.2.2.2.2] at C2
  simp only [Ft.fdV, Ft.fdA] at C2
  have HC2 : Hid _ := C2
  clear hb3 C2 HS2
  go_wp2_with fail
  refine Calls.mono HC2.out ?_
  clear HC2
  rintro e w4 ⟨U, a4, c4, code, rfl, hU⟩
  obtain ⟨⟨hU1, rfl⟩, _, hb4⟩ := hU.out
  have HS4 : Hid (Sm w w4 g T a 2) := HS3.out.under hb4
  simp only [Ft.fdV, Ft.fdA]
  have HU : Hid (U = Ft.samB) := hU1
  clear q0 q1 q2 q3 HS3 hb4 hU hU1
  obtain ⟨W5, hW5⟩ : ∃ W5, W5 = w4.alloc (.cells (Ft.fdA U a4 c4) 25) := ⟨_, rfl⟩
  have hb5 : Below w4.heap.size w4 W5 := by rw [hW5]; exact (Below.refl _ _).alloc (Nat.le_refl _) _
  have HS5 : Hid (Sm w W5 g T a 2) := HS4.out.under hb5
  have hu5 : Ft.FileAt W5 w4.heap.size U a4 c4 := by rw [hW5]; exact Ft.file_new w4 U a4 c4
  have HU5 : Hid _ := hu5
  have HW5 : Hid (W5 = w4.alloc (.cells #[.string U.nm, .int .u8 (U.k : Int), .string U.d, .slice a4 U.kids.length c4] 25)) := hW5
  obtain ⟨q0, q1, q2, q3⟩ := HS4.out.at_.four
  have hg4 : g < w4.heap.size := HS4.out.at_.lt
  have C3 := tprint_any T a 2 W5 HS5.out.tab HS5.out.fd HF.out.2.1 (fun _ => HF.out.2.2.2.2.1)
  rw [HF.out.2.2.1, HF.out.2.2.2.1] at C3
  simp only [Ft.fdV, Ft.fdA] at C3
  clear hb5 hu5 hW5 HS4
  go_wp2_with fail
  rw [← HW5.out]
  refine C3.mono ?_
  clear C3
  rintro e w6 ⟨rfl, hb6⟩
  have HS6 : Hid (Sm w w6 g T a 2) := HS5.out.under hb6
  have HU6 : Hid (Ft.FileAt w6 w4.heap.size U a4 c4) := Ft.FileAt.under HU5.out hb6
  clear q0 q1 q2 q3 HS5 HU5 HW5 hb6 hg4
  generalize w4.heap.size = g2 at *
  have C4 := read_any ⟨#[100, 105, 114, 32, 34, 47, 97, 34, 10, 116, 101, 120, 116, 32, 34, 47, 97, 47, 98, 34, 32, 34, 120, 92, 110, 34, 10, 108, 105, 110, 107, 32, 34, 47, 99, 34, 32, 34, 47, 97, 47, 98, 34, 10]⟩ w6 HS6.out.tab (by decide) (by decide) (by decide)
  rw [HF.out.2.2.2.2.2.1] at C4
  have HC4 : Hid _ := C4
  clear C4
  go_wp2_with fail
  refine Calls.mono HC4.out ?_
  clear HC4
  rintro e w7 ⟨⟨a7, c7, rfl, hF7⟩, hb7⟩
  have HF7 : Hid _ := hF7
  have HS7 : Hid (Sm w w7 g T a 2) := HS6.out.under hb7
  have HU7 : Hid (Ft.FileAt w7 g2 U a4 c4) := Ft.FileAt.under HU6.out hb7
  clear hF7 hb7 HS6 HU6
  simp only [Ft.fdV, Ft.fdA]
  obtain ⟨W8, hW8⟩ : ∃ W8, W8 = (w7.alloc (.cells (Ft.fdA T a7 c7) 25)).alloc (.cells #[.int .i64 0, .int .i64 0] 30) := ⟨_, rfl⟩
  have hb8 : Below w7.heap.size w7 W8 := by rw [hW8]; exact ((Below.refl _ _).alloc (Nat.le_refl _) _).alloc (by simp) _
  have HS8 : Hid (Sm w W8 g T a 2) := HS7.out.under hb8
  have HF8 : Hid (Ft.Fd W8 (· < W8.heap.size) T a7 c7) := (HF7.out.mono (fun b h => h.2)).grew hb8 hb8.size
  have HW8 : Hid (W8 = (w7.alloc (.cells #[.string T.nm, .int .u8 (T.k : Int), .string T.d, .slice a7 T.kids.length c7] 25)).alloc (.cells #[.int .i64 0, .int .i64 0] 30)) := hW8
  have C5 := tsame_any T T a a7 2 c7 W8 HS8.out.fd HF8.out
  rw [Ft.sameT_refl] at C5
  simp only [Ft.fdV, Ft.fdA] at C5
  have HC5 : Hid _ := C5
  obtain ⟨q0, q1, q2, q3⟩ := HS7.out.at_.four
  have u2 : w7.cell? ⟨g2, 0 + 2, none⟩ = some (.string ⟨#[120, 10]⟩) := by
    have h := (Ft.FileAt.four HU7.out).c2
    rw [HU.out] at h
    exact h
  have hg : g < w7.heap.size := HS7.out.at_.lt
  have hg2 : g2 < w7.heap.size := Ft.FileAt.lt HU7.out
  clear hb8 hW8 C5 HF7 HU7 HU
  go_wp2_with fail
  rw [← HW8.out]
  refine Calls.mono HC5.out ?_
  clear HC5
  rintro e w9 ⟨rfl, hb9⟩
  have HE : Hid (Below w.heap.size w w9) := HS8.out.bel.trans (hb9.mono HS8.out.bel.size)
  clear hb9 HS8 HW8 HF8 q0 q1 q2 q3 u2 hg hg2
  go_wp2_with fail
  go_ret
  exact ⟨rfl, HE.out⟩
end Go.Proofs.YtfbhofomcenabaaGreatDoor
