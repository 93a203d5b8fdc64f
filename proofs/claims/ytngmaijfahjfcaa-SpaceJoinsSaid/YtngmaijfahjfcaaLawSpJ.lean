/- The law SpaceJoins answers true. -/
import Derived.Test.YtngmaijfahjfcaaSpB
import Derived.Test.YtngmaijfahjfcaaSpM3
import Derived.Test.YtngmaijfahjfcaaSpM4
namespace Go.Proofs.Ytngmaijfahjfcaa
open Go.RowKit

theorem bs3 (a b : ByteArray) : Sc.bs (a.data.toList ++ 10 :: b.data.toList) = a ++ ⟨#[10]⟩ ++ b := by
  rw [← Sc.bs_data (a ++ ⟨#[10]⟩ ++ b)]
  congr 1
  simp
theorem bs5 (a b : ByteArray) : Sc.bs (b.data.toList ++ 10 :: (a.data.toList ++ 10 :: b.data.toList)) = b ++ ⟨#[10]⟩ ++ a ++ ⟨#[10]⟩ ++ b := by
  rw [← Sc.bs_data (b ++ ⟨#[10]⟩ ++ a ++ ⟨#[10]⟩ ++ b)]
  congr 1
  simp
theorem bs7 (a b : ByteArray) : Sc.bs (b.data.toList ++ 10 :: (a.data.toList ++ 10 :: b.data.toList) ++ 10 :: a.data.toList) = b ++ ⟨#[10]⟩ ++ a ++ ⟨#[10]⟩ ++ b ++ ⟨#[10]⟩ ++ a := by
  rw [← Sc.bs_data (b ++ ⟨#[10]⟩ ++ a ++ ⟨#[10]⟩ ++ b ++ ⟨#[10]⟩ ++ a)]
  congr 1
  simp
set_option maxRecDepth 100000 in
set_option maxHeartbeats 1000000 in
theorem joins_great (a b : ByteArray) (w : World) (ha : a.size ≤ maxLen) (hb : b.size ≤ maxLen) (h : 67108864 < a.size ∨ 67108864 < b.size) :
    Calls Try.prog 7 #[.string a, .string b] w fun e w' => e = .returned (.bool true) ∧ Below w.heap.size w w' := by
  unfold maxLen at ha hb
  by_cases h1 : 67108864 < a.size
  · have d1 : (67108864 : Int) < (a.size : Int) := by omega
    go_enter Try.func7, Try.ntmps7
    go_wp2_with (first | (go_at_call 16; refine (begins_any _).mono ?_; rintro e w1 ⟨rfl, hw⟩))
    go_ret
    exact ⟨rfl, hw⟩
  · have d1 : ¬ (67108864 : Int) < (a.size : Int) := by omega
    have d2 : (67108864 : Int) < (b.size : Int) := by omega
    go_enter Try.func7, Try.ntmps7
    go_wp2_with (first | (go_at_call 16; refine (begins_any _).mono ?_; rintro e w1 ⟨rfl, hw⟩))
    go_ret
    exact ⟨rfl, hw⟩
set_option maxRecDepth 100000 in
set_option maxHeartbeats 4000000 in
theorem joins_small (a b : ByteArray) (w : World) (ha : a.size ≤ 67108864) (hb : b.size ≤ 67108864) :
    Calls Try.prog 7 #[.string a, .string b] w fun e w' => e = .returned (.bool true) ∧ Below w.heap.size w w' := by
  have d1 : ¬ (67108864 : Int) < (a.size : Int) := by omega
  have d2 : ¬ (67108864 : Int) < (b.size : Int) := by omega
  have HB : Hid (Calls Try.prog 16 #[] w fun e w' => e = .returned (.bool true) ∧ Below w.heap.size w w') := begins_any w
  have us : ∀ x y : List UInt8, (Sc.St.mk x y []).used = x.length + y.length := fun x y => by simp [Sc.St.used, Sc.txts]
  generalize hA : a.data.toList = A
  generalize hBl : b.data.toList = B
  have la : A.length = a.size := by rw [← hA]; exact Sc.szL a
  have lb : B.length = b.size := by rw [← hBl]; exact Sc.szL b
  have HN : Hid (∀ W : World, Calls Try.prog 9 #[.int .i64 1073741824] W fun e w' => e = .returned (.tuple #[.pointer (some ⟨W.heap.size, 0, none⟩), .int .i64 0]) ∧ Ob W W.heap.size .nil 1073741824 w') := fun W => Ob.made (quota := 1073741824) (by decide)
  have H1 : Hid (∀ V g W, Ob V g .nil 1073741824 W → Calls Try.prog 22 #[.pointer (some ⟨g, 0, none⟩), .string a] W fun e w' => e = .returned (.int .i64 0) ∧ Ob V g ⟨A, [], []⟩ 1073741824 w') := fun V g W h => h.fit (by rw [us]; simp; omega) (fun S q => by have := set_any S g .nil 1073741824 a W q (by omega); rw [hA] at this; exact this)
  have H2 : Hid (∀ V g W, Ob V g ⟨A, [], []⟩ 1073741824 W → Calls Try.prog 23 #[.pointer (some ⟨g, 0, none⟩)] W fun e w' => e = .returned (.int .i64 0) ∧ Ob V g ⟨A, A, []⟩ 1073741824 w') := fun V g W h => h.fit (by rw [us]; omega) (fun S q => put_any S g _ _ _ q)
  have H3 : Hid (∀ V g W, Ob V g ⟨A, A, []⟩ 1073741824 W → Calls Try.prog 22 #[.pointer (some ⟨g, 0, none⟩), .string b] W fun e w' => e = .returned (.int .i64 0) ∧ Ob V g ⟨B, A, []⟩ 1073741824 w') := fun V g W h => h.fit (by rw [us]; omega) (fun S q => by have := set_any S g ⟨A, A, []⟩ 1073741824 b W q (by omega); rw [hBl] at this; exact this)
  have H4 : Hid (∀ V g W, Ob V g ⟨B, A, []⟩ 1073741824 W → Calls Try.prog 27 #[.pointer (some ⟨g, 0, none⟩)] W fun e w' => e = .returned (.int .i64 0) ∧ Ob V g ⟨B, A ++ 10 :: B, []⟩ 1073741824 w') := fun V g W h => h.fit (by rw [us]; simp only [List.length_append, List.length_cons]; omega) (fun S q => putm_any S g _ _ _ q)
  have H5 : Hid (∀ V g W, Ob V g ⟨B, A ++ 10 :: B, []⟩ 1073741824 W → Calls Try.prog 28 #[.pointer (some ⟨g, 0, none⟩)] W fun e w' => e = .returned (.int .i64 0) ∧ Ob V g ⟨B ++ 10 :: (A ++ 10 :: B), A ++ 10 :: B, []⟩ 1073741824 w') := fun V g W h => h.fit (by rw [us]; simp only [List.length_append, List.length_cons]; omega) (fun S q => getm_any S g _ _ _ q)
  have H6 : Hid (∀ V g W, Ob V g ⟨B ++ 10 :: (A ++ 10 :: B), A ++ 10 :: B, []⟩ 1073741824 W → (Calls Try.prog 18 #[.pointer (some ⟨g, 0, none⟩)] W fun e w' => e = .returned (.string (a ++ ⟨#[10]⟩ ++ b)) ∧ W = w') ∧ (Calls Try.prog 17 #[.pointer (some ⟨g, 0, none⟩)] W fun e w' => e = .returned (.string (b ++ ⟨#[10]⟩ ++ a ++ ⟨#[10]⟩ ++ b)) ∧ W = w')) := fun V g W ⟨S, h, _⟩ => by
    have p1 := hold_any S g _ _ _ h
    have p2 := pattern_any S g _ _ _ h
    simp only [← hA, ← hBl, bs3, bs5] at p1 p2
    exact ⟨p1, p2⟩
  have H7 : Hid (∀ V g W, Ob V g ⟨B ++ 10 :: (A ++ 10 :: B), A ++ 10 :: B, []⟩ 1073741824 W → Calls Try.prog 29 #[.pointer (some ⟨g, 0, none⟩), .string a] W fun e w' => e = .returned (.int .i64 0) ∧ Ob V g ⟨B ++ 10 :: (A ++ 10 :: B) ++ 10 :: A, A ++ 10 :: B, []⟩ 1073741824 w') := fun V g W h => h.fit (by rw [us]; simp only [List.length_append, List.length_cons]; omega) (fun S q => by have := join_any S g ⟨B ++ 10 :: (A ++ 10 :: B), A ++ 10 :: B, []⟩ 1073741824 a W q (by omega); rw [hA] at this; exact this)
  have H8 : Hid (∀ V g W, Ob V g ⟨B ++ 10 :: (A ++ 10 :: B) ++ 10 :: A, A ++ 10 :: B, []⟩ 1073741824 W → Calls Try.prog 17 #[.pointer (some ⟨g, 0, none⟩)] W fun e w' => e = .returned (.string (b ++ ⟨#[10]⟩ ++ a ++ ⟨#[10]⟩ ++ b ++ ⟨#[10]⟩ ++ a)) ∧ W = w') := fun V g W ⟨S, h, _⟩ => by
    have p2 := pattern_any S g _ _ _ h
    simp only [← hA, ← hBl, bs7] at p2
    exact p2
  clear hA hBl la lb us
  go_enter Try.func7, Try.ntmps7
  go_wp2_with (first
    | (go_at_call 16; refine HB.out.mono ?_; rintro e w1 ⟨rfl, hw⟩; have K0 : Hid (Below w.heap.size w w1) := hw; clear hw)
    | (go_at_call 9; refine (HN.out _).mono ?_; rintro e w2 ⟨rfl, h1⟩; (generalize hg : w1.heap.size = g at *); have HG : Hid (w1.heap.size = g) := hg; clear hg; have K1 : Hid (Ob w1 g .nil 1073741824 w2) := h1; clear h1)
    | (go_at_call 22; refine (H3.out _ _ _ K3.out).mono ?_; rintro e w5 ⟨rfl, h1⟩; have K4 : Hid (Ob w1 g ⟨B, A, []⟩ 1073741824 w5) := h1; clear h1)
    | (go_at_call 22; refine (H1.out _ _ _ K1.out).mono ?_; rintro e w3 ⟨rfl, h1⟩; have K2 : Hid (Ob w1 g ⟨A, [], []⟩ 1073741824 w3) := h1; clear h1)
    | (go_at_call 23; refine (H2.out _ _ _ K2.out).mono ?_; rintro e w4 ⟨rfl, h1⟩; have K3 : Hid (Ob w1 g ⟨A, A, []⟩ 1073741824 w4) := h1; clear h1)
    | (go_at_call 27; refine (H4.out _ _ _ K4.out).mono ?_; rintro e w6 ⟨rfl, h1⟩; have K5 : Hid (Ob w1 g ⟨B, A ++ 10 :: B, []⟩ 1073741824 w6) := h1; clear h1)
    | (go_at_call 28; refine (H5.out _ _ _ K5.out).mono ?_; rintro e w7 ⟨rfl, h1⟩; have K6 : Hid (Ob w1 g ⟨B ++ 10 :: (A ++ 10 :: B), A ++ 10 :: B, []⟩ 1073741824 w7) := h1; clear h1)
    | (go_at_call 18; refine (H6.out _ _ _ K6.out).1.mono ?_; rintro e w8 ⟨rfl, rfl⟩)
    | (go_at_call 17; refine (H8.out _ _ _ K8.out).mono ?_; rintro e w9 ⟨rfl, rfl⟩)
    | (go_at_call 17; refine (H6.out _ _ _ K6.out).2.mono ?_; rintro e w8 ⟨rfl, rfl⟩)
    | (go_at_call 29; refine (H7.out _ _ _ K6.out).mono ?_; rintro e w8 ⟨rfl, h1⟩; have K8 : Hid (Ob w1 g ⟨B ++ 10 :: (A ++ 10 :: B) ++ 10 :: A, A ++ 10 :: B, []⟩ 1073741824 w8) := h1; clear h1))
  go_ret
  exact ⟨rfl, K0.out.trans (K8.out.below.mono (by have := HG.out; have := K0.out.size; omega))⟩
theorem law_joins (a b : ByteArray) (w : World) (ha : a.size ≤ maxLen) (hb : b.size ≤ maxLen) :
    Calls Try.prog 7 #[.string a, .string b] w fun e w' => e = .returned (.bool true) ∧ Below w.heap.size w w' := by
  by_cases h : 67108864 < a.size ∨ 67108864 < b.size
  · exact joins_great a b w ha hb h
  · exact joins_small a b w (by omega) (by omega)
end Go.Proofs.Ytngmaijfahjfcaa
