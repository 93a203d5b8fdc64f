/- The law SpaceLines answers true. -/
import Derived.Test.YtngmaijfahjfcaaSpB
import Derived.Test.YtngmaijfahjfcaaSpM2
import Derived.Test.YtngmaijfahjfcaaSpM7
namespace Go.Proofs.Ytngmaijfahjfcaa
open Go.RowKit

theorem Ob.first {w : World} {g : Nat} {s : Sc.St} {quota : Nat} {W : World} (h : Ob w g s quota W) :
    Calls Try.prog 15 #[.pointer (some ⟨g, 0, none⟩)] W fun e w' => e = .returned (.tuple #[.string (Sc.bs (Sc.fst s.p)), .bool (Sc.lf s.p).isSome]) ∧ Ob w g s quota w' := by
  obtain ⟨S, h1, h2, h3⟩ := h
  refine (first_any S g s quota W h1).mono ?_
  rintro e w' ⟨rfl, q⟩
  exact ⟨rfl, Ob.after h1 h2 h3 (Aft.keep h1 q)⟩
theorem Ob.drop {w : World} {g : Nat} {s : Sc.St} {quota : Nat} {W : World} (h : Ob w g s quota W) :
    Calls Try.prog 26 #[.pointer (some ⟨g, 0, none⟩)] W fun e w' => e = .returned (.tuple #[.bool (Sc.lf s.p).isSome, .int .i64 0]) ∧ Ob w g ⟨Sc.rst s.p, s.h, s.q⟩ quota w' := by
  obtain ⟨S, h1, h2, h3⟩ := h
  refine (drop_any S g s quota W h1).mono ?_
  rintro e w' ⟨rfl, q⟩
  exact ⟨rfl, Ob.after h1 h2 h3 q⟩
theorem Ob.pattern {w : World} {g : Nat} {s : Sc.St} {quota : Nat} {W : World} (h : Ob w g s quota W) (x : ByteArray) (hx : Sc.bs s.p = x) :
    Calls Try.prog 17 #[.pointer (some ⟨g, 0, none⟩)] W fun e w' => e = .returned (.string x) ∧ W = w' := by
  obtain ⟨S, h1, _⟩ := h
  rw [← hx]
  exact pattern_any S g s quota W h1
theorem Ob.hold {w : World} {g : Nat} {s : Sc.St} {quota : Nat} {W : World} (h : Ob w g s quota W) (x : ByteArray) (hx : Sc.bs s.h = x) :
    Calls Try.prog 18 #[.pointer (some ⟨g, 0, none⟩)] W fun e w' => e = .returned (.string x) ∧ W = w' := by
  obtain ⟨S, h1, _⟩ := h
  rw [← hx]
  exact hold_any S g s quota W h1
set_option maxRecDepth 100000 in
set_option maxHeartbeats 1000000 in
theorem lines_great (a b : ByteArray) (w : World) (ha : a.size ≤ maxLen) (hb : b.size ≤ maxLen) (h : 134217728 < a.size ∨ 134217728 < b.size) :
    Calls Try.prog 6 #[.string a, .string b] w fun e w' => e = .returned (.bool true) ∧ Below w.heap.size w w' := by
  unfold maxLen at ha hb
  by_cases h1 : 134217728 < a.size
  · have d1 : (134217728 : Int) < (a.size : Int) := by omega
    go_enter Try.func6, Try.ntmps6
    go_wp2_with (first | (go_at_call 16; refine (begins_any _).mono ?_; rintro e w1 ⟨rfl, hw⟩))
    go_ret
    exact ⟨rfl, hw⟩
  · have d1 : ¬ (134217728 : Int) < (a.size : Int) := by omega
    have d2 : (134217728 : Int) < (b.size : Int) := by omega
    go_enter Try.func6, Try.ntmps6
    go_wp2_with (first | (go_at_call 16; refine (begins_any _).mono ?_; rintro e w1 ⟨rfl, hw⟩))
    go_ret
    exact ⟨rfl, hw⟩
set_option maxRecDepth 100000 in
set_option maxHeartbeats 4000000 in
theorem lines_small (a b : ByteArray) (w : World) (ha : a.size ≤ 134217728) (hb : b.size ≤ 134217728) :
    Calls Try.prog 6 #[.string a, .string b] w fun e w' => e = .returned (.bool true) ∧ Below w.heap.size w w' := by
  have d1 : ¬ (134217728 : Int) < (a.size : Int) := by omega
  have d2 : ¬ (134217728 : Int) < (b.size : Int) := by omega
  have HB : Hid (Calls Try.prog 16 #[] w fun e w' => e = .returned (.bool true) ∧ Below w.heap.size w w') := begins_any w
  have us : ∀ x y : List UInt8, (Sc.St.mk x y []).used = x.length + y.length := fun x y => by simp [Sc.St.used, Sc.txts]
  generalize hA : a.data.toList = A
  generalize hBl : b.data.toList = B
  have HT : Hid (a.data.toList = A ∧ A.length = a.size) := ⟨hA, by rw [← hA]; exact Sc.szL a⟩
  have la : A.length = a.size := by rw [← hA]; exact Sc.szL a
  have lb : B.length = b.size := by rw [← hBl]; exact Sc.szL b
  have HN : Hid (∀ W : World, Calls Try.prog 9 #[.int .i64 1073741824] W fun e w' => e = .returned (.tuple #[.pointer (some ⟨W.heap.size, 0, none⟩), .int .i64 0]) ∧ Ob W W.heap.size .nil 1073741824 w') := fun W => Ob.made (quota := 1073741824) (by decide)
  have H1 : Hid (∀ V g W, Ob V g .nil 1073741824 W → Calls Try.prog 22 #[.pointer (some ⟨g, 0, none⟩), .string b] W fun e w' => e = .returned (.int .i64 0) ∧ Ob V g ⟨B, [], []⟩ 1073741824 w') := fun V g W h => h.fit (by rw [us]; simp; omega) (fun S q => by have := set_any S g .nil 1073741824 b W q (by omega); rw [hBl] at this; exact this)
  have H2 : Hid (∀ V g W, Ob V g ⟨B, [], []⟩ 1073741824 W → Calls Try.prog 23 #[.pointer (some ⟨g, 0, none⟩)] W fun e w' => e = .returned (.int .i64 0) ∧ Ob V g ⟨B, B, []⟩ 1073741824 w') := fun V g W h => h.fit (by rw [us]; omega) (fun S q => put_any S g _ _ _ q)
  have H3 : Hid (∀ V g W, Ob V g ⟨B, B, []⟩ 1073741824 W → Calls Try.prog 22 #[.pointer (some ⟨g, 0, none⟩), .string a] W fun e w' => e = .returned (.int .i64 0) ∧ Ob V g ⟨A, B, []⟩ 1073741824 w') := fun V g W h => h.fit (by rw [us]; omega) (fun S q => by have := set_any S g ⟨B, B, []⟩ 1073741824 a W q (by omega); rw [hA] at this; exact this)
  have H4 : Hid (∀ V g W, Ob V g ⟨A, B, []⟩ 1073741824 W → Calls Try.prog 24 #[.pointer (some ⟨g, 0, none⟩)] W fun e w' => e = .returned (.int .i64 0) ∧ Ob V g ⟨B, A, []⟩ 1073741824 w') := fun V g W h => h.fit (by rw [us]; omega) (fun S q => swap_any S g _ _ _ q)
  have H5 : Hid (∀ V g W, Ob V g ⟨B, A, []⟩ 1073741824 W → Calls Try.prog 24 #[.pointer (some ⟨g, 0, none⟩)] W fun e w' => e = .returned (.int .i64 0) ∧ Ob V g ⟨A, B, []⟩ 1073741824 w') := fun V g W h => h.fit (by rw [us]; omega) (fun S q => swap_any S g _ _ _ q)
  have H6 : Hid (∀ V g W, Ob V g ⟨A, B, []⟩ 1073741824 W → Calls Try.prog 23 #[.pointer (some ⟨g, 0, none⟩)] W fun e w' => e = .returned (.int .i64 0) ∧ Ob V g ⟨A, A, []⟩ 1073741824 w') := fun V g W h => h.fit (by rw [us]; omega) (fun S q => put_any S g _ _ _ q)
  have H7 : Hid (∀ V g W, Ob V g ⟨A, A, []⟩ 1073741824 W → Calls Try.prog 25 #[.pointer (some ⟨g, 0, none⟩)] W fun e w' => e = .returned (.int .i64 0) ∧ Ob V g ⟨A, A, []⟩ 1073741824 w') := fun V g W h => h.fit (by rw [us]; omega) (fun S q => get_any S g _ _ _ q)
  have ea : Sc.bs A = a := by rw [← hA]; exact Sc.bs_data a
  have eb : Sc.bs B = b := by rw [← hBl]; exact Sc.bs_data b
  have H8 : Hid (∀ V g W, Ob V g ⟨B, A, []⟩ 1073741824 W → (Calls Try.prog 17 #[.pointer (some ⟨g, 0, none⟩)] W fun e w' => e = .returned (.string b) ∧ W = w') ∧ (Calls Try.prog 18 #[.pointer (some ⟨g, 0, none⟩)] W fun e w' => e = .returned (.string a) ∧ W = w')) := fun V g W h => ⟨h.pattern b eb, h.hold a ea⟩
  have H9 : Hid (∀ V g W, Ob V g ⟨A, A, []⟩ 1073741824 W → (Calls Try.prog 17 #[.pointer (some ⟨g, 0, none⟩)] W fun e w' => e = .returned (.string a) ∧ W = w') ∧ (Calls Try.prog 18 #[.pointer (some ⟨g, 0, none⟩)] W fun e w' => e = .returned (.string a) ∧ W = w')) := fun V g W h => ⟨h.pattern a ea, h.hold a ea⟩
  clear hA hBl la lb us ea eb
  go_enter Try.func6, Try.ntmps6
  go_wp2_with (first
    | (go_at_call 16; refine HB.out.mono ?_; rintro e w1 ⟨rfl, hw⟩; have K0 : Hid (Below w.heap.size w w1) := hw; clear hw)
    | (go_at_call 9; refine (HN.out _).mono ?_; rintro e w2 ⟨rfl, h1⟩; (generalize hg : w1.heap.size = g at *); have HG : Hid (w1.heap.size = g) := hg; clear hg; have K1 : Hid (Ob w1 g .nil 1073741824 w2) := h1; clear h1)
    | (go_at_call 22; refine (H3.out _ _ _ K3.out).mono ?_; rintro e w5 ⟨rfl, h1⟩; have K4 : Hid (Ob w1 g ⟨A, B, []⟩ 1073741824 w5) := h1; clear h1)
    | (go_at_call 22; refine (H1.out _ _ _ K1.out).mono ?_; rintro e w3 ⟨rfl, h1⟩; have K2 : Hid (Ob w1 g ⟨B, [], []⟩ 1073741824 w3) := h1; clear h1)
    | (go_at_call 23; refine (H6.out _ _ _ K6.out).mono ?_; rintro e w8 ⟨rfl, h1⟩; have K7 : Hid (Ob w1 g ⟨A, A, []⟩ 1073741824 w8) := h1; clear h1)
    | (go_at_call 23; refine (H2.out _ _ _ K2.out).mono ?_; rintro e w4 ⟨rfl, h1⟩; have K3 : Hid (Ob w1 g ⟨B, B, []⟩ 1073741824 w4) := h1; clear h1)
    | (go_at_call 24; refine (H5.out _ _ _ K5.out).mono ?_; rintro e w7 ⟨rfl, h1⟩; have K6 : Hid (Ob w1 g ⟨A, B, []⟩ 1073741824 w7) := h1; clear h1)
    | (go_at_call 24; refine (H4.out _ _ _ K4.out).mono ?_; rintro e w6 ⟨rfl, h1⟩; have K5 : Hid (Ob w1 g ⟨B, A, []⟩ 1073741824 w6) := h1; clear h1)
    | (go_at_call 25; refine (H7.out _ _ _ K7.out).mono ?_; rintro e w9 ⟨rfl, h1⟩; have K8 : Hid (Ob w1 g ⟨A, A, []⟩ 1073741824 w9) := h1; clear h1)
    | (go_at_call 17; refine (H9.out _ _ _ K8.out).1.mono ?_; rintro e wx ⟨rfl, rfl⟩)
    | (go_at_call 17; refine (H8.out _ _ _ K5.out).1.mono ?_; rintro e wx ⟨rfl, rfl⟩)
    | (go_at_call 18; refine (H9.out _ _ _ K8.out).2.mono ?_; rintro e wx ⟨rfl, rfl⟩)
    | (go_at_call 18; refine (H8.out _ _ _ K5.out).2.mono ?_; rintro e wx ⟨rfl, rfl⟩))
  clear HB HN H1 H2 H3 H4 H5 H6 H7 H8 H9 K1 K2 K3 K4 K5 K6 K7
  go_loopw [7, 8] (fun av nv wr => ∃ (k : Nat) (X P : List UInt8), nv = .int .i64 (k : Int) ∧ av = .string (Sc.bs X) ∧ k + P.length ≤ a.size ∧ Hid (X ++ P = A) ∧ Hid (Ob w1 g ⟨P, A, []⟩ 1073741824 wr)) (fun _ nv _ => a.size + 1 - (intOf nv).toNat)
  case atStart => exact ⟨0, [], A, rfl, rfl, by have := HT.out.2; omega, by exact rfl, K8⟩
  case round =>
    obtain ⟨k, X, P, rfl, rfl, hk, HX, HO⟩ := hrel
    have hk1 : (k : Int) ≤ (a.size : Int) := by omega
    have HF : Hid (Calls Try.prog 15 #[.pointer (some ⟨g, 0, none⟩)] wr fun e w' => e = .returned (.tuple #[.string (Sc.bs (Sc.fst P)), .bool (Sc.lf P).isSome]) ∧ Ob w1 g ⟨P, A, []⟩ 1073741824 w') := HO.out.first
    have HD : Hid (∀ W, Ob w1 g ⟨P, A, []⟩ 1073741824 W → Calls Try.prog 26 #[.pointer (some ⟨g, 0, none⟩)] W fun e w' => e = .returned (.tuple #[.bool (Sc.lf P).isSome, .int .i64 0]) ∧ Ob w1 g ⟨Sc.rst P, A, []⟩ 1073741824 w') := fun W h => h.drop
    clear HO
    have hXP : X.length + P.length = a.size := by
      have := congrArg List.length HX.out
      have := HT.out.2
      simp only [List.length_append] at *
      omega
    have z1 : (Sc.bs X).size ≤ 134217728 := by rw [Sc.bs_size]; omega
    have z2 : (Sc.bs P).size ≤ 134217728 := by rw [Sc.bs_size]; omega
    have z3 : (Sc.bs (Sc.fst P)).size ≤ 134217728 := by rw [Sc.bs_size]; have := Sc.fst_len P; omega
    clear hXP
    cases hlf : (Sc.lf P).isSome
    · rw [hlf] at HF HD
      obtain ⟨e1, e2⟩ := Sc.lf_none hlf
      rw [e1] at HF
      rw [e2] at HD
      have HE : Hid (Sc.bs X ++ Sc.bs P = a) := by show _ = _; rw [Sc.bs_append, HX.out, ← HT.out.1]; exact Sc.bs_data a
      have hE := HE.out
      clear hlf e1 e2 HE
      have HP : Hid (∀ W, Ob w1 g ⟨[], A, []⟩ 1073741824 W → Calls Try.prog 17 #[.pointer (some ⟨g, 0, none⟩)] W fun e w' => e = .returned (.string ⟨#[]⟩) ∧ W = w') := fun W h => h.pattern ⟨#[]⟩ rfl
      go_wp2_with (first
        | (go_at_call 15; refine HF.out.mono ?_; rintro e x1 ⟨rfl, h1⟩; have L1 : Hid (Ob w1 g ⟨P, A, []⟩ 1073741824 x1) := h1; clear h1)
        | (go_at_call 26; refine (HD.out _ L1.out).mono ?_; rintro e x2 ⟨rfl, h1⟩; have L2 : Hid (Ob w1 g ⟨[], A, []⟩ 1073741824 x2) := h1; clear h1)
        | (go_at_call 17; refine (HP.out _ L2.out).mono ?_; rintro e wx ⟨rfl, rfl⟩))
      go_ret
      exact ⟨rfl, K0.out.trans (L2.out.below.mono (by have := HG.out; have := K0.out.size; omega))⟩
    · rw [hlf] at HF HD
      have hp := Sc.lf_parts hlf
      have hpl : P.length = (Sc.fst P).length + 1 + (Sc.rst P).length := by
        have := congrArg List.length hp
        simp only [List.length_append, List.length_cons] at this
        omega
      have HE : Hid (Sc.bs X ++ Sc.bs (Sc.fst P) ++ ⟨#[10]⟩ = Sc.bs (X ++ Sc.fst P ++ [10])) := by
        show _ = _
        rw [← Sc.bs_append, ← Sc.bs_append]
        rfl
      have HX' : Hid (X ++ Sc.fst P ++ [10] ++ Sc.rst P = A) := by
        show _ = _
        rw [← HX.out]
        conv => rhs; rw [hp]
        simp
      clear hlf hp HX
      have hk2 : k + 1 + (Sc.rst P).length ≤ a.size := by omega
      clear hpl
      generalize Sc.fst P = F at *
      generalize Sc.rst P = R at *
      go_wp2_with (first
        | (go_at_call 15; refine HF.out.mono ?_; rintro e x1 ⟨rfl, h1⟩; have L1 : Hid (Ob w1 g ⟨P, A, []⟩ 1073741824 x1) := h1; clear h1)
        | (go_at_call 26; refine (HD.out _ L1.out).mono ?_; rintro e x2 ⟨rfl, h1⟩; have L2 : Hid (Ob w1 g ⟨R, A, []⟩ 1073741824 x2) := h1; clear h1))
      go_roundw
      case rel => exact ⟨k + 1, X ++ F ++ [10], R, by go_num, by rw [HE.out], hk2, HX', L2⟩
      case measure => simp [intOf]; omega
theorem law_lines (a b : ByteArray) (w : World) (ha : a.size ≤ maxLen) (hb : b.size ≤ maxLen) :
    Calls Try.prog 6 #[.string a, .string b] w fun e w' => e = .returned (.bool true) ∧ Below w.heap.size w w' := by
  by_cases h : 134217728 < a.size ∨ 134217728 < b.size
  · exact lines_great a b w ha hb h
  · exact lines_small a b w (by omega) (by omega)
end Go.Proofs.Ytngmaijfahjfcaa
