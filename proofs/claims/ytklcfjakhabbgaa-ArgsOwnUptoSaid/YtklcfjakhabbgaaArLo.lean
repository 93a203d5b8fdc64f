/- What (*reading).long does: an option that is spelled out. -/
import Derived.Test.YtklcfjakhabbgaaArIn
import Derived.Test.YtklcfjakhabbgaaLibsB
import Derived.Deep.DeepCutAuto
namespace Go.Proofs.Ytklcfjakhabbgaa
open Go.RowKit

namespace Ar
theorem cut_eq : ∀ l : List UInt8, Lib.cut l [61] = cutEq l
  | [] => rfl
  | c :: r => by
    have ih := cut_eq r
    unfold Lib.cut at ih ⊢
    rw [Lib.index_one] at ih ⊢
    rw [cutEq, ← ih]
    by_cases h : c = 61
    · subst h; rfl
    · rw [if_neg h]
      have hb : (c == 61) = false := beq_eq_false_iff_ne.2 h
      have e1 : Lib.indexByte (c :: r) 61 = if Lib.indexByte r 61 == -1 then -1 else Lib.indexByte r 61 + 1 := by
        show (if (c == 61) = true then (0 : Int) else _) = _
        rw [hb]; rfl
      rw [e1]
      by_cases h1 : 0 ≤ Lib.indexByte r 61
      · obtain ⟨i, hi⟩ : ∃ i : Nat, Lib.indexByte r 61 = i := ⟨_, (Int.toNat_of_nonneg h1).symm⟩
        have hne : ((i : Int) == -1) = false := beq_eq_false_iff_ne.2 (by omega)
        have h2 : (0 : Int) ≤ (i : Int) + 1 := by omega
        have h3 : ((i : Int) + 1).toNat = i + 1 := by omega
        rw [hi, hne]
        simp [h2, h3]
      · have h2 : Lib.indexByte r 61 = -1 := by
          rcases Lib.index_spec r [61] with ⟨q, _⟩ | ⟨i, q, _⟩
          · rw [← Lib.index_one]; exact q
          · rw [Lib.index_one] at q; omega
        simp [h2]
theorem cutEq_len : ∀ l : List UInt8, (cutEq l).2.1.length ≤ l.length
  | [] => Nat.le_refl _
  | c :: r => by
    have := cutEq_len r
    rw [cutEq]
    split
    · simp
    · simp; omega
theorem longF_sz {s : List UInt8} {a : Nat} {x : Av} (h : idxN (bs (cutEq s).1) = 6) : longF s a x = (false, a, x) := by simp [longF, h]
end Ar
theorem cutE_any (s : ByteArray) (w : World) (hm : ∃ m, w.cell? ⟨0, 0, none⟩ = some (.int .i64 m)) (hs : s.size ≤ 67108864) :
    Calls Try.prog 58 #[.string s, .string ⟨#[61]⟩] w fun e w' => e = .returned (.tuple #[.string (Ar.bs (Ar.cutEq s.data.toList).1), .string (Ar.bs (Ar.cutEq s.data.toList).2.1), .bool (Ar.cutEq s.data.toList).2.2]) ∧ Below w.heap.size w w' := by
  obtain ⟨m, hm⟩ := hm
  refine (Any.strings_Cut Try.lays145 s ⟨#[61]⟩ m w (by omega) hm).mono ?_
  rintro e w' ⟨rfl, n, rfl⟩
  refine ⟨?_, below_drewN (Below.refl _ _) n⟩
  rw [← Ar.cut_eq]; rfl

set_option maxRecDepth 100000 in
set_option maxHeartbeats 4000000 in
theorem long_any {w0 W : World} {n0 g B : Nat} {al : Option Addr} {cl : Nat} {L : List ByteArray} {at' : Nat} {x : Ar.Av} {vs vn : Value} (h : RdM w0 n0 g B al cl L at' x vs vn W) (s : ByteArray) (hs : s.size ≤ 2097152) (hsc : x.sc.length ≤ 131072) (hm : ∃ m, w0.cell? ⟨0, 0, none⟩ = some (.int .i64 m)) (hg0 : 0 < n0) :
    Calls Try.prog 52 #[.pointer (some ⟨g, 0, none⟩), .string s] W fun e w' => e = .returned (.bool (Ar.longF s.data.toList at' x).1) ∧ ∃ vs', RdM w0 n0 g B al cl L (Ar.longF s.data.toList at' x).2.1 (Ar.longF s.data.toList at' x).2.2 vs' vn w' := by
  have HMX : Hid (∃ m, W.cell? ⟨0, 0, none⟩ = some (.int .i64 m)) := by
    obtain ⟨m, hm⟩ := hm
    exact ⟨m, (h.below.cell (p := ⟨0, 0, none⟩) hg0).trans hm⟩
  clear hm hg0
  obtain ⟨Y, hY⟩ : ∃ Y, Y = Ar.longF s.data.toList at' x := ⟨_, rfl⟩
  have HY : Hid _ := hY
  rw [← hY]
  clear hY
  have HC : Hid _ := cutE_any s W HMX.out (by omega)
  have hv := Ar.cutEq_len s.data.toList
  rw [Ar.szL] at hv
  unfold Ar.longF at HY
  generalize Ar.cutEq s.data.toList = C at HY HC hv
  obtain ⟨nm, vl, hs2⟩ := C
  have hlt := h.lt
  have HH : Hid _ := h
  clear h HMX
  go_enter Try.func52, Try.ntmps52
  go_upto_region 2 with (go_at_call 58; refine Calls.mono HC.out ?_; rintro e w1 ⟨rfl, hb1⟩; have HR1 : Hid _ := HH.out.still hb1; clear hb1)
  clear HH HC hlt
  have hlt := HR1.out.lt
  have g2 : w1.cell? ⟨g, 2, none⟩ = some (.slice (some ⟨B + 11, 0, none⟩) 6 6) := HR1.out.cell 2
  have HI : Hid (Calls Try.prog 59 #[.slice (some ⟨B + 11, 0, none⟩) 6 6, .func (.func 60) #[] #[.pointer (some ⟨w1.heap.size, 0, none⟩)]] (w1.alloc (.cells #[.string (Ar.bs nm)] 9)) _) := ixn_any B w1.heap.size (Ar.bs nm) _ (cell_of_row _ _ _ _ _ _ (heap_alloc_new _ _)) (by simp) (HR1.out.kt.below (alloc_below _ _))
  have HK : Hid (ixI (fun k => Ar.memN (Ar.bs nm) (Ar.namK k)) = if Ar.idxN (Ar.bs nm) < 6 then ((Ar.idxN (Ar.bs nm) : Nat) : Int) else -1) := by show _ = _; rfl
  have hm6 : Ar.idxN (Ar.bs nm) ≤ 6 := Ar.fst6_le _
  rw [HK.out] at HI
  clear HK
  generalize Ar.idxN (Ar.bs nm) = m at HI HY hm6
  go_upto_region 3 with (go_at_call 59; refine Calls.mono HI.out ?_; rintro e w2 ⟨rfl, hb2⟩; have HR2 : Hid _ := (HR1.out.alloc _).still hb2; clear hb2)
  clear g2 HI HR1 hlt
  have hlt := HR2.out.lt
  match m, hm6 with
  | 0, _ =>
    have c0 : w2.cell? ⟨B + 11, 0, none⟩ = some (.string (Ar.letK 0)) := HR2.out.kt.cell 0 0 (by decide) (by decide)
    have c1 : w2.cell? ⟨B + 11, 1, none⟩ = some (.slice (some ⟨B + 2 * 0, 0, none⟩) (Ar.namK 0).length (Ar.namK 0).length) := HR2.out.kt.cell 0 1 (by decide) (by decide)
    have c2 : w2.cell? ⟨B + 11, 2, none⟩ = some (.int .i64 (Ar.valK 0)) := HR2.out.kt.cell 0 2 (by decide) (by decide)
    have c3 : w2.cell? ⟨B + 11, 3, none⟩ = some (doK B 0) := HR2.out.kt.cell 0 3 (by decide) (by decide)
    have g2 : w2.cell? ⟨g, 2, none⟩ = some (.slice (some ⟨B + 11, 0, none⟩) 6 6) := HR2.out.cell 2
    simp only [doK, fnB, Ar.letK, Ar.valK, Ar.namK, List.length_cons, List.length_nil, Nat.zero_add, Nat.reduceAdd, Nat.reduceMul, Nat.add_zero] at c0 c1 c2 c3
    cases hs2
    case false =>
      have HY2 : Hid (Y = ((Ar.dov 0 (Ar.bs vl) x).1, at', (Ar.dov 0 (Ar.bs vl) x).2)) := by show _ = _; rw [HY.out, if_neg (by omega), if_neg (by simp)]
      have HDo : Hid (∀ V : World, RdM w0 n0 g B al cl L at' x vs vn V → Calls Try.prog 49 #[.pointer (some ⟨g, 3, none⟩), .string (Ar.bs vl), .pointer (some ⟨B + 1, 0, none⟩)] V fun e w' => e = .returned (.bool true) ∧ ∃ vs', RdM w0 n0 g B al cl L at' (Ar.dov 0 (Ar.bs vl) x).2 vs' vn w') := fun V hV => does0 hV (Ar.bs vl)
      clear HY
      go_wp2_with fail
      go_region_with (go_at_call 49; refine Calls.mono (HDo.out _ (by first | exact (HR2.out.alloc _) | exact ((HR2.out.alloc _).still (drewN_below _ _)) | exact (((HR2.out.alloc _).still (drewN_below _ _)).still (drewN_below _ _)))) ?_; rintro e w3 ⟨rfl, vs2, hr2⟩; have HR3 : Hid _ := hr2; clear hr2)
      all_goals
        go_simp
        go_wp2_with fail
        go_ret
        exact ⟨ret_bool (by rw [HY2.out]; rfl), vs2, by rw [HY2.out]; exact HR3.out⟩
    case true =>
      have HY2 : Hid (Y = (false, at', x)) := by show _ = _; rw [HY.out, if_neg (by omega), if_pos (by simp)]
      clear HY
      go_wp2_with fail
      go_ret
      exact ⟨ret_bool (by rw [HY2.out]), vs, by rw [HY2.out]; first | exact (HR2.out.alloc _) | exact ((HR2.out.alloc _).still (drewN_below _ _)) | exact (((HR2.out.alloc _).still (drewN_below _ _)).still (drewN_below _ _))⟩
  | 1, _ =>
    have c0 : w2.cell? ⟨B + 11, 4, none⟩ = some (.string (Ar.letK 1)) := HR2.out.kt.cell 1 0 (by decide) (by decide)
    have c1 : w2.cell? ⟨B + 11, 5, none⟩ = some (.slice (some ⟨B + 2 * 1, 0, none⟩) (Ar.namK 1).length (Ar.namK 1).length) := HR2.out.kt.cell 1 1 (by decide) (by decide)
    have c2 : w2.cell? ⟨B + 11, 6, none⟩ = some (.int .i64 (Ar.valK 1)) := HR2.out.kt.cell 1 2 (by decide) (by decide)
    have c3 : w2.cell? ⟨B + 11, 7, none⟩ = some (doK B 1) := HR2.out.kt.cell 1 3 (by decide) (by decide)
    have g2 : w2.cell? ⟨g, 2, none⟩ = some (.slice (some ⟨B + 11, 0, none⟩) 6 6) := HR2.out.cell 2
    simp only [doK, fnB, Ar.letK, Ar.valK, Ar.namK, List.length_cons, List.length_nil, Nat.zero_add, Nat.reduceMul] at c0 c1 c2 c3
    cases hs2
    case false =>
      have HY2 : Hid (Y = ((Ar.dov 1 (Ar.bs vl) x).1, at', (Ar.dov 1 (Ar.bs vl) x).2)) := by show _ = _; rw [HY.out, if_neg (by omega), if_neg (by simp)]
      have HDo : Hid (∀ V : World, RdM w0 n0 g B al cl L at' x vs vn V → Calls Try.prog 49 #[.pointer (some ⟨g, 3, none⟩), .string (Ar.bs vl), .pointer (some ⟨B + 3, 0, none⟩)] V fun e w' => e = .returned (.bool true) ∧ ∃ vs', RdM w0 n0 g B al cl L at' (Ar.dov 1 (Ar.bs vl) x).2 vs' vn w') := fun V hV => does1 hV (Ar.bs vl)
      clear HY
      go_wp2_with fail
      go_region_with (go_at_call 49; refine Calls.mono (HDo.out _ (by first | exact (HR2.out.alloc _) | exact ((HR2.out.alloc _).still (drewN_below _ _)) | exact (((HR2.out.alloc _).still (drewN_below _ _)).still (drewN_below _ _)))) ?_; rintro e w3 ⟨rfl, vs2, hr2⟩; have HR3 : Hid _ := hr2; clear hr2)
      all_goals
        go_simp
        go_wp2_with fail
        go_ret
        exact ⟨ret_bool (by rw [HY2.out]; rfl), vs2, by rw [HY2.out]; exact HR3.out⟩
    case true =>
      have HY2 : Hid (Y = (false, at', x)) := by show _ = _; rw [HY.out, if_neg (by omega), if_pos (by simp)]
      clear HY
      go_wp2_with fail
      go_ret
      exact ⟨ret_bool (by rw [HY2.out]), vs, by rw [HY2.out]; first | exact (HR2.out.alloc _) | exact ((HR2.out.alloc _).still (drewN_below _ _)) | exact (((HR2.out.alloc _).still (drewN_below _ _)).still (drewN_below _ _))⟩
  | 2, _ =>
    have c0 : w2.cell? ⟨B + 11, 8, none⟩ = some (.string (Ar.letK 2)) := HR2.out.kt.cell 2 0 (by decide) (by decide)
    have c1 : w2.cell? ⟨B + 11, 9, none⟩ = some (.slice (some ⟨B + 2 * 2, 0, none⟩) (Ar.namK 2).length (Ar.namK 2).length) := HR2.out.kt.cell 2 1 (by decide) (by decide)
    have c2 : w2.cell? ⟨B + 11, 10, none⟩ = some (.int .i64 (Ar.valK 2)) := HR2.out.kt.cell 2 2 (by decide) (by decide)
    have c3 : w2.cell? ⟨B + 11, 11, none⟩ = some (doK B 2) := HR2.out.kt.cell 2 3 (by decide) (by decide)
    have g2 : w2.cell? ⟨g, 2, none⟩ = some (.slice (some ⟨B + 11, 0, none⟩) 6 6) := HR2.out.cell 2
    simp only [doK, fnB, Ar.letK, Ar.valK, Ar.namK, List.length_cons, List.length_nil, Nat.zero_add, Nat.reduceMul] at c0 c1 c2 c3
    cases hs2
    case false =>
      have HY2 : Hid (Y = ((Ar.dov 2 (Ar.bs vl) x).1, at', (Ar.dov 2 (Ar.bs vl) x).2)) := by show _ = _; rw [HY.out, if_neg (by omega), if_neg (by simp)]
      have HDo : Hid (∀ V : World, RdM w0 n0 g B al cl L at' x vs vn V → Calls Try.prog 49 #[.pointer (some ⟨g, 3, none⟩), .string (Ar.bs vl), .pointer (some ⟨B + 5, 0, none⟩)] V fun e w' => e = .returned (.bool true) ∧ ∃ vs', RdM w0 n0 g B al cl L at' (Ar.dov 2 (Ar.bs vl) x).2 vs' vn w') := fun V hV => does2 hV (Ar.bs vl)
      clear HY
      go_wp2_with fail
      go_region_with (go_at_call 49; refine Calls.mono (HDo.out _ (by first | exact (HR2.out.alloc _) | exact ((HR2.out.alloc _).still (drewN_below _ _)) | exact (((HR2.out.alloc _).still (drewN_below _ _)).still (drewN_below _ _)))) ?_; rintro e w3 ⟨rfl, vs2, hr2⟩; have HR3 : Hid _ := hr2; clear hr2)
      all_goals
        go_simp
        go_wp2_with fail
        go_ret
        exact ⟨ret_bool (by rw [HY2.out]; rfl), vs2, by rw [HY2.out]; exact HR3.out⟩
    case true =>
      have HY2 : Hid (Y = (false, at', x)) := by show _ = _; rw [HY.out, if_neg (by omega), if_pos (by simp)]
      clear HY
      go_wp2_with fail
      go_ret
      exact ⟨ret_bool (by rw [HY2.out]), vs, by rw [HY2.out]; first | exact (HR2.out.alloc _) | exact ((HR2.out.alloc _).still (drewN_below _ _)) | exact (((HR2.out.alloc _).still (drewN_below _ _)).still (drewN_below _ _))⟩
  | 3, _ =>
    have c0 : w2.cell? ⟨B + 11, 12, none⟩ = some (.string (Ar.letK 3)) := HR2.out.kt.cell 3 0 (by decide) (by decide)
    have c1 : w2.cell? ⟨B + 11, 13, none⟩ = some (.slice (some ⟨B + 2 * 3, 0, none⟩) (Ar.namK 3).length (Ar.namK 3).length) := HR2.out.kt.cell 3 1 (by decide) (by decide)
    have c2 : w2.cell? ⟨B + 11, 14, none⟩ = some (.int .i64 (Ar.valK 3)) := HR2.out.kt.cell 3 2 (by decide) (by decide)
    have c3 : w2.cell? ⟨B + 11, 15, none⟩ = some (doK B 3) := HR2.out.kt.cell 3 3 (by decide) (by decide)
    have g2 : w2.cell? ⟨g, 2, none⟩ = some (.slice (some ⟨B + 11, 0, none⟩) 6 6) := HR2.out.cell 2
    simp only [doK, fnB, Ar.letK, Ar.valK, Ar.namK, List.length_cons, List.length_nil, Nat.zero_add, Nat.reduceMul] at c0 c1 c2 c3
    cases hs2
    case false =>
      have HY2 : Hid (Y = (false, at', x)) := by show _ = _; rw [HY.out, if_neg (by omega), if_pos (by simp)]
      clear HY
      go_wp2_with fail
      go_ret
      exact ⟨ret_bool (by rw [HY2.out]), vs, by rw [HY2.out]; first | exact (HR2.out.alloc _) | exact ((HR2.out.alloc _).still (drewN_below _ _)) | exact (((HR2.out.alloc _).still (drewN_below _ _)).still (drewN_below _ _))⟩
    case true =>
      have HY2 : Hid (Y = ((Ar.dov 3 (Ar.bs vl) x).1, at', (Ar.dov 3 (Ar.bs vl) x).2)) := by show _ = _; rw [HY.out, if_neg (by omega), if_neg (by simp)]
      have HDo : Hid (∀ V : World, RdM w0 n0 g B al cl L at' x vs vn V → Calls Try.prog 50 #[.pointer (some ⟨g, 3, none⟩), .string (Ar.bs vl), .pointer (some ⟨B + 7, 0, none⟩)] V fun e w' => e = .returned (.bool true) ∧ ∃ vs', RdM w0 n0 g B al cl L at' (Ar.dov 3 (Ar.bs vl) x).2 vs' vn w') := fun V hV => doesP hV (Ar.bs vl) false (B + 7) (cell_of_row _ _ _ _ _ _ hV.kt.p0) (by omega)
      clear HY
      go_wp2_with fail
      go_region_with (go_at_call 50; refine Calls.mono (HDo.out _ (by first | exact (HR2.out.alloc _) | exact ((HR2.out.alloc _).still (drewN_below _ _)) | exact (((HR2.out.alloc _).still (drewN_below _ _)).still (drewN_below _ _)))) ?_; rintro e w3 ⟨rfl, vs2, hr2⟩; have HR3 : Hid _ := hr2; clear hr2)
      all_goals
        go_simp
        go_wp2_with fail
        go_ret
        exact ⟨ret_bool (by rw [HY2.out]; rfl), vs2, by rw [HY2.out]; exact HR3.out⟩
  | 4, _ =>
    have c0 : w2.cell? ⟨B + 11, 16, none⟩ = some (.string (Ar.letK 4)) := HR2.out.kt.cell 4 0 (by decide) (by decide)
    have c1 : w2.cell? ⟨B + 11, 17, none⟩ = some (.slice (some ⟨B + 2 * 4, 0, none⟩) (Ar.namK 4).length (Ar.namK 4).length) := HR2.out.kt.cell 4 1 (by decide) (by decide)
    have c2 : w2.cell? ⟨B + 11, 18, none⟩ = some (.int .i64 (Ar.valK 4)) := HR2.out.kt.cell 4 2 (by decide) (by decide)
    have c3 : w2.cell? ⟨B + 11, 19, none⟩ = some (doK B 4) := HR2.out.kt.cell 4 3 (by decide) (by decide)
    have g2 : w2.cell? ⟨g, 2, none⟩ = some (.slice (some ⟨B + 11, 0, none⟩) 6 6) := HR2.out.cell 2
    simp only [doK, fnB, Ar.letK, Ar.valK, Ar.namK, List.length_cons, List.length_nil, Nat.zero_add, Nat.reduceMul] at c0 c1 c2 c3
    cases hs2
    case false =>
      have HY2 : Hid (Y = (false, at', x)) := by show _ = _; rw [HY.out, if_neg (by omega), if_pos (by simp)]
      clear HY
      go_wp2_with fail
      go_ret
      exact ⟨ret_bool (by rw [HY2.out]), vs, by rw [HY2.out]; first | exact (HR2.out.alloc _) | exact ((HR2.out.alloc _).still (drewN_below _ _)) | exact (((HR2.out.alloc _).still (drewN_below _ _)).still (drewN_below _ _))⟩
    case true =>
      have HY2 : Hid (Y = ((Ar.dov 4 (Ar.bs vl) x).1, at', (Ar.dov 4 (Ar.bs vl) x).2)) := by show _ = _; rw [HY.out, if_neg (by omega), if_neg (by simp)]
      have HDo : Hid (∀ V : World, RdM w0 n0 g B al cl L at' x vs vn V → Calls Try.prog 50 #[.pointer (some ⟨g, 3, none⟩), .string (Ar.bs vl), .pointer (some ⟨B + 9, 0, none⟩)] V fun e w' => e = .returned (.bool true) ∧ ∃ vs', RdM w0 n0 g B al cl L at' (Ar.dov 4 (Ar.bs vl) x).2 vs' vn w') := fun V hV => doesP hV (Ar.bs vl) true (B + 9) (cell_of_row _ _ _ _ _ _ hV.kt.p1) (by omega)
      clear HY
      go_wp2_with fail
      go_region_with (go_at_call 50; refine Calls.mono (HDo.out _ (by first | exact (HR2.out.alloc _) | exact ((HR2.out.alloc _).still (drewN_below _ _)) | exact (((HR2.out.alloc _).still (drewN_below _ _)).still (drewN_below _ _)))) ?_; rintro e w3 ⟨rfl, vs2, hr2⟩; have HR3 : Hid _ := hr2; clear hr2)
      all_goals
        go_simp
        go_wp2_with fail
        go_ret
        exact ⟨ret_bool (by rw [HY2.out]; rfl), vs2, by rw [HY2.out]; exact HR3.out⟩
  | 5, _ =>
    have c0 : w2.cell? ⟨B + 11, 20, none⟩ = some (.string (Ar.letK 5)) := HR2.out.kt.cell 5 0 (by decide) (by decide)
    have c1 : w2.cell? ⟨B + 11, 21, none⟩ = some (.slice (some ⟨B + 2 * 5, 0, none⟩) (Ar.namK 5).length (Ar.namK 5).length) := HR2.out.kt.cell 5 1 (by decide) (by decide)
    have c2 : w2.cell? ⟨B + 11, 22, none⟩ = some (.int .i64 (Ar.valK 5)) := HR2.out.kt.cell 5 2 (by decide) (by decide)
    have c3 : w2.cell? ⟨B + 11, 23, none⟩ = some (doK B 5) := HR2.out.kt.cell 5 3 (by decide) (by decide)
    have g2 : w2.cell? ⟨g, 2, none⟩ = some (.slice (some ⟨B + 11, 0, none⟩) 6 6) := HR2.out.cell 2
    simp only [doK, fnV, Ar.letK, Ar.valK, Ar.namK, List.length_cons, List.length_nil, Nat.zero_add, Nat.reduceMul] at c0 c1 c2 c3
    cases hs2
    case false =>
      have HY2 : Hid (Y = ((Ar.dov 5 (Ar.bs vl) x).1, at', (Ar.dov 5 (Ar.bs vl) x).2)) := by show _ = _; rw [HY.out, if_neg (by omega), if_neg (by simp)]
      have HDo : Hid (∀ V : World, RdM w0 n0 g B al cl L at' x vs vn V → Calls Try.prog 40 #[.pointer (some ⟨g, 3, none⟩), .string (Ar.bs vl)] V fun e w' => e = .returned (.bool (Ar.sfxB (Ar.bs vl))) ∧ ∃ vs', RdM w0 n0 g B al cl L at' (Ar.dov 5 (Ar.bs vl) x).2 vs' vn w') := fun V hV => does5 hV (Ar.bs vl) (by rw [Ar.bs_size]; unfold maxLen; omega)
      clear HY
      go_wp2_with fail
      go_region_with (go_at_call 40; refine Calls.mono (HDo.out _ (by first | exact (HR2.out.alloc _) | exact ((HR2.out.alloc _).still (drewN_below _ _)) | exact (((HR2.out.alloc _).still (drewN_below _ _)).still (drewN_below _ _)))) ?_; rintro e w3 ⟨rfl, vs2, hr2⟩; have HR3 : Hid _ := hr2; clear hr2)
      all_goals
        go_simp
        go_wp2_with fail
        go_ret
        exact ⟨ret_bool (by rw [HY2.out]; rfl), vs2, by rw [HY2.out]; exact HR3.out⟩
    case true =>
      have HY2 : Hid (Y = ((Ar.dov 5 (Ar.bs vl) x).1, at', (Ar.dov 5 (Ar.bs vl) x).2)) := by show _ = _; rw [HY.out, if_neg (by omega), if_neg (by simp)]
      have HDo : Hid (∀ V : World, RdM w0 n0 g B al cl L at' x vs vn V → Calls Try.prog 40 #[.pointer (some ⟨g, 3, none⟩), .string (Ar.bs vl)] V fun e w' => e = .returned (.bool (Ar.sfxB (Ar.bs vl))) ∧ ∃ vs', RdM w0 n0 g B al cl L at' (Ar.dov 5 (Ar.bs vl) x).2 vs' vn w') := fun V hV => does5 hV (Ar.bs vl) (by rw [Ar.bs_size]; unfold maxLen; omega)
      clear HY
      go_wp2_with fail
      go_region_with (go_at_call 40; refine Calls.mono (HDo.out _ (by first | exact (HR2.out.alloc _) | exact ((HR2.out.alloc _).still (drewN_below _ _)) | exact (((HR2.out.alloc _).still (drewN_below _ _)).still (drewN_below _ _)))) ?_; rintro e w3 ⟨rfl, vs2, hr2⟩; have HR3 : Hid _ := hr2; clear hr2)
      all_goals
        go_simp
        go_wp2_with fail
        go_ret
        exact ⟨ret_bool (by rw [HY2.out]; rfl), vs2, by rw [HY2.out]; exact HR3.out⟩
  | 6, _ =>
    have HY2 : Hid (Y = (false, at', x)) := by show _ = _; rw [HY.out, if_pos (by omega)]
    clear HY
    go_wp2_with fail
    go_ret
    exact ⟨ret_bool (by rw [HY2.out]), vs, by rw [HY2.out]; exact HR2.out⟩
end Go.Proofs.Ytklcfjakhabbgaa
