/- What sets.readClass and sets.readItem answer, classes and all. -/
import Derived.Test.YtmlpfgfpmbnbeaaSClass
import Derived.Test.YtmlpfgfpmbnbeaaLibs
import Derived.Lib.IndexMore
namespace Go.Proofs.Ytmlpfgfpmbnbeaa
open Go.RowKit

namespace St
/-- Where a class's end stands, from k on. -/
def endC (s : ByteArray) : Nat → Nat → Option Nat
  | 0, _ => none
  | f + 1, k => if pre2 s k 58 93 then some k else endC s f (k + 1)
theorem endC_none {s : ByteArray} : ∀ {f k : Nat}, endC s f k = none → ∀ j, k ≤ j → j < k + f → pre2 s j 58 93 = false
  | 0, k, _, j, h1, h2 => by omega
  | f + 1, k, h, j, h1, h2 => by
    rw [endC] at h
    split at h
    · cases h
    · rename_i hp
      by_cases e : j = k
      · subst e; simpa using hp
      · exact endC_none h j (by omega) (by omega)
theorem endC_some {s : ByteArray} : ∀ {f k m : Nat}, endC s f k = some m → k ≤ m ∧ pre2 s m 58 93 = true ∧ ∀ j, k ≤ j → j < m → pre2 s j 58 93 = false
  | 0, k, m, h => by cases h
  | f + 1, k, m, h => by
    rw [endC] at h
    split at h
    · rename_i hp
      injection h with h
      subst h
      exact ⟨Nat.le_refl _, hp, fun j h1 h2 => by omega⟩
    · rename_i hp
      obtain ⟨h1, h2, h3⟩ := endC_some h
      refine ⟨by omega, h2, fun j h4 h5 => ?_⟩
      by_cases e : j = k
      · subst e; simpa using hp
      · exact h3 j (by omega) h5
/-- The bytes of s from a up to b. -/
def cutL (s : ByteArray) (a b : Nat) : List UInt8 := (s.data.toList.drop a).take (b - a)
/-- A class at i: its set, the place behind it (or of the fault), and whether it is one. -/
def clsI (s : ByteArray) (i : Nat) : (Nat → Bool) × Nat × Bool :=
  match endC s s.size (i + 2) with
  | none => (inL [], i, false)
  | some k => if clsB (cutL s (i + 2) k) then (clsV (cutL s (i + 2) k), k + 2, true) else (inL [], i, false)
/-- An item at i. -/
def itemA (s : ByteArray) (i : Nat) : (Nat → Bool) × Nat × Bool := if pre2 s i 91 58 then clsI s i else itemP s i

theorem occ_pre (s : ByteArray) (a j : Nat) : Lib.occAt (s.data.toList.drop a) [58, 93] j = pre2 s (a + j) 58 93 := by
  unfold Lib.occAt pre2
  rw [List.drop_drop, bt_drop s (a + j), bt_drop1 s (a + j)]
  cases s.data.toList.drop (a + j) with
  | nil => rfl
  | cons x r =>
    cases r with
    | nil => simp [List.isPrefixOf]
    | cons y r =>
      simp only [List.isPrefixOf, List.getElem?_cons_zero, List.getElem?_cons_succ, Option.map_some, Option.getD_some, Bool.and_true]
      rw [u8_beq, u8_beq]
      rw [Bool.eq_iff_iff]
      simp only [Bool.and_eq_true, beq_iff_eq]
      constructor <;> rintro ⟨h1, h2⟩ <;> exact ⟨h1.symm, h2.symm⟩
theorem cut_none {s : ByteArray} {a : Nat} (h : endC s s.size a = none) : (Lib.cut (s.data.toList.drop a) [58, 93]).2.2 = false := by
  have h1 : Lib.index (s.data.toList.drop a) [58, 93] = -1 := by
    apply Lib.index_none
    intro j hj
    rw [occ_pre]
    by_cases hl : j < s.size
    · exact endC_none h _ (by omega) (by omega)
    · unfold pre2
      rw [bt_out (s := s) (k := a + j) (by omega)]; rfl
  unfold Lib.cut
  rw [h1]
  rfl
theorem cut_some {s : ByteArray} {a k : Nat} (h : endC s s.size a = some k) : (Lib.cut (s.data.toList.drop a) [58, 93]).2.2 = true ∧ (Lib.cut (s.data.toList.drop a) [58, 93]).1 = cutL s a k := by
  obtain ⟨h1, h2, h3⟩ := endC_some h
  have hk := pre2_room h2 (by decide) (by decide)
  have h4 : Lib.index (s.data.toList.drop a) [58, 93] = ((k - a : Nat) : Int) := by
    apply Lib.index_first
    · rw [List.length_drop, Ln.szL]; omega
    · rw [occ_pre, show a + (k - a) = k by omega]; exact h2
    · intro j hj
      rw [occ_pre]
      exact h3 _ (by omega) (by omega)
  unfold Lib.cut
  rw [h4, if_pos (by omega)]
  exact ⟨rfl, by unfold cutL; simp⟩
end St

/-- The library's own variable holds some number. -/
def MaxL (w : World) : Prop := ∃ m, w.cell? ⟨0, 0, none⟩ = some (.int .i64 m)
theorem MaxL.under {w w' : World} (h : MaxL w) (hb : Below w.heap.size w w') : MaxL w' := by
  obtain ⟨m, hm⟩ := h
  exact ⟨m, (hb.cell (p := ⟨0, 0, none⟩) (block_lt_of_cell hm)).trans hm⟩
theorem cutS_any (X : ByteArray) (w : World) (hX : X.size < 4294967281) (hm : MaxL w) :
    Calls Try.prog 54 #[.string X, .string ⟨#[58, 93]⟩] w fun e w' => e = .returned (.tuple #[.string ⟨(Lib.cut X.data.toList [58, 93]).1.toArray⟩, .string ⟨(Lib.cut X.data.toList [58, 93]).2.1.toArray⟩, .bool (Lib.cut X.data.toList [58, 93]).2.2]) ∧ Below w.heap.size w w' := by
  obtain ⟨m, hm⟩ := hm
  refine (Any.strings_Cut Try.lays145 X ⟨#[58, 93]⟩ m w hX hm).mono ?_
  rintro e w' ⟨he, n, rfl⟩
  exact ⟨he, Below.drewN (Below.refl _ _) n⟩

set_option maxRecDepth 100000 in
set_option maxHeartbeats 2000000 in
theorem readClass_any (s : ByteArray) (i : Nat) (w : World) (hs : s.size < 4294967281) (hi : i + 2 ≤ s.size) (hm : MaxL w) :
    Calls Try.prog 46 #[.string s, .int .i64 (i : Int)] w fun e w' => e = .returned (.tuple #[St.setV (St.clsI s i).1, .int .i64 ((St.clsI s i).2.1 : Nat), .bool (St.clsI s i).2.2]) ∧ Below w.heap.size w w' := by
  have hXd : (s.extract (i + 2) s.size).data.toList = s.data.toList.drop (i + 2) := by
    simp only [ByteArray.data_extract, Array.toList_extract, List.extract_eq_take_drop]
    rw [List.take_of_length_le (by rw [List.length_drop, Ln.szL]; exact Nat.le_refl _)]
  have hXs : (s.extract (i + 2) s.size).size = s.size - (i + 2) := by rw [ByteArray.size_extract]; omega
  have HCut : Hid (∀ w1, Below w.heap.size w w1 → Calls Try.prog 54 #[.string (s.extract (i + 2) s.size), .string ⟨#[58, 93]⟩] w1 fun e w' => e = .returned (.tuple #[.string ⟨(Lib.cut (s.data.toList.drop (i + 2)) [58, 93]).1.toArray⟩, .string ⟨(Lib.cut (s.data.toList.drop (i + 2)) [58, 93]).2.1.toArray⟩, .bool (Lib.cut (s.data.toList.drop (i + 2)) [58, 93]).2.2]) ∧ Below w1.heap.size w1 w') := fun w1 hb => by
    have h := cutS_any (s.extract (i + 2) s.size) w1 (by omega) (hm.under hb)
    rwa [hXd] at h
  obtain ⟨E, hE⟩ : ∃ E, St.clsI s i = E := ⟨_, rfl⟩
  rw [hE]
  have HE : Hid (St.clsI s i = E) := hE
  clear hE hXd
  unfold St.clsI at HE
  have hb0 : Below w.heap.size w (w.alloc (.cells #[.int .u64 0, .int .u64 0, .int .u64 0, .int .u64 0] 25)) := (Below.refl _ _).alloc (Nat.le_refl _) _
  have A0 := atS0 w
  have hnl : (Lib.cut (s.data.toList.drop (i + 2)) [58, 93]).1.length ≤ s.size := by
    unfold Lib.cut
    split <;> simp <;> omega
  cases hen : St.endC s s.size (i + 2) with
  | none =>
    rw [hen] at HE
    have hc := St.cut_none hen
    rw [hc] at HCut
    have hre := HE.out
    simp only at hre
    subst hre
    obtain ⟨NM, hNM⟩ : ∃ NM : ByteArray, NM = ⟨(Lib.cut (s.data.toList.drop (i + 2)) [58, 93]).1.toArray⟩ := ⟨_, rfl⟩
    have hNs : NM.size ≤ maxLen := by rw [hNM]; unfold maxLen; simp [ByteArray.size]; omega
    rw [← hNM] at HCut
    generalize (⟨(Lib.cut (s.data.toList.drop (i + 2)) [58, 93]).2.1.toArray⟩ : ByteArray) = AF at *
    have HCl : Hid (∀ w1, Calls Try.prog 9 #[.string NM] w1 fun e w' => e = .returned (.tuple #[St.setV (St.clsV NM.data.toList), .bool (St.clsB NM.data.toList)]) ∧ Below w1.heap.size w1 w') := fun w1 => class_any NM w1 hNs
    generalize St.clsV NM.data.toList = q at *
    generalize St.clsB NM.data.toList = kn at *
    clear hNM hNs hc hen HE hnl
    simp only [St.setV] at HCl
    go_enter Try.func46, Try.ntmps46
    go_wp2_with fail
    refine (HCut.out _ hb0).mono ?_
    rintro x w1 ⟨rfl, hb1⟩
    have S1 := A0.under hb1
    have hB1 := Below.more hb0 hb1 hb0.size
    clear hb1
    go_wp2_with fail
    refine (HCl.out _).mono ?_
    rintro x w2 ⟨rfl, hb2⟩
    have S2 := S1.under hb2
    have hB2 := Below.more hB1 hb2 hB1.size
    clear hb2 S1
    have hlt := S2.lt
    obtain ⟨r0, r1, r2, r3⟩ := S2.cells
    have f0 := S2.frozen 0
    have f1 := S2.frozen 1
    have f2 := S2.frozen 2
    have f3 := S2.frozen 3
    go_wp2_with fail
    have hB3 := putZ_below hB2 (Nat.le_refl _)
    exact bodyPost_ret (results_set3 rfl _ _ w.heap.size (St.inL []) rfl (S2.putZ.alloc _)) rfl ⟨rfl, hB3.alloc hB3.size _⟩
  | some k =>
    rw [hen] at HE
    obtain ⟨hc, hc1⟩ := St.cut_some hen
    have hk := St.endC_some hen
    have hk2 := St.pre2_room hk.2.1 (by decide) (by decide)
    have hlen : (St.cutL s (i + 2) k).length = k - (i + 2) := by
      unfold St.cutL
      rw [List.length_take, List.length_drop, Ln.szL]; omega
    rw [hc, hc1] at HCut
    simp only at HE
    obtain ⟨NM, hNM⟩ : ∃ NM : ByteArray, NM = ⟨(St.cutL s (i + 2) k).toArray⟩ := ⟨_, rfl⟩
    have hNL : NM.data.toList = St.cutL s (i + 2) k := by rw [hNM]
    have hNz : NM.size = k - (i + 2) := by rw [← Ln.szL, hNL, hlen]
    have hNs : NM.size ≤ maxLen := by unfold maxLen; omega
    have hik := hk.1
    rw [← hNM] at HCut
    generalize (⟨(Lib.cut (s.data.toList.drop (i + 2)) [58, 93]).2.1.toArray⟩ : ByteArray) = AF at *
    have HCl : Hid (∀ w1, Calls Try.prog 9 #[.string NM] w1 fun e w' => e = .returned (.tuple #[St.setV (St.clsV (St.cutL s (i + 2) k)), .bool (St.clsB (St.cutL s (i + 2) k))]) ∧ Below w1.heap.size w1 w') := fun w1 => by
      have := class_any NM w1 hNs
      rwa [hNL] at this
    generalize St.clsV (St.cutL s (i + 2) k) = q at *
    generalize St.clsB (St.cutL s (i + 2) k) = kn at *
    clear hNM hNs hc hc1 hen hnl hNL hlen hk
    simp only [St.setV] at HCl
    cases kn
    · have hre := HE.out
      simp only [Bool.false_eq_true, if_false] at hre
      subst hre
      go_enter Try.func46, Try.ntmps46
      go_wp2_with fail
      refine (HCut.out _ hb0).mono ?_
      rintro x w1 ⟨rfl, hb1⟩
      have S1 := A0.under hb1
      have hB1 := Below.more hb0 hb1 hb0.size
      clear hb1
      go_wp2_with fail
      refine (HCl.out _).mono ?_
      rintro x w2 ⟨rfl, hb2⟩
      have S2 := S1.under hb2
      have hB2 := Below.more hB1 hb2 hB1.size
      clear hb2 S1
      have hlt := S2.lt
      obtain ⟨r0, r1, r2, r3⟩ := S2.cells
      have f0 := S2.frozen 0
      have f1 := S2.frozen 1
      have f2 := S2.frozen 2
      have f3 := S2.frozen 3
      go_wp2_with fail
      have hB3 := putZ_below hB2 (Nat.le_refl _)
      exact bodyPost_ret (results_set3 rfl _ _ w.heap.size (St.inL []) rfl (S2.putZ.alloc _)) rfl ⟨rfl, hB3.alloc hB3.size _⟩
    · have hre := HE.out
      simp only [if_true] at hre
      subst hre
      go_enter Try.func46, Try.ntmps46
      go_wp2_with fail
      refine (HCut.out _ hb0).mono ?_
      rintro x w1 ⟨rfl, hb1⟩
      have S1 := A0.under hb1
      have hB1 := Below.more hb0 hb1 hb0.size
      clear hb1
      go_wp2_with fail
      refine (HCl.out _).mono ?_
      rintro x w2 ⟨rfl, hb2⟩
      have S2 := S1.under hb2
      have hB2 := Below.more hB1 hb2 hB1.size
      clear hb2 S1
      have hlt := S2.lt
      obtain ⟨r0, r1, r2, r3⟩ := S2.cells
      have f0 := S2.frozen 0
      have f1 := S2.frozen 1
      have f2 := S2.frozen 2
      have f3 := S2.frozen 3
      have HN : Hid (((i : Int) + 2 + ((k - (i + 2) : Nat) : Int) + 2) = ((k + 2 : Nat) : Int)) := by show _ = _; omega
      go_wp2_with fail
      have hB3 := put4_below (q := q) hB2 (Nat.le_refl _)
      refine bodyPost_ret (results_set3 rfl _ _ w.heap.size q rfl ((S2.put (q := q)).alloc _)) rfl ⟨?_, hB3.alloc hB3.size _⟩
      show Ending.returned (.tuple #[St.setV q, .int .i64 ((i : Int) + 2 + ((k - (i + 2) : Nat) : Int) + 2), .bool true]) = _
      rw [HN.out]

set_option maxRecDepth 100000 in
set_option maxHeartbeats 2000000 in
theorem itemA_any (s : ByteArray) (i : Nat) (w : World) (hs : s.size < 4294967281) (hi : i ≤ s.size) (hm : MaxL w) :
    Calls Try.prog 42 #[.string s, .int .i64 (i : Int)] w fun e w' => e = .returned (.tuple #[St.setV (St.itemA s i).1, .int .i64 ((St.itemA s i).2.1 : Nat), .bool (St.itemA s i).2.2]) ∧ Below w.heap.size w w' := by
  cases hp : St.pre2 s i 91 58
  · have e : St.itemA s i = St.itemP s i := by unfold St.itemA; rw [hp]; rfl
    rw [e]
    exact item_any s i w (by omega) hi hp
  · have e : St.itemA s i = St.clsI s i := by unfold St.itemA; rw [hp]; rfl
    rw [e]
    have P1 : Hid (∀ w1, Calls Try.prog 41 #[.string (s.extract i s.size), .string ⟨#[91, 58]⟩] w1 fun e w' => e = .returned (.bool true) ∧ w1 = w') := fun w1 => by
      have := pre2_any s i 91 58 w1 (by omega)
      rwa [show St.pre2 s i (91 : UInt8).toNat (58 : UInt8).toNat = true from hp] at this
    have hi2 := St.pre2_room hp (by decide) (by decide)
    have HRC : Hid (∀ w1, Below w.heap.size w w1 → Calls Try.prog 46 #[.string s, .int .i64 (i : Int)] w1 fun e w' => e = .returned (.tuple #[St.setV (St.clsI s i).1, .int .i64 ((St.clsI s i).2.1 : Nat), .bool (St.clsI s i).2.2]) ∧ Below w1.heap.size w1 w') := fun w1 hb => readClass_any s i w1 hs hi2 (hm.under hb)
    generalize St.clsI s i = E at *
    obtain ⟨q, nx, ok⟩ := E
    simp only [St.setV] at HRC ⊢
    have hb0 : Below w.heap.size w (w.alloc (.cells #[.int .u64 0, .int .u64 0, .int .u64 0, .int .u64 0] 25)) := (Below.refl _ _).alloc (Nat.le_refl _) _
    have A0 := atS0 w
    clear e
    go_enter Try.func42, Try.ntmps42
    go_wp2_with fail
    refine (P1.out _).mono ?_
    rintro x w1 ⟨rfl, rfl⟩
    go_wp2_with fail
    refine (HRC.out _ hb0).mono ?_
    rintro x w2 ⟨rfl, hb2⟩
    have S2 := A0.under hb2
    have hB2 := Below.more hb0 hb2 hb0.size
    clear hb2
    obtain ⟨r0, r1, r2, r3⟩ := S2.cells
    have f0 := S2.frozen 0
    have f1 := S2.frozen 1
    have f2 := S2.frozen 2
    have f3 := S2.frozen 3
    go_wp2_with fail
    exact bodyPost_ret (results_set3 rfl _ _ w.heap.size q rfl (S2.put (q := q))) rfl ⟨rfl, put4_below hB2 (Nat.le_refl _)⟩
end Go.Proofs.Ytmlpfgfpmbnbeaa
