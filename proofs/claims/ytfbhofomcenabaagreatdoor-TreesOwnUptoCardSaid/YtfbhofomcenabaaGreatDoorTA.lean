/- What paths.Name answers: whether a text may be a file's name. What trees of files lean on. Trees of api.File: what they are, and how they lie in memory. What the reference's Name, Target and alone answer of a file. -/
import Derived.Test.YtfbhofomcenabaaGreatDoorChecked
import Derived.Test.YtfbhofomcenabaaGreatDoorPlain
import Derived.WalkKit
import Derived.WalkSpells
import Derived.WalkLawsBesides
import Derived.WalkSmall
import Derived.Laws.IdiomStrings
import Derived.Laws.Rows
import Derived.Lib.Bytes
import Derived.Lib.AppendStr
import Derived.Deep.WholeRow
import Derived.Deep.AppendLies
import Derived.Deep.QuietTactic
import Derived.BigQuiet
namespace Go.Proofs.YtfbhofomcenabaaGreatDoor
open Go.RowKit

theorem ret_bool {a b : Bool} (h : a = b) : Ending.returned (.bool a) = .returned (.bool b) := by rw [h]

set_option maxHeartbeats 400000 in
theorem name_any (s : ByteArray) (w : World) (hs : s.size ≤ maxLen) :
    Calls Tryz.prog 104 #[.string s] w fun e w' => e = .returned (.bool (Pl.nameB s)) ∧ w = w' := by
  unfold maxLen at hs
  by_cases h1 : s.toList = []
  · go_enter Tryz.func104, Tryz.ntmps104
    go_wp2
    go_ret
    exact ⟨ret_bool (Pl.name_empty h1).symm, rfl⟩
  by_cases h2 : (255 : Int) < (s.size : Int)
  · go_enter Tryz.func104, Tryz.ntmps104
    go_wp2
    go_ret
    exact ⟨ret_bool (Pl.name_long h2).symm, rfl⟩
  by_cases h3 : s.toList = [46]
  · go_enter Tryz.func104, Tryz.ntmps104
    go_wp2
    go_ret
    exact ⟨ret_bool (Pl.name_dot h3).symm, rfl⟩
  by_cases h4 : s.toList = [46, 46]
  · go_enter Tryz.func104, Tryz.ntmps104
    go_wp2
    go_ret
    exact ⟨ret_bool (Pl.name_dots h4).symm, rfl⟩
  have H := Pl.name_head h1 h2 h3 h4
  have HH : Hid (Pl.nameB s = s.data.toList.all Pl.okc) := H
  clear H
  have b1 : s.toList.isEmpty = false := by simpa using h1
  have b3 : (s.toList == [46]) = false := by simpa using h3
  have b4 : (s.toList == [46, 46]) = false := by simpa using h4
  clear h1 h3 h4
  go_enter Tryz.func104, Tryz.ntmps104
  go_wp2
  go_loop [21] (fun i => ∃ k : Nat, k ≤ s.size ∧ i = .int .i64 k ∧ (s.data.toList.take k).all Pl.okc = true) (fun i => s.size - (intOf i).toNat)
  case atStart => exact ⟨0, Nat.zero_le _, rfl, rfl⟩
  case round =>
    obtain ⟨k, hk, rfl, ha⟩ := hrel
    by_cases hlt : k < s.size
    · have HA : Hid ((s.data.toList.take k).all Pl.okc = true) := ha
      clear ha
      cases c1 : ((s[k].toNat : Int) == 47)
      · cases c0 : ((s[k].toNat : Int) == 0)
        · have HS := Pl.all_step hlt HA.out c1 c0
          have HT : Hid ((s.data.toList.take (k + 1)).all Pl.okc = true) := HS
          clear HS
          go_wp2
          go_round
          case rel => exact ⟨k + 1, by omega, by go_num, HT.out⟩
          case measure => simp [intOf]; omega
        · have HS := Pl.all_stop hlt (Or.inr c0)
          go_wp2
          go_ret
          exact ⟨ret_bool (by rw [HH.out, HS]), rfl⟩
      · have HS : Hid (s.data.toList.all Pl.okc = false) := Pl.all_stop hlt (Or.inl c1)
        go_wp2
        go_ret
        exact ⟨ret_bool (by rw [HH.out, HS.out]), rfl⟩
    · have HA : Hid ((s.data.toList.take k).all Pl.okc = true) := ha
      clear ha
      go_wp2
      go_ret
      exact ⟨ret_bool (by rw [HH.out, ← HA.out, Pl.take_all s k (by omega)]), rfl⟩
end Go.Proofs.YtfbhofomcenabaaGreatDoor
namespace Go.Proofs.YtfbhofomcenabaaGreatDoor
open Go.RowKit

theorem own_below {w w' : World} {base : Nat} {e : TypeId} {size : Nat} {v : Value} {n : Nat} {xs : List Value} (h : w.ownsRow base e size v n xs) (hb : Below w.heap.size w w') : w'.ownsRow base e size v n xs := by
  refine ⟨h.1, ?_⟩
  rcases h.2 with h2 | ⟨g, cap, cur, hv, hbg, hg, r⟩
  · exact .inl h2
  · exact .inr ⟨g, cap, cur, hv, hbg, by rw [hb.block g (lt_of_block hg)]; exact hg, r⟩
theorem bytes_eq {a b : ByteArray} (h : a.data.toList = b.data.toList) : a = b := by
  cases a; cases b
  simp only [ByteArray.mk.injEq]
  exact Array.toList_inj.1 h
end Go.Proofs.YtfbhofomcenabaaGreatDoor
namespace Go.Proofs.YtfbhofomcenabaaGreatDoor
open Go.RowKit

namespace Ft
/-- A file: its name, kind, data, and the files in it. -/
inductive FT where
  | mk (nm : ByteArray) (k : Nat) (d : ByteArray) (kids : List FT) : FT
def FT.nm : FT → ByteArray | .mk n _ _ _ => n
def FT.k : FT → Nat | .mk _ k _ _ => k
def FT.d : FT → ByteArray | .mk _ _ d _ => d
def FT.kids : FT → List FT | .mk _ _ _ l => l
theorem FT.eta (T : FT) : T = .mk T.nm T.k T.d T.kids := by cases T; rfl
theorem FT.ind {P : FT → Prop} (h : ∀ T : FT, (∀ i (hi : i < T.kids.length), P (T.kids[i])) → P T) : ∀ T, P T
  | .mk nm k d kids => h (.mk nm k d kids) fun i hi =>
    have hd : SizeOf.sizeOf ((FT.mk nm k d kids).kids[i]) < SizeOf.sizeOf (FT.mk nm k d kids) := by
      have h1 : (FT.mk nm k d kids).kids[i] ∈ kids := List.getElem_mem hi
      have h2 := List.sizeOf_lt_of_mem h1
      simp only [FT.mk.sizeOf_spec]
      omega
    FT.ind h _
  termination_by T => SizeOf.sizeOf T
  decreasing_by exact hd
/-- A file's four cells. -/
def fdA (T : FT) (a : Option Addr) (cap : Nat) : Array Value := #[.string T.nm, .int .u8 (T.k : Int), .string T.d, .slice a T.kids.length cap]
def fdV (T : FT) (a : Option Addr) (cap : Nat) : Value := .agg (fdA T a cap)
/-- The four cells from o on, in the block b, are a file's. -/
structure Four (w : World) (b o : Nat) (T : FT) (a : Option Addr) (cap : Nat) : Prop where
  c0 : w.cell? ⟨b, o, none⟩ = some (.string T.nm)
  c1 : w.cell? ⟨b, o + 1, none⟩ = some (.int .u8 (T.k : Int))
  c2 : w.cell? ⟨b, o + 2, none⟩ = some (.string T.d)
  c3 : w.cell? ⟨b, o + 3, none⟩ = some (.slice a T.kids.length cap)
theorem Four.same {w w' : World} {b o : Nat} {T : FT} {a : Option Addr} {cap : Nat} (h : Four w b o T a cap) (hb : w'.heap[b]? = w.heap[b]?) : Four w' b o T a cap := by
  have key : ∀ j, w'.cell? ⟨b, j, none⟩ = w.cell? ⟨b, j, none⟩ := fun j => World.cell?_of_block (w := w) hb
  exact ⟨(key _).trans h.c0, (key _).trans h.c1, (key _).trans h.c2, (key _).trans h.c3⟩
/-- The files of a tree lie at a, in blocks of which P is true. -/
inductive Fd (w : World) (P : Nat → Prop) : FT → Option Addr → Nat → Prop
  | mk {T : FT} {a : Option Addr} {cap : Nat} (vs : Nat → Option Addr × Nat) (len : T.kids.length ≤ 1048576) (nil : a = none → cap = 0) (room : T.kids.length ≤ cap) (most : cap ≤ maxLen)
    (lies : ∀ i (h : i < T.kids.length), ∃ b off, a = some ⟨b, off, none⟩ ∧ P b ∧ Four w b (off + i * 4) (T.kids[i]) (vs i).1 (vs i).2)
    (sub : ∀ i (h : i < T.kids.length), Fd w P (T.kids[i]) (vs i).1 (vs i).2) : Fd w P T a cap
theorem Fd.same {w w' : World} {P Q : Nat → Prop} {T : FT} {a : Option Addr} {cap : Nat} (h : Fd w P T a cap) (hb : ∀ b, P b → w'.heap[b]? = w.heap[b]?) (hQ : ∀ b, P b → Q b) : Fd w' Q T a cap := by
  induction h with
  | mk vs len nil room most lies sub ih =>
    refine .mk vs len nil room most (fun i hi => ?_) (fun i hi => ih i hi)
    obtain ⟨b, off, e, hlt, h9⟩ := lies i hi
    exact ⟨b, off, e, hQ b hlt, h9.same (hb b hlt)⟩
theorem Fd.under {w w' : World} {B : Nat} {T : FT} {a : Option Addr} {cap : Nat} (h : Fd w (· < B) T a cap) (hb : Below B w w') : Fd w' (· < B) T a cap := h.same (fun b hlt => hb.block b hlt) (fun _ h => h)
theorem Fd.mono {w : World} {P Q : Nat → Prop} {T : FT} {a : Option Addr} {cap : Nat} (h : Fd w P T a cap) (hQ : ∀ b, P b → Q b) : Fd w Q T a cap := h.same (fun _ _ => rfl) hQ
theorem Fd.room {w : World} {P : Nat → Prop} {T : FT} {a : Option Addr} {cap : Nat} (h : Fd w P T a cap) : T.kids.length ≤ 1048576 ∧ T.kids.length ≤ cap ∧ cap ≤ maxLen := by
  cases h with | mk vs len nil room most lies sub => exact ⟨len, room, most⟩
/-- The i-th file: where it lies, and the files in it. -/
theorem Fd.kid {w : World} {P : Nat → Prop} {T : FT} {a : Option Addr} {cap : Nat} (h : Fd w P T a cap) {i : Nat} (hi : i < T.kids.length) :
    ∃ b off a' cap', a = some ⟨b, off, none⟩ ∧ P b ∧ Four w b (off + i * 4) (T.kids[i]) a' cap' ∧ Fd w P (T.kids[i]) a' cap' := by
  cases h with
  | mk vs len nil room most lies sub =>
    obtain ⟨b, off, e, hlt, h9⟩ := lies i hi
    exact ⟨b, off, _, _, e, hlt, h9, sub i hi⟩
/-- The block g holds a file. -/
def FileAt (w : World) (g : Nat) (T : FT) (a : Option Addr) (cap : Nat) : Prop := w.heap[g]? = some (.cells (fdA T a cap) 25 (0, 0))
theorem FileAt.lt {w : World} {g : Nat} {T : FT} {a : Option Addr} {cap : Nat} (h : FileAt w g T a cap) : g < w.heap.size := lt_of_block h
theorem FileAt.below {w w' : World} {g B : Nat} {T : FT} {a : Option Addr} {cap : Nat} (h : FileAt w g T a cap) (hb : Below B w w') (hB : g < B) : FileAt w' g T a cap := by
  unfold FileAt; rw [hb.block g hB]; exact h
theorem FileAt.under {w w' : World} {g : Nat} {T : FT} {a : Option Addr} {cap : Nat} (h : FileAt w g T a cap) (hb : Below w.heap.size w w') : FileAt w' g T a cap := h.below hb h.lt
theorem FileAt.alloc {w : World} {g : Nat} {T : FT} {a : Option Addr} {cap : Nat} (h : FileAt w g T a cap) (o : Obj) : FileAt (w.alloc o) g T a cap := h.under ((Below.refl _ _).alloc (Nat.le_refl _) _)
theorem FileAt.four {w : World} {g : Nat} {T : FT} {a : Option Addr} {cap : Nat} (h : FileAt w g T a cap) : Four w g 0 T a cap := by
  constructor <;> rw [cell_of_row w g _ _ _ _ h] <;> rfl
theorem FileAt.frozen {w : World} {g : Nat} {T : FT} {a : Option Addr} {cap : Nat} (h : FileAt w g T a cap) (j : Nat) : w.frozen? ⟨g, j, none⟩ = false := frozen_of_row w g j _ _ h
theorem file_new (w : World) (T : FT) (a : Option Addr) (cap : Nat) : FileAt (w.alloc (.cells (fdA T a cap) 25)) w.heap.size T a cap := heap_alloc_new w _
/-- Are two files one, but for what is in them? -/
def hdr (A B : FT) : Bool := (A.nm.toList == B.nm.toList) && (A.k == B.k && (A.d.toList == B.d.toList))
/-- Are two files one? -/
def sameT (A B : FT) : Bool := match A with
  | .mk n k d l => hdr (.mk n k d l) B && sameTL l B.kids
where sameTL (l l' : List FT) : Bool := match l with
  | [] => l'.isEmpty
  | x :: l => match l' with
    | [] => false
    | y :: l' => sameT x y && sameTL l l'
theorem sameT_eq (A B : FT) : sameT A B = (hdr A B && sameT.sameTL A.kids B.kids) := by cases A; rw [sameT]; rfl
theorem sameTL_len {l l' : List FT} (h : l.length ≠ l'.length) : sameT.sameTL l l' = false := by
  induction l generalizing l' with
  | nil => cases l' with
    | nil => exact absurd rfl h
    | cons y l' => rw [sameT.sameTL]; rfl
  | cons x l ih => cases l' with
    | nil => rw [sameT.sameTL]
    | cons y l' => rw [sameT.sameTL, ih (by simpa using h), Bool.and_false]
theorem sameTL_drop {l l' : List FT} {i : Nat} (h : i < l.length) (h' : i < l'.length) : sameT.sameTL (l.drop i) (l'.drop i) = (sameT (l[i]) (l'[i]) && sameT.sameTL (l.drop (i + 1)) (l'.drop (i + 1))) := by
  rw [List.drop_eq_getElem_cons h, List.drop_eq_getElem_cons h', sameT.sameTL]
/-- A file is itself. -/
theorem sameT_refl (T : FT) : sameT T T = true := by
  induction T using FT.ind with
  | h T ih =>
  have key : ∀ l : List FT, (∀ i (hi : i < l.length), sameT (l[i]) (l[i]) = true) → sameT.sameTL l l = true := by
    intro l
    induction l with
    | nil => intro _; rw [sameT.sameTL]; rfl
    | cons x r ihr =>
      intro h
      rw [sameT.sameTL, ihr (fun i hi => h (i + 1) (by simpa using hi))]
      have h0 := h 0 (by simp)
      simp only [List.getElem_cons_zero] at h0
      rw [h0]; rfl
  rw [sameT_eq, key T.kids ih]
  simp [hdr]
/-- Two files that are one. -/
theorem sameT_iff (A : FT) : ∀ B, sameT A B = true ↔ A = B := by
  induction A using FT.ind with
  | h A ih =>
  intro B
  constructor
  · intro h
    rw [sameT_eq, Bool.and_eq_true] at h
    have key : ∀ (l l' : List FT), (∀ i (hi : i < l.length) B, sameT (l[i]) B = true → l[i] = B) → sameT.sameTL l l' = true → l = l' := by
      intro l
      induction l with
      | nil =>
        intro l' _ hl
        rw [sameT.sameTL] at hl
        exact (List.isEmpty_iff.1 hl).symm
      | cons x r ihr =>
        intro l' hx hl
        cases l' with
        | nil => rw [sameT.sameTL] at hl; cases hl
        | cons y r' =>
          rw [sameT.sameTL, Bool.and_eq_true] at hl
          have h0 := hx 0 (by simp) y (by simpa using hl.1)
          simp only [List.getElem_cons_zero] at h0
          rw [h0, ihr r' (fun i hi B hB => hx (i + 1) (by simpa using hi) B (by simpa using hB)) hl.2]
    have hk := key A.kids B.kids (fun i hi B hB => (ih i hi B).1 hB) h.2
    have h1 := h.1
    simp only [hdr, Bool.and_eq_true, beq_iff_eq] at h1
    obtain ⟨h2, h3, h4⟩ := h1
    rw [Lib.toList_data, Lib.toList_data] at h2 h4
    rw [FT.eta A, FT.eta B, bytes_eq h2, h3, bytes_eq h4, hk]
  · intro h
    rw [h]
    exact sameT_refl B
end Ft
end Go.Proofs.YtfbhofomcenabaaGreatDoor
namespace Go.Proofs.YtfbhofomcenabaaGreatDoor
open Go.RowKit

namespace Ft
/-- May a text be a link's? -/
def tgtB (s : ByteArray) : Bool := !(s.data.toList.isEmpty || decide (1024 < s.data.toList.length)) && s.data.toList.all (fun c => !(c == 0))
/-- Is a file right by itself, but for its name? -/
def aloneT (T : FT) : Bool := match T.k with
  | 1 => T.d.data.toList.isEmpty
  | 2 => T.kids.isEmpty
  | 3 => T.kids.isEmpty && tgtB T.d
  | _ => false
end Ft
set_option maxRecDepth 100000 in
set_option maxHeartbeats 400000 in
theorem rname_any (s : ByteArray) (w : World) (hs : s.size ≤ 1048576) :
    Calls Tryz.prog 88 #[.string s] w fun e w' => e = .returned (.bool (Pl.nameB s)) ∧ w = w' := by
  by_cases h1 : s.toList = []
  · have hz : s.size = 0 := by rw [← Pl.szL, ← Pl.toL, h1]; rfl
    have HE : Hid _ := Pl.name_empty h1
    clear h1
    go_enter Tryz.func88, Tryz.ntmps88
    go_wp2_with fail
    go_ret
    exact ⟨ret_bool HE.out.symm, rfl⟩
  have hz : ¬ (s.size : Int) < 1 := by
    intro e
    apply h1
    rw [Pl.toL]
    apply List.length_eq_zero_iff.1
    rw [Pl.szL]
    omega
  by_cases h2 : (255 : Int) < (s.size : Int)
  · have HE : Hid _ := Pl.name_long h2
    clear h1
    go_enter Tryz.func88, Tryz.ntmps88
    go_wp2_with fail
    go_ret
    exact ⟨ret_bool HE.out.symm, rfl⟩
  by_cases h3 : s.toList = [46]
  · have HE : Hid _ := Pl.name_dot h3
    clear h1
    go_enter Tryz.func88, Tryz.ntmps88
    go_wp2_with fail
    go_ret
    exact ⟨ret_bool HE.out.symm, rfl⟩
  by_cases h4 : s.toList = [46, 46]
  · have HE : Hid _ := Pl.name_dots h4
    clear h1
    go_enter Tryz.func88, Tryz.ntmps88
    go_wp2_with fail
    go_ret
    exact ⟨ret_bool HE.out.symm, rfl⟩
  have HH : Hid (Pl.nameB s = s.data.toList.all Pl.okc) := Pl.name_head h1 h2 h3 h4
  have b3 : (s.toList == [46]) = false := by simpa using h3
  have b4 : (s.toList == [46, 46]) = false := by simpa using h4
  clear h1 h3 h4
  go_enter Tryz.func88, Tryz.ntmps88
  go_wp2_with fail
  go_loop [3] (fun i => ∃ k : Nat, k ≤ s.size ∧ i = .int .i64 k ∧ Hid ((s.data.toList.take k).all Pl.okc = true)) (fun i => s.size - (intOf i).toNat)
  case atStart => exact ⟨0, Nat.zero_le _, rfl, rfl⟩
  case round =>
    obtain ⟨k, hk, rfl, HA⟩ := hrel
    by_cases hlt : k < s.size
    · have hki : (k : Int) < (s.size : Int) := by omega
      cases c1 : ((s[k].toNat : Int) == 47)
      · cases c0 : ((s[k].toNat : Int) == 0)
        · have HT : Hid ((s.data.toList.take (k + 1)).all Pl.okc = true) := Pl.all_step hlt HA.out c1 c0
          go_wp2_with fail
          go_round
          case rel => exact ⟨k + 1, by omega, by go_num, HT⟩
          case measure => simp [intOf]; omega
        · have HS : Hid (s.data.toList.all Pl.okc = false) := Pl.all_stop hlt (Or.inr c0)
          go_wp2_with fail
          go_ret
          exact ⟨ret_bool (by rw [HH.out, HS.out]), rfl⟩
      · have HS : Hid (s.data.toList.all Pl.okc = false) := Pl.all_stop hlt (Or.inl c1)
        go_wp2_with fail
        go_ret
        exact ⟨ret_bool (by rw [HH.out, HS.out]), rfl⟩
    · have hki : ¬ (k : Int) < (s.size : Int) := by omega
      go_wp2_with fail
      go_ret
      exact ⟨ret_bool (by rw [HH.out, ← HA.out, Pl.take_all s k (by omega)]), rfl⟩

namespace Ft
theorem all0_step {s : ByteArray} {k : Nat} (h : k < s.size) (ha : (s.data.toList.take k).all (fun c => !(c == 0)) = true) (c0 : ((s[k].toNat : Int) == 0) = false) : (s.data.toList.take (k + 1)).all (fun c => !(c == 0)) = true := by
  have e : s.data.toList.take (k + 1) = s.data.toList.take k ++ [s[k]] := by
    rw [List.take_succ_eq_append_getElem (by rw [Pl.szL]; exact h)]; rfl
  rw [e, List.all_append, ha]
  have : (s[k] == 0) = false := by
    rw [beq_eq_false_iff_ne]
    intro q
    rw [q] at c0
    simp at c0
  simp [this]
theorem all0_stop {s : ByteArray} {k : Nat} (h : k < s.size) (c0 : ((s[k].toNat : Int) == 0) = true) : s.data.toList.all (fun c => !(c == 0)) = false := by
  rw [List.all_eq_false]
  refine ⟨s[k], ?_, ?_⟩
  · have : s.data.toList[k]'(by rw [Pl.szL]; exact h) ∈ s.data.toList := List.getElem_mem _
    exact this
  · have e : s[k] = 0 := by
      rw [← UInt8.toNat_inj]
      simp at c0
      simpa using c0
    simp [e]
theorem tgt_empty {s : ByteArray} (h : s.size = 0) : tgtB s = false := by
  have e : s.data.toList = [] := List.length_eq_zero_iff.1 (by rw [Pl.szL]; exact h)
  simp [tgtB, e]
theorem tgt_long {s : ByteArray} (h : 1024 < s.size) : tgtB s = false := by
  unfold tgtB
  rw [Pl.szL, decide_eq_true h]
  simp
theorem tgt_head {s : ByteArray} (h0 : ¬ s.size = 0) (h : ¬ 1024 < s.size) : tgtB s = s.data.toList.all (fun c => !(c == 0)) := by
  have e : s.data.toList.isEmpty = false := by
    rw [List.isEmpty_eq_false_iff]
    intro q
    apply h0
    rw [← Pl.szL, q]; rfl
  unfold tgtB
  rw [Pl.szL, decide_eq_false h, e]
  simp
end Ft
set_option maxRecDepth 100000 in
set_option maxHeartbeats 400000 in
theorem rtarget_any (s : ByteArray) (w : World) (hs : s.size ≤ 1048576) :
    Calls Tryz.prog 50 #[.string s] w fun e w' => e = .returned (.bool (Ft.tgtB s)) ∧ w = w' := by
  by_cases h1 : s.size = 0
  · have HE : Hid _ := Ft.tgt_empty h1
    have hz : (s.size : Int) < 1 := by omega
    have hzd : decide ((s.size : Int) < 1) = true := by simp; omega
    clear h1
    go_enter Tryz.func50, Tryz.ntmps50
    go_wp2_with fail
    go_ret
    exact ⟨ret_bool HE.out.symm, rfl⟩
  have hz : ¬ (s.size : Int) < 1 := by omega
  by_cases h2 : 1024 < s.size
  · have HE : Hid _ := Ft.tgt_long h2
    have h2i : (1024 : Int) < (s.size : Int) := by omega
    clear h1
    go_enter Tryz.func50, Tryz.ntmps50
    go_wp2_with fail
    go_ret
    exact ⟨ret_bool HE.out.symm, rfl⟩
  have HH : Hid _ := Ft.tgt_head h1 h2
  have h2i : ¬ (1024 : Int) < (s.size : Int) := by omega
  clear h1
  go_enter Tryz.func50, Tryz.ntmps50
  go_wp2_with fail
  go_loop [3] (fun i => ∃ k : Nat, k ≤ s.size ∧ i = .int .i64 k ∧ Hid ((s.data.toList.take k).all (fun c => !(c == 0)) = true)) (fun i => s.size - (intOf i).toNat)
  case atStart => exact ⟨0, Nat.zero_le _, rfl, rfl⟩
  case round =>
    obtain ⟨k, hk, rfl, HA⟩ := hrel
    by_cases hlt : k < s.size
    · have hki : (k : Int) < (s.size : Int) := by omega
      cases c0 : ((s[k].toNat : Int) == 0)
      · have HT : Hid ((s.data.toList.take (k + 1)).all (fun c => !(c == 0)) = true) := Ft.all0_step hlt HA.out c0
        go_wp2_with fail
        go_round
        case rel => exact ⟨k + 1, by omega, by go_num, HT⟩
        case measure => simp [intOf]; omega
      · have HS : Hid (s.data.toList.all (fun c => !(c == 0)) = false) := Ft.all0_stop hlt c0
        go_wp2_with fail
        go_ret
        exact ⟨ret_bool (by rw [HH.out, HS.out]), rfl⟩
    · have hki : ¬ (k : Int) < (s.size : Int) := by omega
      go_wp2_with fail
      go_ret
      exact ⟨ret_bool (by rw [HH.out, ← HA.out, Pl.take_all s k (by omega)]), rfl⟩
end Go.Proofs.YtfbhofomcenabaaGreatDoor
