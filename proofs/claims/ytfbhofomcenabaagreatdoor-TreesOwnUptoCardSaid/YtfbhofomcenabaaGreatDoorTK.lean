/- What trees are written as, and what is read of such a text: plain. The words of kinds: the table, and what trees.kindOf answers. Texts taken apart at one byte, and joined: the library's words against ours, plain. -/
import Derived.Test.YtfbhofomcenabaaGreatDoorFIns
import Derived.Test.YtfbhofomcenabaaGreatDoorTJ
import Derived.Test.YtfbhofomcenabaaGreatDoorPlainCmp
import Derived.Lib.Split
import Derived.Lib.SplitLaws
import Derived.Test.YtfbhofomcenabaaGreatDoorPlain
import Derived.Lib.Join
namespace Go.Proofs.YtfbhofomcenabaaGreatDoor
open Go.RowKit

namespace Ft
/-- A kind's word. -/
def wordB : Nat → List UInt8
  | 1 => [100, 105, 114]
  | 2 => [116, 101, 120, 116]
  | 3 => [108, 105, 110, 107]
  | _ => []
/-- A word's kind; 0: it is none. -/
def kindW (s : List UInt8) : Nat := if s = [100, 105, 114] then 1 else if s = [116, 101, 120, 116] then 2 else if s = [108, 105, 110, 107] then 3 else 0
/-- What stands ahead of the first blank, what behind it, whether there is one. -/
def cutB : List UInt8 → List UInt8 × List UInt8 × Bool
  | [] => ([], [], false)
  | c :: r => if c = 32 then ([], r, true) else let y := cutB r; (c :: y.1, y.2.1, y.2.2)
theorem cut_eq : ∀ l : List UInt8, Lib.cut l [32] = cutB l
  | [] => rfl
  | c :: r => by
    have ih := cut_eq r
    unfold Lib.cut at ih ⊢
    rw [Lib.index_one] at ih ⊢
    rw [cutB, ← ih]
    by_cases h : c = 32
    · subst h; rfl
    · rw [if_neg h]
      have hb : (c == 32) = false := beq_eq_false_iff_ne.2 h
      have e1 : Lib.indexByte (c :: r) 32 = if Lib.indexByte r 32 == -1 then -1 else Lib.indexByte r 32 + 1 := by
        show (if (c == 32) = true then (0 : Int) else _) = _
        rw [hb]; rfl
      rw [e1]
      have hge := Lib.indexByte_ge r 32
      by_cases h2 : Lib.indexByte r 32 = -1
      · simp [h2]
      · have h3 : 0 ≤ Lib.indexByte r 32 := by omega
        have h4 : (Lib.indexByte r 32 == -1) = false := beq_eq_false_iff_ne.2 h2
        rw [h4]
        obtain ⟨n, hn⟩ : ∃ n : Nat, Lib.indexByte r 32 = n := ⟨_, (Int.toNat_of_nonneg h3).symm⟩
        rw [hn]
        have e2 : ((n : Int) + 1).toNat = n + 1 := by omega
        have h5 : (0 : Int) ≤ (n : Int) + 1 := by omega
        have h6 : (0 : Int) ≤ (n : Int) := by omega
        simp [h5, h6, e2]
theorem cutB_len : ∀ l : List UInt8, (cutB l).1.length ≤ l.length ∧ (cutB l).2.1.length ≤ l.length
  | [] => by simp [cutB]
  | c :: r => by
    have := cutB_len r
    rw [cutB]
    split
    · simp
    · simp; omega
/-- The path's text, and but for a folder the data, behind a line's word. -/
def quoR (r : List UInt8) (k : Nat) : Option (List UInt8 × List UInt8) :=
  let u := Ln.unqP (Ln.bs r)
  if u.2.2.1 = 0 then
    if k = 1 then (if u.2.1 = r.length then some (u.1, []) else none)
    else
      let t := r.drop u.2.1
      if Lib.hasPrefix t [32] then
        let v := Ln.unqP (Ln.bs (Lib.trimPrefix t [32]))
        if v.2.2.1 = 0 ∧ v.2.1 = (Lib.trimPrefix t [32]).length then some (u.1, v.1) else none
      else none
  else none
/-- The path of which a text is the own one. -/
def namR (s : List UInt8) : Option (List ByteArray) :=
  if Lib.hasPrefix s [47] = true ∧ (Pl.partsB (Ln.bs (Lib.trimPrefix s [47]))).length ≤ 64 ∧ (Pl.partsB (Ln.bs (Lib.trimPrefix s [47]))).all Pl.nameB = true then some (Pl.partsB (Ln.bs (Lib.trimPrefix s [47]))) else none
/-- A file as a line tells it: its path, kind and data. -/
abbrev Td := List ByteArray × Nat × ByteArray
def td0 : Td := ([], 0, ⟨#[]⟩)
/-- Is it, or one that it lies in, the folder at a path? -/
def opnB (a : Td) (p : List ByteArray) : Bool := Pl.withinP a.1 p && (decide (p.length < a.1.length) || a.2.1 == 1)
/-- What a line tells behind another one; the rule that it breaks. -/
def lineR (s : List UInt8) (a : Td) : Td × Nat :=
  if (cutB s).2.2 = false ∨ kindW (cutB s).1 = 0 then (td0, 1)
  else match quoR (cutB s).2.1 (kindW (cutB s).1) with
  | none => (td0, 2)
  | some y => match namR y.1 with
    | none => (td0, 3)
    | some p => if 0 ≤ Pl.cmpP a.1 p then (td0, 4) else if opnB a p.dropLast = false then (td0, 5) else if kindW (cutB s).1 = 3 ∧ tgtB (Ln.bs y.2) = false then (td0, 6) else ((p, kindW (cutB s).1, Ln.bs y.2), 0)
/-- All lines from the i-th on: what they tell, or the first fault. -/
def readG : List (ByteArray × Bool) → Nat → Td → List Td → List Td × Nat × Nat
  | [], _, _, out => (out, 0, 0)
  | x :: r, i, a, out =>
    if x.1.data.toList = [] ∨ x.1.data.toList.head? = some 35 then readG r (i + 1) a out
    else if (lineR x.1.data.toList a).2 = 0 then readG r (i + 1) (lineR x.1.data.toList a).1 (out ++ [(lineR x.1.data.toList a).1])
    else ([], i + 1, (lineR x.1.data.toList a).2)
/-- What lies in a folder with so many names on its path; the rest. -/
def bldF : Nat → Nat → List Td → List FT × List Td
  | 0, _, l => ([], l)
  | _ + 1, _, [] => ([], [])
  | f + 1, n, x :: r => if h : n < x.1.length then (.mk (x.1[n]) x.2.1 x.2.2 (bldF f (n + 1) r).1 :: (bldF f n (bldF f (n + 1) r).2).1, (bldF f n (bldF f (n + 1) r).2).2) else ([], x :: r)
theorem bld_len : ∀ (f n : Nat) (l : List Td), (bldF f n l).1.length + (bldF f n l).2.length ≤ l.length
  | 0, n, l => by simp [bldF]
  | f + 1, n, [] => by simp [bldF]
  | f + 1, n, x :: r => by
    rw [bldF]
    split
    · have h1 := bld_len f (n + 1) r
      have h2 := bld_len f n (bldF f (n + 1) r).2
      simp only [List.length_cons] at *
      omega
    · simp
/-- Fuel beyond the list's length is none the better. -/
theorem bld_fuel : ∀ (f g n : Nat) (l : List Td), l.length ≤ f → l.length ≤ g → bldF f n l = bldF g n l
  | 0, 0, _, _, _, _ => rfl
  | 0, g + 1, n, [], _, _ => by simp [bldF]
  | f + 1, 0, n, [], _, _ => by simp [bldF]
  | f + 1, g + 1, n, [], _, _ => by simp [bldF]
  | 0, _, _, _ :: _, h, _ => absurd h (by simp)
  | _ + 1, 0, _, _ :: _, _, h => absurd h (by simp)
  | f + 1, g + 1, n, x :: r, h, h' => by
    simp only [List.length_cons] at h h'
    have e1 := bld_fuel f g (n + 1) r (by omega) (by omega)
    have hl := bld_len g (n + 1) r
    have e2 := bld_fuel f g n (bldF g (n + 1) r).2 (by omega) (by omega)
    rw [bldF, bldF, e1, e2]
def bldT (n : Nat) (l : List Td) : List FT × List Td := bldF l.length n l
theorem bldT_nil (n : Nat) : bldT n [] = ([], []) := rfl
theorem bldT_stop {n : Nat} {x : Td} {r : List Td} (h : ¬ n < x.1.length) : bldT n (x :: r) = ([], x :: r) := by
  unfold bldT
  rw [List.length_cons, bldF, dif_neg h]
theorem bldT_go {n : Nat} {x : Td} {r : List Td} (h : n < x.1.length) : bldT n (x :: r) = (.mk (x.1[n]) x.2.1 x.2.2 (bldT (n + 1) r).1 :: (bldT n (bldT (n + 1) r).2).1, (bldT n (bldT (n + 1) r).2).2) := by
  unfold bldT
  have hl := bld_len r.length (n + 1) r
  rw [List.length_cons, bldF, dif_pos h, bld_fuel r.length (bldF r.length (n + 1) r).2.length n _ (by omega) (Nat.le_refl _)]
theorem bldT_len (n : Nat) (l : List Td) : (bldT n l).1.length + (bldT n l).2.length ≤ l.length := bld_len _ _ _
/-- What Read answers: the tree, the error's number, the fault's line and rule. -/
def readR (s : ByteArray) : FT × Int × Nat × Nat :=
  let y := readG (Ln.splB s) 0 ([], 1, ⟨#[]⟩) []
  if y.2.2 = 0 then (.mk ⟨#[]⟩ 1 ⟨#[]⟩ (bldT 0 y.1).1, 0, 0, 0) else (.mk ⟨#[]⟩ 0 ⟨#[]⟩ [], 51, y.2.1, y.2.2)
/-- A file's line. -/
def lineT (p : List ByteArray) (T : FT) : List UInt8 :=
  wordB T.k ++ [32] ++ (Ln.quoP (Ln.bs (Pl.textF p))).data.toList ++ (if T.k = 1 then [] else [32] ++ (Ln.quoP T.d).data.toList) ++ [10]
def prtL (l : List It) : List UInt8 := l.flatMap fun x => lineT x.1 x.2.2
theorem prtL_snoc (l : List It) (x : It) : prtL (l ++ [x]) = prtL l ++ lineT x.1 x.2.2 := by simp [prtL]
/-- What Print answers. -/
def prtT (T : FT) : List UInt8 := prtL ((wkT none [] T).filter inB)
end Ft
end Go.Proofs.YtfbhofomcenabaaGreatDoor
namespace Go.Proofs.YtfbhofomcenabaaGreatDoor
open Go.RowKit

/-- The table holds the words. -/
structure Wds (w : World) : Prop where
  size : 6 ≤ w.heap.size
  c0 : w.cell? ⟨0, 0, none⟩ = some (.string ⟨#[]⟩)
  c1 : w.cell? ⟨0, 1, none⟩ = some (.string ⟨#[100, 105, 114]⟩)
  c2 : w.cell? ⟨0, 2, none⟩ = some (.string ⟨#[116, 101, 120, 116]⟩)
  c3 : w.cell? ⟨0, 3, none⟩ = some (.string ⟨#[108, 105, 110, 107]⟩)
theorem Wds.below {w w' : World} {B : Nat} (h : Wds w) (hB : 6 ≤ B) (hb : Below B w w') : Wds w' :=
  ⟨Nat.le_trans h.size hb.size, (hb.cell (p := ⟨0, 0, none⟩) (by show 0 < B; omega)).trans h.c0, (hb.cell (p := ⟨0, 1, none⟩) (by show 0 < B; omega)).trans h.c1, (hb.cell (p := ⟨0, 2, none⟩) (by show 0 < B; omega)).trans h.c2, (hb.cell (p := ⟨0, 3, none⟩) (by show 0 < B; omega)).trans h.c3⟩

namespace Ft
/-- A word's kind, the first k looked at in vain. -/
def kindF (s : List UInt8) : Nat → Nat
  | 0 => kindW s
  | 1 => kindW s
  | 2 => if s = [116, 101, 120, 116] then 2 else if s = [108, 105, 110, 107] then 3 else 0
  | 3 => if s = [108, 105, 110, 107] then 3 else 0
  | _ => 0
end Ft

set_option maxRecDepth 100000 in
set_option maxHeartbeats 1000000 in
theorem kindOf_any (s : ByteArray) (w : World) (T : Wds w) :
    Calls Tryz.prog 81 #[.string s] w fun e w' => e = .returned (.int .u8 ((Ft.kindW s.data.toList : Nat) : Int)) ∧ w = w' := by
  obtain ⟨_, c0, c1, c2, c3⟩ := T
  have j0 : ∀ w, (Instr.index 74 (.agg #[.string ⟨#[]⟩, .string ⟨#[100, 105, 114]⟩, .string ⟨#[116, 101, 120, 116]⟩, .string ⟨#[108, 105, 110, 107]⟩]) (.int .i64 0)).run Tryz.prog w = .ok (.string ⟨#[]⟩) w := fun _ => by kernel_rfl
  have j1 : ∀ w, (Instr.index 74 (.agg #[.string ⟨#[]⟩, .string ⟨#[100, 105, 114]⟩, .string ⟨#[116, 101, 120, 116]⟩, .string ⟨#[108, 105, 110, 107]⟩]) (.int .i64 1)).run Tryz.prog w = .ok (.string ⟨#[100, 105, 114]⟩) w := fun _ => by kernel_rfl
  have j2 : ∀ w, (Instr.index 74 (.agg #[.string ⟨#[]⟩, .string ⟨#[100, 105, 114]⟩, .string ⟨#[116, 101, 120, 116]⟩, .string ⟨#[108, 105, 110, 107]⟩]) (.int .i64 2)).run Tryz.prog w = .ok (.string ⟨#[116, 101, 120, 116]⟩) w := fun _ => by kernel_rfl
  have j3 : ∀ w, (Instr.index 74 (.agg #[.string ⟨#[]⟩, .string ⟨#[100, 105, 114]⟩, .string ⟨#[116, 101, 120, 116]⟩, .string ⟨#[108, 105, 110, 107]⟩]) (.int .i64 3)).run Tryz.prog w = .ok (.string ⟨#[108, 105, 110, 107]⟩) w := fun _ => by kernel_rfl
  have hs : s.toList = s.data.toList := Pl.toL s
  obtain ⟨L, hL⟩ : ∃ L, L = s.data.toList := ⟨_, rfl⟩
  rw [← hL] at hs ⊢
  clear hL
  have k0 : (([] : List UInt8) == s.toList) = decide (L = []) := by rw [hs]; cases L <;> simp
  have k1 : ([100, 105, 114] == s.toList) = decide (L = [100, 105, 114]) := by
    rw [hs]; by_cases h : L = [100, 105, 114]
    · rw [h]; rfl
    · rw [decide_eq_false h]; exact beq_eq_false_iff_ne.2 (fun e => h e.symm)
  have k2 : ([116, 101, 120, 116] == s.toList) = decide (L = [116, 101, 120, 116]) := by
    rw [hs]; by_cases h : L = [116, 101, 120, 116]
    · rw [h]; rfl
    · rw [decide_eq_false h]; exact beq_eq_false_iff_ne.2 (fun e => h e.symm)
  have k3 : ([108, 105, 110, 107] == s.toList) = decide (L = [108, 105, 110, 107]) := by
    rw [hs]; by_cases h : L = [108, 105, 110, 107]
    · rw [h]; rfl
    · rw [decide_eq_false h]; exact beq_eq_false_iff_ne.2 (fun e => h e.symm)
  clear hs
  go_enter Tryz.func81, Tryz.ntmps81
  go_wp2_with fail
  clear c0 c1 c2 c3
  go_loop [6] (fun i => ∃ k : Nat, k ≤ 4 ∧ i = .int .i64 k ∧ Hid (Ft.kindW L = Ft.kindF L k)) (fun i => 4 - (intOf i).toNat)
  case atStart => exact ⟨0, by omega, rfl, rfl⟩
  case round =>
    obtain ⟨k, hk, rfl, HC⟩ := hrel
    rcases (show k = 0 ∨ k = 1 ∨ k = 2 ∨ k = 3 ∨ k = 4 by omega) with rfl | rfl | rfl | rfl | rfl
    · have HE : Hid (Ft.kindW L = Ft.kindF L 1) := HC.out
      cases hq : decide (L = [])
      · rw [hq] at k0
        clear k1 k2 k3 hq
        go_wp2_with fail
        go_round
        case rel => exact ⟨1, by omega, rfl, HE⟩
        case measure => simp [intOf]
      · rw [hq] at k0
        clear k1 k2 k3 hq
        go_wp2_with fail
        go_round
        case rel => exact ⟨1, by omega, rfl, HE⟩
        case measure => simp [intOf]
    · cases hq : decide (L = [100, 105, 114])
      · have HE : Hid (Ft.kindW L = Ft.kindF L 2) := by show _ = _; rw [HC.out, Ft.kindF, Ft.kindW, if_neg (of_decide_eq_false hq)]; rfl
        rw [hq] at k1
        clear k0 k2 k3 hq
        go_wp2_with fail
        go_round
        case rel => exact ⟨2, by omega, rfl, HE⟩
        case measure => simp [intOf]
      · have HE : Hid (Ft.kindW L = 1) := by show _ = _; rw [HC.out, Ft.kindF, Ft.kindW, if_pos (of_decide_eq_true hq)]
        rw [hq] at k1
        clear k0 k2 k3 hq
        go_wp2_with fail
        go_ret
        rw [HE.out]
        exact ⟨rfl, rfl⟩
    · cases hq : decide (L = [116, 101, 120, 116])
      · have HE : Hid (Ft.kindW L = Ft.kindF L 3) := by show _ = _; rw [HC.out, Ft.kindF, if_neg (of_decide_eq_false hq)]; rfl
        rw [hq] at k2
        clear k0 k1 k3 hq
        go_wp2_with fail
        go_round
        case rel => exact ⟨3, by omega, rfl, HE⟩
        case measure => simp [intOf]
      · have HE : Hid (Ft.kindW L = 2) := by show _ = _; rw [HC.out, Ft.kindF, if_pos (of_decide_eq_true hq)]
        rw [hq] at k2
        clear k0 k1 k3 hq
        go_wp2_with fail
        go_ret
        rw [HE.out]
        exact ⟨rfl, rfl⟩
    · cases hq : decide (L = [108, 105, 110, 107])
      · have HE : Hid (Ft.kindW L = Ft.kindF L 4) := by show _ = _; rw [HC.out, Ft.kindF, if_neg (of_decide_eq_false hq)]; rfl
        rw [hq] at k3
        clear k0 k1 k2 hq
        go_wp2_with fail
        go_round
        case rel => exact ⟨4, by omega, rfl, HE⟩
        case measure => simp [intOf]
      · have HE : Hid (Ft.kindW L = 3) := by show _ = _; rw [HC.out, Ft.kindF, if_pos (of_decide_eq_true hq)]
        rw [hq] at k3
        clear k0 k1 k2 hq
        go_wp2_with fail
        go_ret
        rw [HE.out]
        exact ⟨rfl, rfl⟩
    · have HE : Hid (Ft.kindW L = 0) := HC.out
      clear k0 k1 k2 k3
      go_wp2_with fail
      go_ret
      rw [HE.out]
      exact ⟨rfl, rfl⟩
end Go.Proofs.YtfbhofomcenabaaGreatDoor
namespace Go.Proofs.YtfbhofomcenabaaGreatDoor
namespace Ft
theorem splitK_spl : ∀ l : List UInt8, Lib.splitK [47] 0 (Lib.count l [47]) l = Pl.spl l
  | [] => by rw [Lib.count_one]; rfl
  | c :: r => by
    have ih := splitK_spl r
    by_cases h : c = 47
    · subst h
      have hix : Lib.index (47 :: r) [47] = 0 := by rw [Lib.index]; simp [List.isPrefixOf]
      rw [Lib.count_cons_eq, Nat.add_comm, Lib.splitK, hix, Pl.spl_slash, ← ih]
      simp
    · have hb : (c == 47) = false := beq_eq_false_iff_ne.2 h
      rw [Lib.count_cons_ne _ _ _ h, Pl.spl_other hb, ← ih]
      have hp : ([47] : List UInt8).isPrefixOf (c :: r) = false := by simp [List.isPrefixOf, Ne.symm h]
      have hix : Lib.index (c :: r) [47] = if Lib.index r [47] == -1 then -1 else Lib.index r [47] + 1 := by rw [Lib.index, hp]; simp
      cases hk : Lib.count r [47] with
      | zero => rfl
      | succ k =>
        by_cases hm : Lib.index r [47] = -1
        · rw [Lib.count_miss hm] at hk; cases hk
        · have hge := Lib.index_ge r [47]
          obtain ⟨j, hj⟩ : ∃ j : Nat, Lib.index r [47] = j := ⟨(Lib.index r [47]).toNat, by omega⟩
          have hj2 : (Lib.index r [47] == -1) = false := beq_eq_false_iff_ne.2 hm
          rw [hj2] at hix
          rw [Lib.splitK, Lib.splitK, hix, hj]
          have e1 : (((j : Int) + 1 == -1) : Bool) = false := by rw [beq_eq_false_iff_ne]; omega
          have e2 : (((j : Int) == -1) : Bool) = false := by rw [beq_eq_false_iff_ne]; omega
          have e3 : ((j : Int) + 1).toNat = j + 1 := by omega
          simp [e1, e2, e3, Pl.glue]
theorem map_data {a b : List ByteArray} (h : a.map (·.data.toList) = b.map (·.data.toList)) : a = b := by
  induction a generalizing b with
  | nil => cases b with
    | nil => rfl
    | cons y b => cases h
  | cons x a ih => cases b with
    | nil => cases h
    | cons y b =>
      rw [List.map_cons, List.map_cons] at h
      injection h with h1 h2
      rw [ih h2]
      congr 1
      cases x; cases y
      simp only [ByteArray.mk.injEq]
      exact Array.toList_inj.1 h1
theorem splitB_parts (s : ByteArray) : Lib.splitB ⟨#[47]⟩ 0 (Lib.countB s ⟨#[47]⟩) s = Pl.partsB s := by
  refine map_data ?_
  rw [Lib.splitB_data]
  show Lib.splitK [47] 0 (Lib.count s.data.toList [47]) s.data.toList = _
  rw [splitK_spl, Pl.partsB, List.map_map]
  have e : ((fun x : ByteArray => x.data.toList) ∘ Pl.bs) = id := by funext l; rfl
  rw [e, List.map_id]
theorem countB_parts (s : ByteArray) : Lib.countB s ⟨#[47]⟩ + 1 = (Pl.partsB s).length := by
  have h := Lib.splitB_all ⟨#[47]⟩ (by decide) 0 _ s rfl
  rw [splitB_parts] at h
  exact h.symm
theorem join_text : ∀ p : List ByteArray, p ≠ [] → 47 :: Lib.join (p.map (·.data.toList)) [47] = Pl.textF p
  | [], h => absurd rfl h
  | [x], _ => by rw [List.map_cons, List.map_nil, Lib.join_one]; simp [Pl.textF]
  | x :: y :: r, _ => by
    have ih := join_text (y :: r) (by simp)
    rw [Pl.textF, ← ih]
    simp [Lib.join, List.intercalate]
end Ft
end Go.Proofs.YtfbhofomcenabaaGreatDoor
