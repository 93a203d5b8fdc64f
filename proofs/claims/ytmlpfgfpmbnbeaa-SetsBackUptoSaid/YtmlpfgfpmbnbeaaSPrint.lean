/- What sets.appendElement and sets.appendRun answer. -/
import Derived.Test.YtmlpfgfpmbnbeaaLibs
import Derived.Test.YtmlpfgfpmbnbeaaSBytes
namespace Go.Proofs.Ytmlpfgfpmbnbeaa
open Go.RowKit

namespace St
def spec (c : Nat) : Bool := c == 91 || c == 93 || c == 94 || c == 45 || c == 92 || c == 10
/-- A byte as it is written in a bracket expression. -/
def eltB (c : Nat) : List UInt8 := if spec c then [91, 46, UInt8.ofNat c, 46, 93] else [UInt8.ofNat c]
def runB (a b : Nat) : List UInt8 := eltB a ++ (if a == b then [] else (if 1 < b - a then [45] else []) ++ eltB b)
set_option maxRecDepth 100000 in
theorem spec_index : ∀ n, n < 256 → decide (Lib.indexByte [91, 93, 94, 45, 92, 10] (UInt8.ofNat n) < 0) = !spec n := by decide
end St
theorem ofNat_cast {c : Nat} (hc : c < 256) : ((UInt8.ofNat c).toNat : Int) = (c : Int) := by simp; omega
theorem index_any (c : Nat) (w : World) (hc : c < 256) :
    Calls Try.prog 53 #[.string ⟨#[91, 93, 94, 45, 92, 10]⟩, .int .u8 (c : Int)] w fun e w' => ∃ r : Int, e = .returned (.int .i64 r) ∧ decide (r < 0) = !St.spec c ∧ w' = w := by
  refine (Any.strings_IndexByte Try.lays137 _ (c : Int) w).mono ?_
  rintro e w' ⟨rfl, rfl⟩
  refine ⟨_, rfl, ?_, rfl⟩
  exact St.spec_index c hc

set_option maxRecDepth 100000 in
set_option maxHeartbeats 1000000 in
theorem element_app (v : Value) (L : List UInt8) (c base : Nat) (w : World) (hc : c < 256) (hbase : base ≤ w.heap.size) (hown : w.ownsRow base 5 1 v L.length (bcells L)) (hL : L.length ≤ 1000000) :
    Calls Try.prog 44 #[v, .int .u8 (c : Int)] w fun e w' => ∃ v', e = .returned v' ∧ w'.ownsRow base 5 1 v' (L ++ St.eltB c).length (bcells (L ++ St.eltB c)) ∧ Below base w w' := by
  obtain ⟨i0, hi, hz0, hz1, hz2⟩ := info_parts Try.infoByte
  have HCK : Hid (((UInt8.ofNat c).toNat : Int) = (c : Int)) := ofNat_cast hc
  cases hs : St.spec c
  · have HE : Hid (St.eltB c = [UInt8.ofNat c]) := by show _ = _; unfold St.eltB; rw [hs]; rfl
    go_enter Try.func44, Try.ntmps44
    go_wp2_with fail
    refine (index_any c _ hc).mono ?_
    rw [hs]
    rintro x w1 ⟨r, rfl, hr, rfl⟩
    replace hr : decide (r < 0) = true := hr
    have hr' : r < 0 := by simpa using hr
    clear hr
    go_wp2_with (at_builtin; refine wpList_append_own _ rfl (.tmp 8) (.tmp 10) 22 rfl base 5 i0 (.int .u8 0) 1 1 Try.underlying22 hi hz0 hz1 hz2 rfl (by decide) _ _ _ rfl (hown.alloc _) ⟨w1.heap.size, 0, none⟩ 1 1 [.int .u8 (c : Int)] rfl rfl (cell_one_new _ _ _) ?c2 ?c3 ?c4 ?c5 ?_)
    case c2 => first | exact one_ints (k := .u8) _ | rfl | (intro u hu; simp at hu; subst hu; rfl)
    case c3 => unfold maxLen; omega
    case c4 => omega
    case c5 => first | omega | (simp; omega)
    intro v3 w3 hown3 hgr3 _
    have hB3 : Below base w1 w3 := ((Below.refl _ _).alloc hbase _).grown hgr3 (by simp; omega) (fun g hg => (hown.lt g hg).1)
    have ho3 : w3.ownsRow base 5 1 v3 (L ++ [UInt8.ofNat c]).length (bcells (L ++ [UInt8.ofNat c])) := by
      rw [bcells_append, List.length_append]
      show World.ownsRow w3 _ _ _ _ _ (bcells L ++ [.int .u8 ((UInt8.ofNat c).toNat : Int)])
      rw [HCK.out]
      exact hown3
    clear hgr3 hown3
    go_wp2_with fail
    go_ret
    rw [HE.out]
    exact ⟨_, rfl, ho3, hB3⟩
  · have HE : Hid (St.eltB c = [91, 46, UInt8.ofNat c, 46, 93]) := by show _ = _; unfold St.eltB; rw [hs]; rfl
    go_enter Try.func44, Try.ntmps44
    go_wp2_with fail
    refine (index_any c _ hc).mono ?_
    rw [hs]
    rintro x w1 ⟨r, rfl, hr, rfl⟩
    replace hr : decide (r < 0) = false := hr
    have hr' : ¬ r < 0 := by simpa using hr
    clear hr
    go_wp2_with (at_builtin; refine wpList_append_own _ rfl (.tmp 12) (.tmp 14) 22 rfl base 5 i0 (.int .u8 0) 1 1 Try.underlying22 hi hz0 hz1 hz2 rfl (by decide) _ _ _ rfl (hown.alloc _) ⟨w1.heap.size, 0, none⟩ 5 5 [.int .u8 91, .int .u8 46, .int .u8 (c : Int), .int .u8 46, .int .u8 93] rfl rfl ?c1 ?c2 ?c3 ?c4 ?c5 ?_)
    case c1 =>
      intro j u hu
      rw [show (⟨w1.heap.size, 0, none⟩ : Addr).add j = ⟨w1.heap.size, j, none⟩ by unfold Addr.add; split <;> simp_all, cell_of_row _ _ j _ _ _ (heap_alloc_new w1 _), ← hu]
      simp
    case c2 =>
      intro u hu
      simp only [List.mem_cons, List.not_mem_nil, or_false] at hu
      rcases hu with rfl | rfl | rfl | rfl | rfl <;> rfl
    case c3 => unfold maxLen; omega
    case c4 => omega
    case c5 => first | omega | (simp; omega)
    intro v3 w3 hown3 hgr3 _
    have hB3 : Below base w1 w3 := ((Below.refl _ _).alloc hbase _).grown hgr3 (by simp; omega) (fun g hg => (hown.lt g hg).1)
    have ho3 : w3.ownsRow base 5 1 v3 (L ++ [91, 46, UInt8.ofNat c, 46, 93]).length (bcells (L ++ [91, 46, UInt8.ofNat c, 46, 93])) := by
      rw [bcells_append, List.length_append]
      show World.ownsRow w3 _ _ _ _ _ (bcells L ++ [.int .u8 91, .int .u8 46, .int .u8 ((UInt8.ofNat c).toNat : Int), .int .u8 46, .int .u8 93])
      rw [HCK.out]
      exact hown3
    clear hgr3 hown3
    go_wp2_with fail
    go_ret
    rw [HE.out]
    exact ⟨_, rfl, ho3, hB3⟩

set_option maxRecDepth 100000 in
set_option maxHeartbeats 1000000 in
theorem run_app (v : Value) (L : List UInt8) (a b base : Nat) (w : World) (hab : a ≤ b) (hb6 : b < 256) (hbase : base ≤ w.heap.size) (hown : w.ownsRow base 5 1 v L.length (bcells L)) (hL : L.length ≤ 900000) :
    Calls Try.prog 39 #[v, .int .u8 (a : Int), .int .u8 (b : Int)] w fun e w' => ∃ v', e = .returned v' ∧ w'.ownsRow base 5 1 v' (L ++ St.runB a b).length (bcells (L ++ St.runB a b)) ∧ Below base w w' := by
  obtain ⟨i0, hi, hz0, hz1, hz2⟩ := info_parts Try.infoByte
  have hel : ∀ c, (St.eltB c).length ≤ 5 := by intro c; unfold St.eltB; split <;> simp
  have HEL : Hid (∀ c, (St.eltB c).length ≤ 5) := hel
  clear hel
  have ha6 : a < 256 := by omega
  have HA := element_app v L a base w ha6 hbase hown (by omega)
  by_cases e : a = b
  · have HE : Hid (St.runB a b = St.eltB a) := by show _ = _; unfold St.runB; rw [e]; simp
    have e' : ((a : Int) == (b : Int)) = true := by rw [e]; simp
    clear e
    go_enter Try.func39, Try.ntmps39
    go_wp2_with fail
    refine HA.mono ?_
    rintro x w1 ⟨v1, rfl, ho1, hb1⟩
    go_wp2_with fail
    go_ret
    rw [HE.out]
    exact ⟨_, rfl, ho1, hb1⟩
  · have hlt : a < b := by omega
    have e' : ((a : Int) == (b : Int)) = false := by simp; omega
    have n1 : IntKind.u8.wrap ((b : Int) - (a : Int)) = (b : Int) - (a : Int) := by rw [IntKind.wrap_u8']; omega
    by_cases h1 : 1 < b - a
    · have h1' : 1 < (b : Int) - (a : Int) := by omega
      have HE : Hid (St.runB a b = St.eltB a ++ ([45] ++ St.eltB b)) := by show _ = _; unfold St.runB; rw [show (a == b) = false by simp; omega, if_pos h1]; rfl
      go_enter Try.func39, Try.ntmps39
      go_wp2_with fail
      refine HA.mono ?_
      rintro x w1 ⟨v1, rfl, ho1, hb1⟩
      have hs1 := hb1.size
      have hl1 := HEL.out a
      have hL1 : (L ++ St.eltB a).length ≤ 900005 := by rw [List.length_append]; omega
      have HJ : Hid (L ++ St.runB a b = (L ++ St.eltB a) ++ [45] ++ St.eltB b) := by show _ = _; rw [HE.out]; simp
      generalize L ++ St.eltB a = J at *
      go_wp2_with (at_builtin; refine wpList_append_own _ rfl (.tmp 18) (.tmp 19) 22 rfl base 5 i0 (.int .u8 0) 1 1 Try.underlying22 hi hz0 hz1 hz2 rfl (by decide) _ _ _ rfl (ho1.alloc _) ⟨w1.heap.size, 0, none⟩ 1 1 [.int .u8 45] rfl rfl (cell_one_new _ _ _) ?c2 ?c3 ?c4 ?c5 ?_)
      case c2 => first | exact one_ints (k := .u8) _ | rfl | (intro u hu; simp at hu; subst hu; rfl)
      case c3 => unfold maxLen; omega
      case c4 => omega
      case c5 => first | omega | (simp; omega)
      intro v3 w3 hown3 hgr3 _
      have hB3 : Below base w w3 := (hb1.alloc (by omega) _).grown hgr3 (by simp; omega) (fun g hg => (ho1.lt g hg).1)
      have ho3 : w3.ownsRow base 5 1 v3 (J ++ [45]).length (bcells (J ++ [45])) := by rw [bcells_append, List.length_append]; exact hown3
      have hs3 := hB3.size
      have hJ : (J ++ [45]).length ≤ 900006 := by rw [List.length_append]; simp; omega
      clear hgr3 hown3
      generalize J ++ [45] = J2 at *
      have HA2 := element_app v3 J2 b base w3 hb6 (by omega) ho3 (by omega)
      go_wp2_with (go_at_call 44; refine HA2.mono ?_; rintro x w4 ⟨v4, rfl, ho4, hb4⟩)
      go_ret
      rw [HJ.out]
      exact ⟨_, rfl, ho4, hB3.trans hb4⟩
    · have h1' : ¬ 1 < (b : Int) - (a : Int) := by omega
      have HE : Hid (St.runB a b = St.eltB a ++ St.eltB b) := by show _ = _; unfold St.runB; rw [show (a == b) = false by simp; omega, if_neg h1]; rfl
      go_enter Try.func39, Try.ntmps39
      go_wp2_with fail
      refine HA.mono ?_
      rintro x w1 ⟨v1, rfl, ho1, hb1⟩
      have hs1 := hb1.size
      have hl1 := HEL.out a
      have hL1 : (L ++ St.eltB a).length ≤ 900005 := by rw [List.length_append]; omega
      have HJ : Hid (L ++ St.runB a b = (L ++ St.eltB a) ++ St.eltB b) := by show _ = _; rw [HE.out]; simp
      generalize L ++ St.eltB a = J at *
      have HA2 := element_app v1 J b base w1 hb6 (by omega) ho1 (by omega)
      go_wp2_with (go_at_call 44; refine HA2.mono ?_; rintro x w4 ⟨v4, rfl, ho4, hb4⟩)
      go_ret
      rw [HJ.out]
      exact ⟨_, rfl, ho4, hb1.trans hb4⟩
end Go.Proofs.Ytmlpfgfpmbnbeaa
