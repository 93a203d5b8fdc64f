/- That paddocklaw01.told answers true; what paddocklaw01.kept answers. -/
import Derived.Test.YtpoimhkfajppmaaDoorLUni
import Derived.Test.YtpoimhkfajppmaaDoorLLives
namespace Go.Proofs.YtpoimhkfajppmaaDoor
open Go.RowKit

namespace Ln
theorem diff_small (x y z : ByteArray × Bool) (h : ¬ y = z) : diffP [x, y] [x, z] = [(1, x), (2, y), (3, z)] := by
  have e1 : lcs ([] : List (ByteArray × Bool)) [z] = 0 := lcs_nil_left _
  have e2 : lcs [y] ([] : List (ByteArray × Bool)) = 0 := lcs_nil_right _
  have e3 : lcs [y] [z] = 0 := by rw [lcs_miss h, e1, e2]; rfl
  rw [diffP, if_pos rfl, diffP, if_neg h, if_pos (by rw [e1, e3]), diffP, diffP]
theorem told_text : uniR ⟨#[102]⟩ ⟨#[97, 10, 98, 10]⟩ ⟨#[97, 10, 99]⟩ 0 = ([45, 45, 45, 32, 34, 102, 34, 10, 43, 43, 43, 32, 34, 102, 34, 10, 64, 64, 32, 45, 50, 32, 43, 50, 32, 64, 64, 10, 45, 98, 10, 43, 99, 10, 92, 32, 78, 111, 32, 110, 101, 119, 108, 105, 110, 101, 32, 97, 116, 32, 101, 110, 100, 32, 111, 102, 32, 102, 105, 108, 101, 10], 0) := by
  have hS : splB ⟨#[97, 10, 98, 10]⟩ = [(⟨#[97]⟩, true), (⟨#[98]⟩, true)] := by decide +kernel
  have hT : splB ⟨#[97, 10, 99]⟩ = [(⟨#[97]⟩, true), (⟨#[99]⟩, false)] := by decide +kernel
  have hd : diffR (splB ⟨#[97, 10, 98, 10]⟩) (splB ⟨#[97, 10, 99]⟩) = ([(1, (⟨#[97]⟩, true)), (2, (⟨#[98]⟩, true)), (3, (⟨#[99]⟩, false))], 0) := by
    unfold diffR
    rw [hS, hT, if_neg (by decide), diff_small _ _ _ (by decide)]
  have hq : (quoP ⟨#[102]⟩).data.toList = [34, 102, 34] := by decide +kernel
  have h2 : Lib.decDigits (1 + 1) = [50] := Lib.decDigits_one (by omega)
  unfold uniR
  rw [if_neg (by decide), hd]
  simp only [ne_eq, not_true_eq_false, if_false]
  rw [if_neg (by decide +kernel)]
  unfold uniB
  rw [hq]
  have hh : hunksP (0 : Int).toNat [(1, ((⟨#[97]⟩ : ByteArray), true)), (2, (⟨#[98]⟩, true)), (3, (⟨#[99]⟩, false))] = [(1, 3)] := by decide +kernel
  rw [hh]
  have hp : placeP 1 1 = [50] := by unfold placeP; rw [if_neg (by decide), if_pos rfl, h2]
  have c1 : cntO (([(1, ((⟨#[97]⟩ : ByteArray), true)), (2, (⟨#[98]⟩, true)), (3, (⟨#[99]⟩, false))] : List Chg).take 1) = 1 := by decide +kernel
  have c2 : cntN (([(1, ((⟨#[97]⟩ : ByteArray), true)), (2, (⟨#[98]⟩, true)), (3, (⟨#[99]⟩, false))] : List Chg).take 1) = 1 := by decide +kernel
  have c3 : sub ([(1, ((⟨#[97]⟩ : ByteArray), true)), (2, (⟨#[98]⟩, true)), (3, (⟨#[99]⟩, false))] : List Chg) 1 3 = [(2, (⟨#[98]⟩, true)), (3, (⟨#[99]⟩, false))] := rfl
  have c4 : cntO [(2, ((⟨#[98]⟩ : ByteArray), true)), (3, (⟨#[99]⟩, false))] = 1 := by decide +kernel
  have c5 : cntN [(2, ((⟨#[98]⟩ : ByteArray), true)), (3, (⟨#[99]⟩, false))] = 1 := by decide +kernel
  have c6 : [(2, ((⟨#[98]⟩ : ByteArray), true)), (3, (⟨#[99]⟩, false))].flatMap chB = [45, 98, 10, 43, 99, 10, 92, 32, 78, 111, 32, 110, 101, 119, 108, 105, 110, 101, 32, 97, 116, 32, 101, 110, 100, 32, 111, 102, 32, 102, 105, 108, 101, 10] := by decide +kernel
  simp only [List.flatMap_cons, List.flatMap_nil, hunkB]
  rw [c3, c1, c2, c4, c5, hp, c6]
  rfl
end Ln

set_option maxRecDepth 100000 in
set_option maxHeartbeats 1000000 in
theorem told_any (w : World) (T : Tabs2 w) : Calls Tryd.prog 10 #[] w fun e w' => e = .returned (.bool true) ∧ Below w.heap.size w w' := by
  go_enter Tryd.func10, Tryd.ntmps10
  go_wp2_with fail
  refine (uni_any ⟨#[102]⟩ ⟨#[97, 10, 98, 10]⟩ ⟨#[97, 10, 99]⟩ 0 _ T (by decide) (by decide) (by decide)).mono ?_
  rw [Ln.told_text]
  rintro e w1 ⟨rfl, hb⟩
  have T1 := T.below hb
  go_wp2_with fail
  refine (lives_any _ T1.tabs).mono ?_
  rintro e w2 ⟨rfl, hb2⟩
  go_wp2_with fail
  go_ret
  exact ⟨ret_bool (by rw [Ln.toL]; rfl), hb.trans (hb2.mono hb.size)⟩

set_option maxRecDepth 100000 in
set_option maxHeartbeats 1000000 in
theorem kept_any (a : Option Addr) (cap : Nat) (l : List Ln.Chg) (w : World) (h : Chs w a cap l) :
    Calls Tryd.prog 15 #[.slice a l.length cap] w fun e w' => e = .returned (.int .i64 (Ln.keptP l : Nat)) ∧ Below w.heap.size w w' := by
  have hl := h.len
  go_enter Tryd.func15, Tryd.ntmps15
  go_wp2
  go_loopw [3, 8] (fun o i wr => ∃ (k p : Nat), k ≤ l.length ∧ i = .int .i64 k ∧ o = .int .i64 p ∧ p ≤ k ∧ Hid (Ln.keptP (l.take k) = p) ∧ Below w.heap.size w wr) (fun _ i _ => l.length - (intOf i).toNat)
  case atStart => exact ⟨0, 0, Nat.zero_le _, rfl, rfl, Nat.le_refl _, rfl, Below.refl _ _⟩
  case round =>
    obtain ⟨k, p, hk, rfl, rfl, hp, HP, hnx⟩ := hrel
    have hsz := hnx.size
    by_cases hlt : k < l.length
    · obtain ⟨b, off, rfl, hb0, hc1, hc2, hc3⟩ := h.cells k hlt
      have d1 : wr.cell? ⟨b, off + k * 3, none⟩ = some (.int .u8 ((l[k]'hlt).1 : Int)) := (hnx.cell (p := ⟨b, off + k * 3, none⟩) hb0).trans hc1
      have d2 : wr.cell? ⟨b, off + k * 3 + 1, none⟩ = some (.string (l[k]'hlt).2.1) := (hnx.cell (p := ⟨b, off + k * 3 + 1, none⟩) hb0).trans hc2
      have d3 : wr.cell? ⟨b, off + k * 3 + 2, none⟩ = some (.bool (l[k]'hlt).2.2) := (hnx.cell (p := ⟨b, off + k * 3 + 2, none⟩) hb0).trans hc3
      have HT : Hid (l.take (k + 1) = l.take k ++ [l[k]'hlt]) := List.take_succ_eq_append_getElem hlt
      have hkd : (l[k]'hlt).1 < 256 := h.kind _ (List.getElem_mem hlt)
      clear hc1 hc2 hc3
      generalize l[k]'hlt = x at *
      obtain ⟨kd, x1, x2⟩ := x
      simp only at d1 d2 d3 hkd
      by_cases e1 : kd = 1
      · subst e1
        have H1 : Hid (Ln.keptP (l.take (k + 1)) = p + 1) := by show _ = _; rw [HT.out, ← HP.out]; simp [Ln.keptP]
        go_wp2_with fail
        go_roundw
        case rel => exact ⟨k + 1, p + 1, by omega, by go_num, by go_num, by omega, H1, hnx.alloc hsz _⟩
        case measure => simp [intOf]; omega
      · have H1 : Hid (Ln.keptP (l.take (k + 1)) = p) := by show _ = _; rw [HT.out, ← HP.out]; simp [Ln.keptP, e1]
        have g1 : ((kd : Int) == 1) = false := by simp; omega
        go_wp2_with fail
        go_roundw
        case rel => exact ⟨k + 1, p, by omega, by go_num, rfl, by omega, H1, hnx.alloc hsz _⟩
        case measure => simp [intOf]; omega
    · have htk : l.take k = l := List.take_of_length_le (by omega)
      have H1 : Hid (Ln.keptP l = p) := by have := HP.out; rwa [htk] at this
      clear htk
      go_wp2_with fail
      go_ret
      rw [H1.out]
      exact ⟨rfl, hnx⟩
end Go.Proofs.YtpoimhkfajppmaaDoor
