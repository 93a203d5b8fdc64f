/- What lines.Split and the reference's Split answer. -/
import Derived.Test.YthmofbcjhfcokaaLLines
import Derived.Test.YthmofbcjhfcokaaLPlainS
import Derived.Deep.QuietTactic
import Derived.BigQuiet
namespace Go.Proofs.Ythmofbcjhfcokaa
open Go.RowKit

set_option maxRecDepth 100000 in
set_option maxHeartbeats 1000000 in
theorem split_any (s : ByteArray) (w : World) (hs : s.size ≤ 33554432) :
    Calls Try.prog 16 #[.string s] w fun e w' => ∃ v, e = .returned v ∧ w'.ownsRow w.heap.size 34 2 v (Ln.splB s).length (lcells (Ln.splB s)) ∧ Below w.heap.size w w' := by
  obtain ⟨i0, hi, hz0, hz1, hz2⟩ := info_parts Try.infoLine
  go_enter Try.func16, Try.ntmps16
  go_wp2
  go_loopw [3, 4, 8] (fun v f i wr => ∃ (k q : Nat) (done : List (ByteArray × Bool)), q ≤ k ∧ k ≤ s.size ∧ i = .int .i64 k ∧ f = .int .i64 q ∧ done.length ≤ k ∧ Hid (Ln.Apart s done q k) ∧ wr.ownsRow w.heap.size 34 2 v done.length (lcells done) ∧ Below w.heap.size w wr)
    (fun _ _ i _ => s.size - (intOf i).toNat)
  case atStart => exact ⟨0, 0, [], Nat.le_refl _, Nat.zero_le _, rfl, rfl, Nat.le_refl _, Ln.apart_start s, World.ownsRow_nil _ _ _ _, Below.refl _ _⟩
  case round =>
    obtain ⟨k, q, done, hq, hk, rfl, rfl, hd, HA, hown, hnx⟩ := hrel
    have hsz := hnx.size
    by_cases hlt : k < s.size
    · cases hc : ((s[k].toNat : Int) == 10)
      · have HR : Hid (Ln.Apart s done q (k + 1)) := Ln.apart_other hq hlt hc HA.out
        go_wp2
        go_roundw
        case rel => exact ⟨k + 1, q, done, by omega, by omega, by go_num, rfl, by omega, HR, hown, hnx⟩
        case measure => simp [intOf]; omega
      · have HR : Hid (Ln.Apart s (done ++ [(s.extract q k, true)]) (k + 1) (k + 1)) := Ln.apart_lf hlt hc HA.out
        go_wp2_with (at_builtin; refine wpList_append_own _ rfl (.tmp 15) (.tmp 21) 46 rfl w.heap.size 34 i0 (.agg #[.string ⟨#[]⟩, .bool false]) 2 24 Try.underlying46 hi hz0 hz1 hz2 rfl (by decide) _ _ _ rfl (hown.alloc _) ⟨wr.heap.size, 0, none⟩ 1 1 [.string (s.extract q k), .bool true] rfl rfl (cell_two_new _ _ _ _) ?c2 ?c3 ?c4 ?c5 ?_)
        case c2 => first | rfl | (intro u hu; simp at hu; rcases hu with rfl | rfl <;> rfl)
        case c3 => unfold maxLen; omega
        case c4 => omega
        case c5 => first | omega | (simp; omega)
        intro v' w1 hown' hgrow _
        have hb1 : Below w.heap.size w w1 := (hnx.alloc hsz _).grown hgrow (by simp; omega) (fun g hg => (hown.lt g hg).1)
        have ho3 : w1.ownsRow w.heap.size 34 2 v' (done ++ [(s.extract q k, true)]).length (lcells (done ++ [(s.extract q k, true)])) := by rw [lcells_append, List.length_append]; exact hown'
        clear hgrow hown' hown
        go_wp2
        go_roundw
        case rel => exact ⟨k + 1, k + 1, done ++ [(s.extract q k, true)], by omega, by omega, by go_num, by go_num, by simp; omega, HR, ho3, hb1⟩
        case measure => simp [intOf]; omega
    · by_cases hqs : q < s.size
      · have HE : Hid (Ln.splB s = done ++ [(s.extract q s.size, false)]) := Ln.apart_end (by omega) HA.out hqs
        have hqi : (q : Int) < (s.size : Int) := by omega
        go_wp2_with (at_builtin; refine wpList_append_own _ rfl (.tmp 30) (.tmp 35) 46 rfl w.heap.size 34 i0 (.agg #[.string ⟨#[]⟩, .bool false]) 2 24 Try.underlying46 hi hz0 hz1 hz2 rfl (by decide) _ _ _ rfl (hown.alloc _) ⟨wr.heap.size, 0, none⟩ 1 1 [.string (s.extract q s.size), .bool false] rfl rfl (cell_two_new _ _ _ _) ?c2 ?c3 ?c4 ?c5 ?_)
        case c2 => first | rfl | (intro u hu; simp at hu; rcases hu with rfl | rfl <;> rfl)
        case c3 => unfold maxLen; omega
        case c4 => omega
        case c5 => first | omega | (simp; omega)
        intro v' w1 hown' hgrow _
        have hb1 : Below w.heap.size w w1 := (hnx.alloc hsz _).grown hgrow (by simp; omega) (fun g hg => (hown.lt g hg).1)
        have ho3 : w1.ownsRow w.heap.size 34 2 v' (done ++ [(s.extract q s.size, false)]).length (lcells (done ++ [(s.extract q s.size, false)])) := by rw [lcells_append, List.length_append]; exact hown'
        clear hgrow hown' hown
        go_wp2
        go_ret
        exact ⟨_, rfl, by rw [HE.out]; exact ho3, hb1⟩
      · have HE : Hid (Ln.splB s = done) := Ln.apart_full (by omega) HA.out hqs
        go_wp2_with fail
        go_ret
        exact ⟨_, rfl, by rw [HE.out]; exact hown, hnx⟩

set_option maxRecDepth 100000 in
set_option maxHeartbeats 1000000 in
theorem rsplit_any (s : ByteArray) (w : World) (hs : s.size ≤ 33554432) :
    Calls Try.prog 30 #[.string s] w fun e w' => ∃ v, e = .returned v ∧ w'.ownsRow w.heap.size 34 2 v (Ln.splB s).length (lcells (Ln.splB s)) ∧ Below w.heap.size w w' := by
  obtain ⟨i0, hi, hz0, hz1, hz2⟩ := info_parts Try.infoLine
  go_enter Try.func30, Try.ntmps30
  go_wp2
  go_loopw [3, 4, 5] (fun v f i wr => ∃ (k q : Nat) (done : List (ByteArray × Bool)), q ≤ k ∧ k ≤ s.size ∧ i = .int .i64 k ∧ f = .int .i64 q ∧ done.length ≤ k ∧ Hid (Ln.Apart s done q k) ∧ wr.ownsRow w.heap.size 34 2 v done.length (lcells done) ∧ Below w.heap.size w wr)
    (fun _ _ i _ => s.size - (intOf i).toNat)
  case atStart => exact ⟨0, 0, [], Nat.le_refl _, Nat.zero_le _, rfl, rfl, Nat.le_refl _, Ln.apart_start s, World.ownsRow_nil _ _ _ _, Below.refl _ _⟩
  case round =>
    obtain ⟨k, q, done, hq, hk, rfl, rfl, hd, HA, hown, hnx⟩ := hrel
    have hsz := hnx.size
    by_cases hlt : k < s.size
    · cases hc : ((s[k].toNat : Int) == 10)
      · have HR : Hid (Ln.Apart s done q (k + 1)) := Ln.apart_other hq hlt hc HA.out
        go_wp2
        go_roundw
        case rel => exact ⟨k + 1, q, done, by omega, by omega, by go_num, rfl, by omega, HR, hown, hnx⟩
        case measure => simp [intOf]; omega
      · have HR : Hid (Ln.Apart s (done ++ [(s.extract q k, true)]) (k + 1) (k + 1)) := Ln.apart_lf hlt hc HA.out
        go_wp2_with (at_builtin; refine wpList_append_own _ rfl _ _ 46 rfl w.heap.size 34 i0 (.agg #[.string ⟨#[]⟩, .bool false]) 2 24 Try.underlying46 hi hz0 hz1 hz2 rfl (by decide) _ _ _ rfl (hown.alloc _) ⟨wr.heap.size, 0, none⟩ 1 1 [.string (s.extract q k), .bool true] rfl rfl (cell_two_new _ _ _ _) ?c2 ?c3 ?c4 ?c5 ?_)
        case c2 => first | rfl | (intro u hu; simp at hu; rcases hu with rfl | rfl <;> rfl)
        case c3 => unfold maxLen; omega
        case c4 => omega
        case c5 => first | omega | (simp; omega)
        intro v' w1 hown' hgrow _
        have hb1 : Below w.heap.size w w1 := (hnx.alloc hsz _).grown hgrow (by simp; omega) (fun g hg => (hown.lt g hg).1)
        have ho3 : w1.ownsRow w.heap.size 34 2 v' (done ++ [(s.extract q k, true)]).length (lcells (done ++ [(s.extract q k, true)])) := by rw [lcells_append, List.length_append]; exact hown'
        clear hgrow hown' hown
        go_wp2
        go_roundw
        case rel => exact ⟨k + 1, k + 1, done ++ [(s.extract q k, true)], by omega, by omega, by go_num, by go_num, by simp; omega, HR, ho3, hb1⟩
        case measure => simp [intOf]; omega
    · by_cases hqs : q < s.size
      · have HE : Hid (Ln.splB s = done ++ [(s.extract q s.size, false)]) := Ln.apart_end (by omega) HA.out hqs
        have hqi : (q : Int) < (s.size : Int) := by omega
        go_wp2_with (at_builtin; refine wpList_append_own _ rfl _ _ 46 rfl w.heap.size 34 i0 (.agg #[.string ⟨#[]⟩, .bool false]) 2 24 Try.underlying46 hi hz0 hz1 hz2 rfl (by decide) _ _ _ rfl (hown.alloc _) ⟨wr.heap.size, 0, none⟩ 1 1 [.string (s.extract q s.size), .bool false] rfl rfl (cell_two_new _ _ _ _) ?c2 ?c3 ?c4 ?c5 ?_)
        case c2 => first | rfl | (intro u hu; simp at hu; rcases hu with rfl | rfl <;> rfl)
        case c3 => unfold maxLen; omega
        case c4 => omega
        case c5 => first | omega | (simp; omega)
        intro v' w1 hown' hgrow _
        have hb1 : Below w.heap.size w w1 := (hnx.alloc hsz _).grown hgrow (by simp; omega) (fun g hg => (hown.lt g hg).1)
        have ho3 : w1.ownsRow w.heap.size 34 2 v' (done ++ [(s.extract q s.size, false)]).length (lcells (done ++ [(s.extract q s.size, false)])) := by rw [lcells_append, List.length_append]; exact hown'
        clear hgrow hown' hown
        go_wp2
        go_ret
        exact ⟨_, rfl, by rw [HE.out]; exact ho3, hb1⟩
      · have HE : Hid (Ln.splB s = done) := Ln.apart_full (by omega) HA.out hqs
        go_wp2_with fail
        go_ret
        exact ⟨_, rfl, by rw [HE.out]; exact hown, hnx⟩


end Go.Proofs.Ythmofbcjhfcokaa
