/- What lines.Split, lines.Count, lines.First, and the reference's Split, First and Same answer. -/
import Derived.Test.YtpoimhkfajppmaaDoorLLines
import Derived.Test.YtpoimhkfajppmaaDoorLPlainS
import Derived.Deep.QuietTactic
import Derived.BigQuiet
namespace Go.Proofs.YtpoimhkfajppmaaDoor
open Go.RowKit

set_option maxRecDepth 100000 in
set_option maxHeartbeats 1000000 in
theorem split_any (s : ByteArray) (w : World) (hs : s.size ≤ 33554432) :
    Calls Tryd.prog 17 #[.string s] w fun e w' => ∃ v, e = .returned v ∧ w'.ownsRow w.heap.size 38 2 v (Ln.splB s).length (lcells (Ln.splB s)) ∧ Below w.heap.size w w' := by
  obtain ⟨i0, hi, hz0, hz1, hz2⟩ := info_parts Tryd.infoLine
  go_enter Tryd.func17, Tryd.ntmps17
  go_wp2
  go_loopw [3, 4, 8] (fun v f i wr => ∃ (k q : Nat) (done : List (ByteArray × Bool)), q ≤ k ∧ k ≤ s.size ∧ i = .int .i64 k ∧ f = .int .i64 q ∧ done.length ≤ k ∧ Hid (Ln.Apart s done q k) ∧ wr.ownsRow w.heap.size 38 2 v done.length (lcells done) ∧ Below w.heap.size w wr)
    (fun _ _ i _ => s.size - (intOf i).toNat)
  case atStart => exact ⟨0, 0, [], Nat.le_refl _, Nat.zero_le _, rfl, rfl, Nat.le_refl _, Ln.apart_start s, World.ownsRow_nil _ _ _ _, Below.refl _ _⟩
  case round =>
    obtain ⟨k, q, done, hq, hk, rfl, rfl, hd, HA, hown, hnx⟩ := hrel
    have hsz := hnx.size
    by_cases hlt : k < s.size
    · cases hc : ((s[k].toNat : Int) == 10)
      · have HR : Hid (Ln.Apart s done q (k + 1)) := Ln.apart_other hq hlt hc HA.out
        go_wp2
        go_roundw
        case rel => exact ⟨k + 1, q, done, by omega, by omega, by go_num, rfl, by omega, HR, hown, hnx⟩
        case measure => simp [intOf]; omega
      · have HR : Hid (Ln.Apart s (done ++ [(s.extract q k, true)]) (k + 1) (k + 1)) := Ln.apart_lf hlt hc HA.out
        go_wp2_with (at_builtin; refine wpList_append_own _ rfl (.tmp 15) (.tmp 21) 35 rfl w.heap.size 38 i0 (.agg #[.string ⟨#[]⟩, .bool false]) 2 24 Tryd.underlying35 hi hz0 hz1 hz2 rfl (by decide) _ _ _ rfl (hown.alloc _) ⟨wr.heap.size, 0, none⟩ 1 1 [.string (s.extract q k), .bool true] rfl rfl (cell_two_new _ _ _ _) ?c2 ?c3 ?c4 ?c5 ?_)
        case c2 => first | rfl | (intro u hu; simp at hu; rcases hu with rfl | rfl <;> rfl)
        case c3 => unfold maxLen; omega
        case c4 => omega
        case c5 => first | omega | (simp; omega)
        intro v' w1 hown' hgrow _
        have hb1 : Below w.heap.size w w1 := (hnx.alloc hsz _).grown hgrow (by simp; omega) (fun g hg => (hown.lt g hg).1)
        have ho3 : w1.ownsRow w.heap.size 38 2 v' (done ++ [(s.extract q k, true)]).length (lcells (done ++ [(s.extract q k, true)])) := by rw [lcells_append, List.length_append]; exact hown'
        clear hgrow hown' hown
        go_wp2
        go_roundw
        case rel => exact ⟨k + 1, k + 1, done ++ [(s.extract q k, true)], by omega, by omega, by go_num, by go_num, by simp; omega, HR, ho3, hb1⟩
        case measure => simp [intOf]; omega
    · by_cases hqs : q < s.size
      · have HE : Hid (Ln.splB s = done ++ [(s.extract q s.size, false)]) := Ln.apart_end (by omega) HA.out hqs
        have hqi : (q : Int) < (s.size : Int) := by omega
        go_wp2_with (at_builtin; refine wpList_append_own _ rfl (.tmp 30) (.tmp 35) 35 rfl w.heap.size 38 i0 (.agg #[.string ⟨#[]⟩, .bool false]) 2 24 Tryd.underlying35 hi hz0 hz1 hz2 rfl (by decide) _ _ _ rfl (hown.alloc _) ⟨wr.heap.size, 0, none⟩ 1 1 [.string (s.extract q s.size), .bool false] rfl rfl (cell_two_new _ _ _ _) ?c2 ?c3 ?c4 ?c5 ?_)
        case c2 => first | rfl | (intro u hu; simp at hu; rcases hu with rfl | rfl <;> rfl)
        case c3 => unfold maxLen; omega
        case c4 => omega
        case c5 => first | omega | (simp; omega)
        intro v' w1 hown' hgrow _
        have hb1 : Below w.heap.size w w1 := (hnx.alloc hsz _).grown hgrow (by simp; omega) (fun g hg => (hown.lt g hg).1)
        have ho3 : w1.ownsRow w.heap.size 38 2 v' (done ++ [(s.extract q s.size, false)]).length (lcells (done ++ [(s.extract q s.size, false)])) := by rw [lcells_append, List.length_append]; exact hown'
        clear hgrow hown' hown
        go_wp2
        go_ret
        exact ⟨_, rfl, by rw [HE.out]; exact ho3, hb1⟩
      · have HE : Hid (Ln.splB s = done) := Ln.apart_full (by omega) HA.out hqs
        go_wp2_with fail
        go_ret
        exact ⟨_, rfl, by rw [HE.out]; exact hown, hnx⟩

set_option maxRecDepth 100000 in
set_option maxHeartbeats 1000000 in
theorem rsplit_any (s : ByteArray) (w : World) (hs : s.size ≤ 33554432) :
    Calls Tryd.prog 20 #[.string s] w fun e w' => ∃ v, e = .returned v ∧ w'.ownsRow w.heap.size 38 2 v (Ln.splB s).length (lcells (Ln.splB s)) ∧ Below w.heap.size w w' := by
  obtain ⟨i0, hi, hz0, hz1, hz2⟩ := info_parts Tryd.infoLine
  go_enter Tryd.func20, Tryd.ntmps20
  go_wp2
  go_loopw [3, 4, 5] (fun v f i wr => ∃ (k q : Nat) (done : List (ByteArray × Bool)), q ≤ k ∧ k ≤ s.size ∧ i = .int .i64 k ∧ f = .int .i64 q ∧ done.length ≤ k ∧ Hid (Ln.Apart s done q k) ∧ wr.ownsRow w.heap.size 38 2 v done.length (lcells done) ∧ Below w.heap.size w wr)
    (fun _ _ i _ => s.size - (intOf i).toNat)
  case atStart => exact ⟨0, 0, [], Nat.le_refl _, Nat.zero_le _, rfl, rfl, Nat.le_refl _, Ln.apart_start s, World.ownsRow_nil _ _ _ _, Below.refl _ _⟩
  case round =>
    obtain ⟨k, q, done, hq, hk, rfl, rfl, hd, HA, hown, hnx⟩ := hrel
    have hsz := hnx.size
    by_cases hlt : k < s.size
    · cases hc : ((s[k].toNat : Int) == 10)
      · have HR : Hid (Ln.Apart s done q (k + 1)) := Ln.apart_other hq hlt hc HA.out
        go_wp2
        go_roundw
        case rel => exact ⟨k + 1, q, done, by omega, by omega, by go_num, rfl, by omega, HR, hown, hnx⟩
        case measure => simp [intOf]; omega
      · have HR : Hid (Ln.Apart s (done ++ [(s.extract q k, true)]) (k + 1) (k + 1)) := Ln.apart_lf hlt hc HA.out
        go_wp2_with (at_builtin; refine wpList_append_own _ rfl _ _ 35 rfl w.heap.size 38 i0 (.agg #[.string ⟨#[]⟩, .bool false]) 2 24 Tryd.underlying35 hi hz0 hz1 hz2 rfl (by decide) _ _ _ rfl (hown.alloc _) ⟨wr.heap.size, 0, none⟩ 1 1 [.string (s.extract q k), .bool true] rfl rfl (cell_two_new _ _ _ _) ?c2 ?c3 ?c4 ?c5 ?_)
        case c2 => first | rfl | (intro u hu; simp at hu; rcases hu with rfl | rfl <;> rfl)
        case c3 => unfold maxLen; omega
        case c4 => omega
        case c5 => first | omega | (simp; omega)
        intro v' w1 hown' hgrow _
        have hb1 : Below w.heap.size w w1 := (hnx.alloc hsz _).grown hgrow (by simp; omega) (fun g hg => (hown.lt g hg).1)
        have ho3 : w1.ownsRow w.heap.size 38 2 v' (done ++ [(s.extract q k, true)]).length (lcells (done ++ [(s.extract q k, true)])) := by rw [lcells_append, List.length_append]; exact hown'
        clear hgrow hown' hown
        go_wp2
        go_roundw
        case rel => exact ⟨k + 1, k + 1, done ++ [(s.extract q k, true)], by omega, by omega, by go_num, by go_num, by simp; omega, HR, ho3, hb1⟩
        case measure => simp [intOf]; omega
    · by_cases hqs : q < s.size
      · have HE : Hid (Ln.splB s = done ++ [(s.extract q s.size, false)]) := Ln.apart_end (by omega) HA.out hqs
        have hqi : (q : Int) < (s.size : Int) := by omega
        go_wp2_with (at_builtin; refine wpList_append_own _ rfl _ _ 35 rfl w.heap.size 38 i0 (.agg #[.string ⟨#[]⟩, .bool false]) 2 24 Tryd.underlying35 hi hz0 hz1 hz2 rfl (by decide) _ _ _ rfl (hown.alloc _) ⟨wr.heap.size, 0, none⟩ 1 1 [.string (s.extract q s.size), .bool false] rfl rfl (cell_two_new _ _ _ _) ?c2 ?c3 ?c4 ?c5 ?_)
        case c2 => first | rfl | (intro u hu; simp at hu; rcases hu with rfl | rfl <;> rfl)
        case c3 => unfold maxLen; omega
        case c4 => omega
        case c5 => first | omega | (simp; omega)
        intro v' w1 hown' hgrow _
        have hb1 : Below w.heap.size w w1 := (hnx.alloc hsz _).grown hgrow (by simp; omega) (fun g hg => (hown.lt g hg).1)
        have ho3 : w1.ownsRow w.heap.size 38 2 v' (done ++ [(s.extract q s.size, false)]).length (lcells (done ++ [(s.extract q s.size, false)])) := by rw [lcells_append, List.length_append]; exact hown'
        clear hgrow hown' hown
        go_wp2
        go_ret
        exact ⟨_, rfl, by rw [HE.out]; exact ho3, hb1⟩
      · have HE : Hid (Ln.splB s = done) := Ln.apart_full (by omega) HA.out hqs
        go_wp2_with fail
        go_ret
        exact ⟨_, rfl, by rw [HE.out]; exact hown, hnx⟩


set_option maxRecDepth 100000 in
set_option maxHeartbeats 1000000 in
theorem count_any (s : ByteArray) (w : World) (hs : s.size ≤ 33554432) :
    Calls Tryd.prog 14 #[.string s] w fun e w' => e = .returned (.int .i64 ((Ln.splB s).length : Nat)) ∧ w = w' := by
  have HS : Hid ((Ln.splB s).length = Ln.lfs s.data.toList + (if s.data.toList.isEmpty || Ln.lastLf s.data.toList then 0 else 1)) := by
    show _ = _; rw [← Ln.spl_count]; simp [Ln.splB]
  go_enter Tryd.func14, Tryd.ntmps14
  go_wp2
  go_loop [3, 7] (fun n i => ∃ k q : Nat, k ≤ s.size ∧ i = .int .i64 k ∧ n = .int .i64 q ∧ q ≤ k ∧ Hid (Ln.lfs (s.data.toList.take k) = q)) (fun _ i => s.size - (intOf i).toNat)
  case atStart => exact ⟨0, 0, Nat.zero_le _, rfl, rfl, Nat.le_refl _, rfl⟩
  case round =>
    obtain ⟨k, q, hk, rfl, rfl, hq, HC⟩ := hrel
    by_cases hlt : k < s.size
    · have hsn := Ln.lfs_snoc s k hlt
      rw [HC.out] at hsn
      cases hc : ((s[k].toNat : Int) == 10)
      · have HN : Hid (Ln.lfs (s.data.toList.take (k + 1)) = q) := by rw [hc] at hsn; simpa [Hid] using hsn
        clear hsn
        go_wp2
        go_round
        case rel => exact ⟨k + 1, q, by omega, by go_num, rfl, by omega, HN⟩
        case measure => simp [intOf]; omega
      · have HN : Hid (Ln.lfs (s.data.toList.take (k + 1)) = q + 1) := by rw [hc] at hsn; simpa [Hid] using hsn
        clear hsn
        go_wp2
        go_round
        case rel => exact ⟨k + 1, q + 1, by omega, by go_num, by go_num, by omega, HN⟩
        case measure => simp [intOf]; omega
    · have HL : Hid (Ln.lfs s.data.toList = q) := by have := HC.out; rwa [Ln.take_all s k (by omega)] at this
      clear HC
      by_cases h0 : s.toList = []
      · have HE : Hid ((Ln.splB s).length = q) := by
          have := HS.out
          rw [HL.out] at this
          rw [Ln.toL] at h0
          rw [h0] at this
          simpa [Hid] using this
        have b0 : (s.toList != []) = false := by simpa using h0
        go_wp2_with fail
        go_ret
        exact ⟨ret_int (by rw [HE.out]), rfl⟩
      · have hpos : 0 < s.size := by
          rw [Ln.toL] at h0
          have := Ln.szL s
          cases hl : s.data.toList with
          | nil => exact absurd hl h0
          | cons a b => rw [hl] at this; simp at this; omega
        have hla := Ln.last_at hpos
        have he : s.data.toList.isEmpty = false := by rw [Ln.toL] at h0; simpa using h0
        have b0 : s.toList.isEmpty = false := by rw [Ln.toL]; exact he
        cases hc : ((s[s.size - 1].toNat : Int) == 10)
        · have HE : Hid ((Ln.splB s).length = q + 1) := by
            have := HS.out
            rw [HL.out, he, hla, hc] at this
            simpa [Hid] using this
          have hc' : ((s[s.size - 1].toNat : Int) != 10) = true := by simpa using hc
          clear hla he h0
          go_wp2_with fail
          go_ret
          exact ⟨ret_int (by show (q : Int) + 1 = _; rw [HE.out]; omega), rfl⟩
        · have HE : Hid ((Ln.splB s).length = q) := by
            have := HS.out
            rw [HL.out, he, hla, hc] at this
            simpa [Hid] using this
          have hc' : ((s[s.size - 1].toNat : Int) != 10) = false := by simpa using hc
          clear hla he h0
          go_wp2_with fail
          go_ret
          exact ⟨ret_int (by rw [HE.out]), rfl⟩
end Go.Proofs.YtpoimhkfajppmaaDoor
