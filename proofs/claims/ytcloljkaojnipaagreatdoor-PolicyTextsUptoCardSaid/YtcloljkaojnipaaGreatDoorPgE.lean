/- What paths.mayStand, paths.fresh and paths.parts answer. What the reference's Copy answers. What paths.shared, paths.Within and the reference's both and Same answer. What the reference's both and Same answer. What the reference's Same answers. An append onto a row of the call's own, up to growslice's own bound: where the new slice lies. A slice value that reads as a list of paths in a world, one of the call's own, and what keeps it so. What paths.Within answers. What paths.Compare (by slices.Compare and cmp.Compare) answer. -/
import Derived.Test.YtcloljkaojnipaaGreatDoorPgA
import Derived.Laws.AppendOwnNone
import Derived.Deep.QuietTactic
import Derived.BigQuiet
import Derived.Test.YtcloljkaojnipaaGreatDoorPgP
import Derived.Deep.DeepAppendWide
import Derived.Laws.OwnMore
import Derived.Tactics
namespace Go.Proofs.YtcloljkaojnipaaGreatDoor
open Go.RowKit

theorem Tryz.infoStr : (Tryz.prog.info? 9).map (fun i => (i.zero, i.size, i.bytes)) = some (some (.string ⟨#[]⟩), 1, 16) := by kernel_rfl

set_option maxHeartbeats 400000 in
theorem may_any (s : ByteArray) (w : World) (hs : s.size ≤ maxLen) :
    Calls Tryz.prog 116 #[.string s] w fun e w' => e = .returned (.bool (Pl.mayB s)) ∧ w = w' := by
  have hm := hs
  unfold maxLen at hs
  by_cases h1 : s.toList = []
  · go_enter Tryz.func116, Tryz.ntmps116
    go_wp2_with fail
    go_ret
    exact ⟨ret_bool (Pl.may_empty h1).symm, rfl⟩
  by_cases h3 : s.toList = [46]
  · go_enter Tryz.func116, Tryz.ntmps116
    go_wp2_with fail
    go_ret
    exact ⟨ret_bool (Pl.may_dot h3).symm, rfl⟩
  by_cases h4 : s.toList = [46, 46]
  · go_enter Tryz.func116, Tryz.ntmps116
    go_wp2_with fail
    go_ret
    exact ⟨ret_bool (Pl.may_dots h4).symm, rfl⟩
  have HH : Hid (Pl.mayB s = Pl.nameB s) := Pl.may_name h1 h3 h4
  have b1 : s.toList.isEmpty = false := by simpa using h1
  have b3 : (s.toList == [46]) = false := by simpa using h3
  have b4 : (s.toList == [46, 46]) = false := by simpa using h4
  clear h1 h3 h4
  go_enter Tryz.func116, Tryz.ntmps116
  go_wp2_with (go_at_call 68; refine (name_any _ _ hm).mono ?_; rintro e w' ⟨rfl, rfl⟩)
  go_ret
  exact ⟨ret_bool HH.out.symm, rfl⟩

set_option maxHeartbeats 400000 in
theorem fresh_any (a : Option Addr) (cap : Nat) (l : List ByteArray) (w : World) (h : Strs w a cap l) :
    Calls Tryz.prog 60 #[.slice a l.length cap] w fun e w' => ∃ v, e = .returned v ∧ w'.ownsRow w.heap.size 9 1 v l.length (l.map Value.string) ∧ Below w.heap.size w w' := by
  have hl := h.len
  obtain ⟨i0, hi, hz0, hz1, hz2⟩ := info_parts Tryz.infoStr
  cases a with
  | none =>
    obtain ⟨rfl, rfl⟩ := h.none
    go_enter Tryz.func60, Tryz.ntmps60
    go_wp2_with (at_builtin; refine wpList_append_own_none rfl _ _ 26 rfl w.heap.size 9 i0 1 Tryz.underlying26 hi _ 0 [] rfl (World.ownsRow_nil _ _ _ _) rfl ?_)
    go_ret
    exact ⟨_, rfl, World.ownsRow_nil _ _ _ _, Below.refl _ _⟩
  | some ad =>
    go_enter Tryz.func60, Tryz.ntmps60
    go_wp2_with (at_builtin; refine wpList_append_own _ rfl _ _ 26 rfl w.heap.size 9 i0 (.string ⟨#[]⟩) 1 16 Tryz.underlying26 hi hz0 hz1 hz2 rfl (by decide) _ _ _ rfl (World.ownsRow_nil _ _ _ _) ad l.length cap (l.map Value.string) rfl (by simp) h.news (strings_oneCell l) ?c3 ?c4 (Nat.le_refl _) ?_)
    case c3 => unfold maxLen; omega
    case c4 => omega
    intro v' w1 hown' hgrow _
    go_wp2
    go_ret
    refine ⟨_, rfl, by simpa using hown', (Below.refl _ _).grown hgrow (Nat.le_refl _) (fun k hk => by cases hk)⟩

set_option maxHeartbeats 800000 in
theorem parts_any (s : ByteArray) (w : World) (hs : s.size ≤ 1048576) :
    Calls Tryz.prog 115 #[.string s] w fun e w' => ∃ v, e = .returned v ∧ w'.ownsRow w.heap.size 9 1 v (Pl.partsB s).length ((Pl.partsB s).map Value.string) ∧ Below w.heap.size w w' := by
  obtain ⟨i0, hi, hz0, hz1, hz2⟩ := info_parts Tryz.infoStr
  go_enter Tryz.func115, Tryz.ntmps115
  go_wp2
  go_loopw [3, 4, 8] (fun v f i wr => ∃ (k q : Nat) (done : List ByteArray), q ≤ k ∧ k ≤ s.size ∧ i = .int .i64 k ∧ f = .int .i64 q ∧ done.length ≤ k ∧ Pl.Apart s done q k ∧ wr.ownsRow w.heap.size 9 1 v done.length (done.map Value.string) ∧ Below w.heap.size w wr)
    (fun _ _ i _ => s.size - (intOf i).toNat)
  case atStart => exact ⟨0, 0, [], Nat.le_refl _, Nat.zero_le _, rfl, rfl, Nat.le_refl _, Pl.apart_start s, World.ownsRow_nil _ _ _ _, Below.refl _ _⟩
  case round =>
    obtain ⟨k, q, done, hq, hk, rfl, rfl, hd, ha, hown, hnx⟩ := hrel
    have HA : Hid (Pl.Apart s done q k) := ha
    clear ha
    have hsz := hnx.size
    by_cases hlt : k < s.size
    · cases hc : ((s[k].toNat : Int) == 47)
      · have HR : Hid (Pl.Apart s done q (k + 1)) := Pl.apart_other hq hlt hc HA.out
        go_wp2
        go_roundw
        case rel => exact ⟨k + 1, q, done, by omega, by omega, by go_num, rfl, by omega, HR.out, hown, hnx⟩
        case measure => simp [intOf]; omega
      · have HR : Hid (Pl.Apart s (done ++ [s.extract q k]) (k + 1) (k + 1)) := Pl.apart_slash hlt hc HA.out
        go_wp2_with (at_builtin; refine wpList_append_own _ rfl _ _ 25 rfl w.heap.size 9 i0 (.string ⟨#[]⟩) 1 16 Tryz.underlying25 hi hz0 hz1 hz2 rfl (by decide) _ _ _ rfl (hown.alloc _) ⟨wr.heap.size, 0, none⟩ 1 1 [.string (s.extract q k)] rfl rfl (cell_one_new _ _ _) ?c2 ?c3 ?c4 ?c5 ?_)
        case c2 => intro u hu; simp at hu; subst hu; rfl
        case c3 => unfold maxLen; omega
        case c4 => omega
        case c5 => simp; omega
        intro v' w1 hown' hgrow _
        have hb1 : Below w.heap.size w w1 := (hnx.alloc hsz _).grown hgrow (by simp; omega) (fun g hg => (hown.lt g hg).1)
        go_wp2
        go_roundw
        case rel => exact ⟨k + 1, k + 1, done ++ [s.extract q k], by omega, by omega, by go_num, by go_num, by simp; omega, HR.out, by simpa using hown', hb1⟩
        case measure => simp [intOf]; omega
    · have HE : Hid (Pl.partsB s = done ++ [s.extract q s.size]) := Pl.apart_end (by omega) HA.out
      go_wp2_with (at_builtin; refine wpList_append_own _ rfl _ _ 25 rfl w.heap.size 9 i0 (.string ⟨#[]⟩) 1 16 Tryz.underlying25 hi hz0 hz1 hz2 rfl (by decide) _ _ _ rfl (hown.alloc _) ⟨wr.heap.size, 0, none⟩ 1 1 [.string (s.extract q s.size)] rfl rfl (cell_one_new _ _ _) ?c2 ?c3 ?c4 ?c5 ?_)
      case c2 => intro u hu; simp at hu; subst hu; rfl
      case c3 => unfold maxLen; omega
      case c4 => omega
      case c5 => simp; omega
      intro v' w1 hown' hgrow _
      have hb1 : Below w.heap.size w w1 := (hnx.alloc hsz _).grown hgrow (by simp; omega) (fun g hg => (hown.lt g hg).1)
      go_wp2
      go_ret
      refine ⟨_, rfl, ?_, hb1⟩
      rw [HE.out]
      simpa using hown'
end Go.Proofs.YtcloljkaojnipaaGreatDoor
namespace Go.Proofs.YtcloljkaojnipaaGreatDoor
open Go.RowKit

set_option maxHeartbeats 800000 in
theorem copy_any (a : Option Addr) (cap : Nat) (l : List ByteArray) (w : World) (h : Strs w a cap l) :
    Calls Tryz.prog 56 #[.slice a l.length cap] w fun e w' => ∃ v, e = .returned v ∧ w'.ownsRow w.heap.size 9 1 v l.length (l.map Value.string) ∧ Below w.heap.size w w' := by
  have hl := h.len
  obtain ⟨i0, hi, hz0, hz1, hz2⟩ := info_parts Tryz.infoStr
  go_enter Tryz.func56, Tryz.ntmps56
  go_wp2
  go_loopw [3, 4] (fun v i wr => ∃ k : Nat, k ≤ l.length ∧ i = .int .i64 k ∧ wr.ownsRow w.heap.size 9 1 v (l.take k).length ((l.take k).map Value.string) ∧ Below w.heap.size w wr)
    (fun _ i _ => l.length - (intOf i).toNat)
  case atStart => exact ⟨0, Nat.zero_le _, rfl, World.ownsRow_nil _ _ _ _, Below.refl _ _⟩
  case round =>
    obtain ⟨k, hk, rfl, hown, hnx⟩ := hrel
    have hsz := hnx.size
    by_cases hlt : k < l.length
    · obtain ⟨b, off, rfl, hb0, hc0⟩ := h.cells k hlt
      have hc : wr.cell? ⟨b, off + k, none⟩ = some (.string (l[k]'hlt)) := (hnx.cell (p := ⟨b, off + k, none⟩) hb0).trans hc0
      have HT : Hid (l.take (k + 1) = l.take k ++ [l[k]'hlt]) := List.take_succ_eq_append_getElem hlt
      have htl : (l.take k).length ≤ k := List.length_take_le _ _
      generalize l[k]'hlt = x at *
      generalize l.take k = T at *
      clear hc0
      go_wp2_with (at_builtin; refine wpList_append_own _ rfl _ _ 26 rfl w.heap.size 9 i0 (.string ⟨#[]⟩) 1 16 Tryz.underlying26 hi hz0 hz1 hz2 rfl (by decide) _ _ _ rfl (hown.alloc _) ⟨wr.heap.size, 0, none⟩ 1 1 [.string x] rfl rfl (cell_one_new _ _ _) ?c2 ?c3 ?c4 ?c5 ?_)
      case c2 => intro u hu; simp at hu; subst hu; rfl
      case c3 => unfold maxLen; omega
      case c4 => omega
      case c5 => simp; omega
      intro v' w1 hown' hgrow _
      have hb1 : Below w.heap.size w w1 := (hnx.alloc hsz _).grown hgrow (by simp; omega) (fun g hg => (hown.lt g hg).1)
      have hown3 : w1.ownsRow w.heap.size 9 1 v' (T ++ [x]).length ((T ++ [x]).map Value.string) := by simpa using hown'
      clear hgrow hown hown'
      go_wp2
      go_roundw
      case rel => exact ⟨k + 1, by omega, by go_num, by rw [HT.out]; exact hown3, hb1⟩
      case measure => simp [intOf]; omega
    · have ht : l.take k = l := List.take_of_length_le (by omega)
      rw [ht] at hown
      go_wp2
      go_ret
      exact ⟨_, rfl, hown, hnx⟩
end Go.Proofs.YtcloljkaojnipaaGreatDoor
namespace Go.Proofs.YtcloljkaojnipaaGreatDoor
open Go.RowKit

set_option maxHeartbeats 800000 in
theorem shared_any (a1 a2 : Option Addr) (c1 c2 : Nat) (l1 l2 : List ByteArray) (w : World) (h1 : Strs w a1 c1 l1) (h2 : Strs w a2 c2 l2) :
    Calls Tryz.prog 88 #[.slice a1 l1.length c1, .slice a2 l2.length c2] w fun e w' => e = .returned (.int .i64 (Pl.com l1 l2 : Nat)) ∧ ∃ n, w' = w.drewN n := by
  have hl1 := h1.len
  have hl2 := h2.len
  go_enter Tryz.func88, Tryz.ntmps88
  go_wp2
  go_loopw [5] (fun v wr => ∃ k m : Nat, k ≤ l1.length ∧ k ≤ l2.length ∧ v = .int .i64 k ∧ Hid (Pl.com l1 l2 = k + Pl.com (l1.drop k) (l2.drop k)) ∧ wr = w.drewN m)
    (fun v _ => l1.length - (intOf v).toNat)
  case atStart => exact ⟨0, 0, Nat.zero_le _, Nat.zero_le _, rfl, by simp [Hid], rfl⟩
  case round =>
    obtain ⟨k, m, hk1, hk2, rfl, HC, rfl⟩ := hrel
    by_cases hlt1 : k < l1.length
    · by_cases hlt2 : k < l2.length
      · obtain ⟨b1, o1, rfl, hb1, hc1⟩ := h1.cells k hlt1
        obtain ⟨b2, o2, rfl, hb2, hc2⟩ := h2.cells k hlt2
        have HS := @Pl.com_step l1 l2 k hlt1 hlt2
        have HT := @Pl.com_stop l1 l2 k hlt1 hlt2
        have HS' : Hid (((l1[k]'hlt1).toList == (l2[k]'hlt2).toList) = true → Pl.com (l1.drop k) (l2.drop k) = 1 + Pl.com (l1.drop (k + 1)) (l2.drop (k + 1))) := HS
        have HT' : Hid (((l1[k]'hlt1).toList == (l2[k]'hlt2).toList) = false → Pl.com (l1.drop k) (l2.drop k) = 0) := HT
        clear HS HT
        have i1 : (k : Int) < (l1.length : Int) := by omega
        have i2 : (k : Int) < (l2.length : Int) := by omega
        generalize l1[k]'hlt1 = x at *
        generalize l2[k]'hlt2 = y at *
        cases hxy : (x.toList == y.toList)
        · have HE : Hid (Pl.com l1 l2 = k) := by have := HC.out; rw [HT'.out hxy] at this; exact this
          go_wp2_with fail
          go_quiet (fail)
          go_wp2
          go_ret
          exact ⟨ret_int (by rw [HE.out]), m + nq, by simp⟩
        · have HE : Hid (Pl.com l1 l2 = (k + 1) + Pl.com (l1.drop (k + 1)) (l2.drop (k + 1))) := by have := HC.out; rw [HS'.out hxy] at this; show _ = _; omega
          go_wp2_with fail
          go_quiet (fail)
          go_wp2
          go_roundw
          case rel => exact ⟨k + 1, m + nq, by omega, by omega, by go_num, HE, by first | rfl | simp⟩
          case measure => simp [intOf]; omega
      · have HE : Hid (Pl.com l1 l2 = k) := by have := HC.out; rw [Pl.com_end_right hlt2] at this; exact this
        have i1 : (k : Int) < (l1.length : Int) := by omega
        have i2 : decide ((k : Int) < (l2.length : Int)) = false := by simp; omega
        go_wp2_with fail
        go_quiet (fail)
        go_wp2
        go_ret
        exact ⟨ret_int (by rw [HE.out]), m + nq, by simp⟩
    · have HE : Hid (Pl.com l1 l2 = k) := by have := HC.out; rw [Pl.com_end_left hlt1] at this; exact this
      have i1 : decide ((k : Int) < (l1.length : Int)) = false := by simp; omega
      go_wp2_with fail
      go_quiet (fail)
      go_wp2
      go_ret
      exact ⟨ret_int (by rw [HE.out]), m + nq, by simp⟩
end Go.Proofs.YtcloljkaojnipaaGreatDoor
namespace Go.Proofs.YtcloljkaojnipaaGreatDoor
open Go.RowKit

set_option maxHeartbeats 800000 in
theorem both_any (a1 a2 : Option Addr) (c1 c2 : Nat) (l1 l2 : List ByteArray) (w : World) (h1 : Strs w a1 c1 l1) (h2 : Strs w a2 c2 l2) :
    Calls Tryz.prog 89 #[.slice a1 l1.length c1, .slice a2 l2.length c2] w fun e w' => e = .returned (.int .i64 (Pl.com l1 l2 : Nat)) ∧ ∃ n, w' = w.drewN n := by
  have hl1 := h1.len
  have hl2 := h2.len
  go_enter Tryz.func89, Tryz.ntmps89
  go_wp2
  go_loopw [5] (fun v wr => ∃ k m : Nat, k ≤ l1.length ∧ k ≤ l2.length ∧ v = .int .i64 k ∧ Hid (Pl.com l1 l2 = k + Pl.com (l1.drop k) (l2.drop k)) ∧ wr = w.drewN m)
    (fun v _ => l1.length - (intOf v).toNat)
  case atStart => exact ⟨0, 0, Nat.zero_le _, Nat.zero_le _, rfl, by simp [Hid], rfl⟩
  case round =>
    obtain ⟨k, m, hk1, hk2, rfl, HC, rfl⟩ := hrel
    by_cases hlt1 : k < l1.length
    · by_cases hlt2 : k < l2.length
      · obtain ⟨b1, o1, rfl, hb1, hc1⟩ := h1.cells k hlt1
        obtain ⟨b2, o2, rfl, hb2, hc2⟩ := h2.cells k hlt2
        have HS := @Pl.com_step l1 l2 k hlt1 hlt2
        have HT := @Pl.com_stop l1 l2 k hlt1 hlt2
        have HS' : Hid (((l1[k]'hlt1).toList == (l2[k]'hlt2).toList) = true → Pl.com (l1.drop k) (l2.drop k) = 1 + Pl.com (l1.drop (k + 1)) (l2.drop (k + 1))) := HS
        have HT' : Hid (((l1[k]'hlt1).toList == (l2[k]'hlt2).toList) = false → Pl.com (l1.drop k) (l2.drop k) = 0) := HT
        clear HS HT
        have i1 : (k : Int) < (l1.length : Int) := by omega
        have i2 : (k : Int) < (l2.length : Int) := by omega
        generalize l1[k]'hlt1 = x at *
        generalize l2[k]'hlt2 = y at *
        cases hxy : (x.toList == y.toList)
        · have HE : Hid (Pl.com l1 l2 = k) := by have := HC.out; rw [HT'.out hxy] at this; exact this
          go_wp2_with fail
          go_quiet (fail)
          go_wp2
          go_ret
          exact ⟨ret_int (by rw [HE.out]), m + nq, by simp⟩
        · have HE : Hid (Pl.com l1 l2 = (k + 1) + Pl.com (l1.drop (k + 1)) (l2.drop (k + 1))) := by have := HC.out; rw [HS'.out hxy] at this; show _ = _; omega
          go_wp2_with fail
          go_quiet (fail)
          go_wp2
          go_roundw
          case rel => exact ⟨k + 1, m + nq, by omega, by omega, by go_num, HE, by first | rfl | simp⟩
          case measure => simp [intOf]; omega
      · have HE : Hid (Pl.com l1 l2 = k) := by have := HC.out; rw [Pl.com_end_right hlt2] at this; exact this
        have i1 : (k : Int) < (l1.length : Int) := by omega
        have i2 : decide ((k : Int) < (l2.length : Int)) = false := by simp; omega
        go_wp2_with fail
        go_quiet (fail)
        go_wp2
        go_ret
        exact ⟨ret_int (by rw [HE.out]), m + nq, by simp⟩
    · have HE : Hid (Pl.com l1 l2 = k) := by have := HC.out; rw [Pl.com_end_left hlt1] at this; exact this
      have i1 : decide ((k : Int) < (l1.length : Int)) = false := by simp; omega
      go_wp2_with fail
      go_quiet (fail)
      go_wp2
      go_ret
      exact ⟨ret_int (by rw [HE.out]), m + nq, by simp⟩
end Go.Proofs.YtcloljkaojnipaaGreatDoor
namespace Go.Proofs.YtcloljkaojnipaaGreatDoor
open Go.RowKit

theorem Strs.drewN {w : World} {a : Option Addr} {cap : Nat} {l : List ByteArray} (h : Strs w a cap l) (n : Nat) : Strs (w.drewN n) a cap l := h.below (below_drewN (Below.refl _ _) n)

set_option maxHeartbeats 400000 in
theorem same_any (a1 a2 : Option Addr) (c1 c2 : Nat) (l1 l2 : List ByteArray) (w : World) (h1 : Strs w a1 c1 l1) (h2 : Strs w a2 c2 l2) :
    Calls Tryz.prog 65 #[.slice a1 l1.length c1, .slice a2 l2.length c2] w fun e w' => e = .returned (.bool (Pl.sameP l1 l2)) ∧ ∃ n, w' = w.drewN n := by
  have hl1 := h1.len
  have hl2 := h2.len
  cases hq : ((l1.length : Int) == (l2.length : Int))
  · have HE : Hid (Pl.sameP l1 l2 = false) := by simp only [Pl.sameP, hq]; rfl
    go_enter Tryz.func65, Tryz.ntmps65
    go_wp2_with fail
    go_ret
    exact ⟨ret_bool HE.out.symm, 0, rfl⟩
  · have HE : Hid (Pl.sameP l1 l2 = ((Pl.com l1 l2 : Int) == (l1.length : Int))) := by simp only [Pl.sameP, hq]; rfl
    go_enter Tryz.func65, Tryz.ntmps65
    go_wp2_with (go_at_call 89; refine (both_any _ _ _ _ l1 l2 _ h1 h2).mono ?_; rintro e w' ⟨rfl, n, rfl⟩)
    go_ret
    exact ⟨ret_bool HE.out.symm, _, rfl⟩

theorem same_b (a1 a2 : Option Addr) (c1 c2 : Nat) (l1 l2 : List ByteArray) (w : World) (h1 : Strs w a1 c1 l1) (h2 : Strs w a2 c2 l2) :
    Calls Tryz.prog 65 #[.slice a1 l1.length c1, .slice a2 l2.length c2] w fun e w' => e = .returned (.bool (Pl.sameP l1 l2)) ∧ Below w.heap.size w w' :=
  (same_any a1 a2 c1 c2 l1 l2 w h1 h2).mono fun _ _ ⟨he, n, hw⟩ => ⟨he, by rw [hw]; exact below_drewN (Below.refl _ _) n⟩
end Go.Proofs.YtcloljkaojnipaaGreatDoor
namespace Go.Proofs.YtcloljkaojnipaaGreatDoor
open Go Go.RowKit

theorem append_lies {P : Program} (w : World) (base : Nat) (t ty e : TypeId) (i : TypeInfo) (z : Value) (size bytes : Nat) (ht : P.underlying t = some (.slice e)) (hi : P.info? e = some i) (hz : i.zero = some z)
    (hsize : i.size = size) (hby : i.bytes = bytes) (v : Value) (n : Nat) (xs : List Value) (hown : w.ownsRow base e size v n xs)
    (a : Addr) (m c : Nat) (news : List Value) (hl : news.length = m * size) (hnews : ∀ j u, news[j]? = some u → w.cell? (a.add j) = some u) (h1 : ∀ u ∈ news, u.oneCell' = true)
    (h63 : n + m ≤ maxLen) (hbytes : ((n + m) + (n + m) / 4 + 192) * bytes ≤ 281474976710656) {v' : Value} {w' : World}
    (hr : (Builtin.append_ #[t, t] ty #[v, .slice (some a) m c]).run P w = .ok v' w') (hnil : v' = .slice none 0 0 ↔ v = .slice none 0 0 ∧ m = 0) : v'.ownBlock = v.ownBlock ∨ v'.ownBlock = some w.heap.size := by
  subst hsize
  subst hby
  unfold maxLen at h63
  rcases hown.2 with ⟨rfl, rfl⟩ | ⟨g, cap, cur, rfl, hbg, hg, hnc, hcm, hcs, htake⟩
  · by_cases hm : m = 0
    · left
      rw [hnil.2 ⟨rfl, hm⟩]
    · right
      have hb : m * i.bytes ≤ 281474976710656 := Nat.le_trans (Nat.mul_le_mul_right _ (by omega)) hbytes
      have h2 := run_append_nil (P := P) w t ty e i z ht hi hz a m c news hl hnews (by omega) (by omega) hb
      rw [hr] at h2
      cases h2
      rfl
  · by_cases hroom : n + m ≤ cap
    · left
      obtain ⟨w2, h2, _⟩ := run_append_fits (P := P) w base t ty e i i.size ht hi rfl g n cap xs hown a m c news hl hnews h1 hroom
      rw [hr] at h2
      cases h2
      rfl
    · right
      have holds : ∀ j u, xs[j]? = some u → w.cell? ((⟨g, 0, none⟩ : Addr).add j) = some u := hown.cells (g := g) rfl
      have h2 := run_append_grow (P := P) w t ty e i z ht hi hz ⟨g, 0, none⟩ n cap xs hown.1 holds a m c news hl hnews (by omega) (by omega) (growslice_fits_wide (by omega) hbytes)
      rw [hr] at h2
      cases h2
      rfl

theorem wpList_append_far {P : Program} (w : World) {ops : Array Oper} {rest : List Oper} {o : Oper} {a : Act} {Q : Exit → Act → World → Prop} (hgd : o.guard = none) (s x : Operand) (t : TypeId)
    (ho : o.op = .call { callee := .builtin .append, args := #[s, x], argTypes := #[t, t] })
    (base : Nat) (e : TypeId) (i : TypeInfo) (z : Value) (size bytes : Nat) (ht : P.underlying t = some (.slice e)) (hi : P.info? e = some i) (hz : i.zero = some z)
    (hsize : i.size = size) (hby : i.bytes = bytes) (hzs : z.cells.size = size) (hsz : 0 < size)
    (v : Value) (n : Nat) (xs : List Value) (hs : a.eval s = v) (hown : w.ownsRow base e size v n xs)
    (ad : Addr) (m c : Nat) (news : List Value) (hx : a.eval x = .slice (some ad) m c) (hl : news.length = m * size) (hnews : ∀ j u, news[j]? = some u → w.cell? (ad.add j) = some u) (h1 : ∀ u ∈ news, u.oneCell' = true)
    (h63 : n + m ≤ maxLen) (hbytes : ((n + m) + (n + m) / 4 + 192) * bytes ≤ 281474976710656) (hbase : base ≤ w.heap.size)
    (h : ∀ v' w', w'.ownsRow base e size v' (n + m) (xs ++ news) → w.grownBy w' v.ownBlock → (v' = .slice none 0 0 ↔ v = .slice none 0 0 ∧ m = 0) → (v'.ownBlock = v.ownBlock ∨ v'.ownBlock = some w.heap.size) → wpList P ops Q rest (a.put o.dst v') w') :
    wpList P ops Q (o :: rest) a w := by
  refine wpList_plain hgd fun K hK => ?_
  obtain ⟨v', w', hr, h2, h3, h4⟩ := run_append_own_wide (P := P) w base t o.type e i z size bytes ht hi hz hsize hby hzs hsz v n xs hown ad m c news hl hnews h1 h63 hbytes hbase
  have h5 := append_lies w base t o.type e i z size bytes ht hi hz hsize hby v n xs hown ad m c news hl hnews h1 h63 hbytes hr h4
  unfold Oper.wp execOp
  simp only [ho, resolve, invoke, builtin, Sem.run_bind, Sem.run_pure, Result.andThen_ok, List.map_toArray, List.map_cons, List.map_nil, hs, hx, hr]
  exact hK _ _ (h v' w' h2 h3 h4 h5)
end Go.Proofs.YtcloljkaojnipaaGreatDoor
namespace Go.Proofs.YtcloljkaojnipaaGreatDoor
open Go.RowKit

/-- An address that no row shares, where something lies there. -/
def Off (x : Option Addr) (l : List ByteArray) (row : Option Nat) : Prop := l ≠ [] → ∀ ad, x = some ad → some ad.block ≠ row
theorem Strs.lt {w : World} {x : Option Addr} {c : Nat} {l : List ByteArray} (h : Strs w x c l) (hl : l ≠ []) : ∀ ad, x = some ad → ad.block < w.heap.size := fun ad e => by
  obtain ⟨b, off, e', hb, _⟩ := h.cells 0 (List.length_pos_iff.2 hl)
  rw [e] at e'
  cases e'
  exact hb
theorem Strs.off {w : World} {x : Option Addr} {c m : Nat} {l : List ByteArray} (h : Strs w x c l) (hm : w.heap.size ≤ m) : Off x l (some m) := fun hl ad e q => by
  have := h.lt hl ad e
  have := Option.some.inj q
  omega
theorem Strs.grownO {w w' : World} {x : Option Addr} {c : Nat} {l : List ByteArray} {row : Option Nat} (h : Strs w x c l) (hg : w.grownBy w' row) (hne : Off x l row) : Strs w' x c l := by
  by_cases hl : l = []
  · subst hl
    exact ⟨h.len, h.nil, h.room, h.most, h.size, fun i hi => absurd hi (by simp)⟩
  · exact h.grown hg (hne hl)

/-- The slice at address a, of capacity cap, reads in w as the paths l. -/
structure Pts (w : World) (a : Option Addr) (cap : Nat) (l : List (List ByteArray)) : Prop where
  len : l.length ≤ 5864062014806
  nil : a = none → cap = 0
  room : l.length ≤ cap
  most : cap ≤ maxLen
  cells : ∀ i (h : i < l.length), ∃ b off x c, a = some ⟨b, off, none⟩ ∧ b < w.heap.size ∧ w.cell? ⟨b, off + i, none⟩ = some (.slice x (l[i]'h).length c) ∧ Strs w x c (l[i]'h)
theorem Pts.below {w w' : World} {a : Option Addr} {cap : Nat} {l : List (List ByteArray)} (h : Pts w a cap l) (hb : Below w.heap.size w w') : Pts w' a cap l := by
  refine ⟨h.len, h.nil, h.room, h.most, fun i hi => ?_⟩
  obtain ⟨b, off, x, c, e, hlt, hc, hs⟩ := h.cells i hi
  exact ⟨b, off, x, c, e, Nat.lt_of_lt_of_le hlt hb.size, (hb.cell (p := ⟨b, off + i, none⟩) hlt).trans hc, hs.below hb⟩
theorem Pts.empty (w : World) : Pts w none 0 [] := ⟨by simp, fun _ => rfl, Nat.le_refl _, Nat.zero_le _, fun i h => absurd h (by simp)⟩
theorem Pts.none {w : World} {cap : Nat} {l : List (List ByteArray)} (h : Pts w Option.none cap l) : l = [] ∧ cap = 0 := by
  refine ⟨?_, h.nil rfl⟩
  cases l with
  | nil => rfl
  | cons x r => obtain ⟨b, off, _, _, e, _⟩ := h.cells 0 (by simp); cases e

/-- The values xs read as the paths l, off a row. -/
def Elts (w : World) (row : Option Nat) (xs : List Value) (l : List (List ByteArray)) : Prop :=
  ∀ i (h : i < l.length), ∃ x c, xs[i]? = some (.slice x (l[i]'h).length c) ∧ Strs w x c (l[i]'h) ∧ Off x (l[i]'h) row
/-- A row of the call's own that reads as the paths l, none of which lies in it. -/
def PRow (w : World) (base : Nat) (v : Value) (l : List (List ByteArray)) : Prop := ∃ xs, w.ownsRow base 26 1 v l.length xs ∧ Elts w v.ownBlock xs l
theorem PRow.empty (w : World) (base : Nat) : PRow w base (.slice none 0 0) [] := ⟨[], World.ownsRow_nil _ _ _ _, fun i h => absurd h (by simp)⟩
theorem Elts.below {w w' : World} {row : Option Nat} {xs : List Value} {l : List (List ByteArray)} (h : Elts w row xs l) (hb : Below w.heap.size w w') : Elts w' row xs l := fun i hi => by
  obtain ⟨x, c, h1, h2, h3⟩ := h i hi
  exact ⟨x, c, h1, h2.below hb, h3⟩
theorem PRow.below {w w' : World} {base : Nat} {v : Value} {l : List (List ByteArray)} (h : PRow w base v l) (hb : Below w.heap.size w w') : PRow w' base v l := by
  obtain ⟨xs, h1, h2⟩ := h
  exact ⟨xs, own_below h1 hb, h2.below hb⟩
theorem PRow.pts {w : World} {base : Nat} {v : Value} {l : List (List ByteArray)} (h : PRow w base v l) (hl : l.length ≤ 5864062014806) : ∃ a cap, v = .slice a l.length cap ∧ Pts w a cap l := by
  obtain ⟨xs, h1, h2⟩ := h
  rcases h1.2 with ⟨hv, hn⟩ | ⟨g, cap, cur, hv, hb, hg, hcap, hmax, hsize, htake⟩
  · exact ⟨none, 0, by rw [hv, hn], hl, fun _ => rfl, by omega, Nat.zero_le _, fun i hi => absurd hi (by omega)⟩
  · refine ⟨some ⟨g, 0, none⟩, cap, hv, hl, fun h => (by cases h), hcap, hmax, fun i hi => ?_⟩
    obtain ⟨x, c, k1, k2, _⟩ := h2 i hi
    subst hv
    refine ⟨g, 0, x, c, rfl, lt_of_block hg, ?_, k2⟩
    rw [Nat.zero_add, h1.cellAt i (by omega), k1]
theorem own_base_p {w : World} {base base' : Nat} {e : TypeId} {size : Nat} {v : Value} {n : Nat} {xs : List Value} (h : w.ownsRow base e size v n xs) (hb : base' ≤ base) : w.ownsRow base' e size v n xs := by
  refine ⟨h.1, ?_⟩
  rcases h.2 with h2 | ⟨g, cap, cur, hv, hbg, r⟩
  · exact .inl h2
  · exact .inr ⟨g, cap, cur, hv, Nat.le_trans hb hbg, r⟩
theorem own_strs_ge {w : World} {base : Nat} {e : TypeId} {x : Option Addr} {c : Nat} {l : List ByteArray} (h : w.ownsRow base e 1 (.slice x l.length c) l.length (l.map Value.string)) (_ : l ≠ []) (ad : Addr) (hx : x = some ad) : base ≤ ad.block := by
  subst hx
  rcases h.2 with ⟨hv, _⟩ | ⟨g, cap, cur, hv, hb, _⟩
  · cases hv
  · cases hv; exact hb
/-- A path put behind a row of paths. -/
theorem prow_snoc {w w' : World} {base m : Nat} {v v' : Value} {l : List (List ByteArray)} {xs : List Value} {p : List ByteArray} {x : Option Addr} {c : Nat} {o : Obj} (ox : w.ownsRow base 26 1 v l.length xs) (he : Elts w v.ownBlock xs l)
    (hp : Strs w x c p) (hx : Off x p v.ownBlock) (own' : w'.ownsRow base 26 1 v' (l.length + 1) (xs ++ [.slice x p.length c])) (hgr : (w.alloc o).grownBy w' v.ownBlock) (hat : v'.ownBlock = v.ownBlock ∨ v'.ownBlock = some m) (hm : w.heap.size ≤ m) : PRow w' base v' (l ++ [p]) := by
  have hxl : xs.length = l.length := by simpa using ox.1
  refine ⟨xs ++ [.slice x p.length c], by rw [List.length_append]; exact own', fun i hi => ?_⟩
  have hoff : ∀ (y : Option Addr) (d : Nat) (q : List ByteArray), Strs w y d q → Off y q v.ownBlock → Off y q v'.ownBlock := fun y d q hs ho => by
    rcases hat with e | e
    · rw [e]; exact ho
    · rw [e]; exact hs.off hm
  by_cases h : i < l.length
  · obtain ⟨y, d, k1, k2, k3⟩ := he i h
    refine ⟨y, d, ?_, ?_, ?_⟩
    · rw [List.getElem?_append_left (by omega), k1, List.getElem_append_left h]
    · rw [List.getElem_append_left h]; exact (k2.below ((Below.refl _ _).alloc (Nat.le_refl _) o)).grownO hgr k3
    · rw [List.getElem_append_left h]; exact hoff y d _ k2 k3
  · have hi2 : i = l.length := by simp at hi; omega
    subst hi2
    refine ⟨x, c, ?_, ?_, ?_⟩
    · rw [List.getElem?_append_right (by omega), hxl]; simp
    · simpa using (hp.below ((Below.refl _ _).alloc (Nat.le_refl _) o)).grownO hgr hx
    · simpa using hoff x c p hp hx

theorem Tryz.infoPath : (Tryz.prog.info? 26).map (fun i => (i.zero, i.size, i.bytes)) = some (some (.slice none 0 0), 1, 24) := by kernel_rfl

set_option maxRecDepth 100000 in
set_option maxHeartbeats 1000000 in
theorem copies_any (a : Option Addr) (cap : Nat) (l : List (List ByteArray)) (w : World) (h : Pts w a cap l) :
    Calls Tryz.prog 27 #[.slice a l.length cap] w fun e w' => ∃ v, e = .returned v ∧ PRow w' w.heap.size v l ∧ Below w.heap.size w w' := by
  obtain ⟨i0, hi, hz0, hz1, hz2⟩ := info_parts Tryz.infoPath
  have hl := h.len
  go_enter Tryz.func27, Tryz.ntmps27
  go_wp2
  go_loopw [3, 4] (fun v i wr => ∃ k : Nat, k ≤ l.length ∧ i = .int .i64 k ∧ PRow wr w.heap.size v (l.take k) ∧ Below w.heap.size w wr) (fun _ i _ => l.length - (intOf i).toNat)
  case atStart => exact ⟨0, Nat.zero_le _, rfl, PRow.empty _ _, Below.refl _ _⟩
  case round =>
    obtain ⟨k, hk, rfl, hpr, hnx⟩ := hrel
    have hsz := hnx.size
    by_cases hlt : k < l.length
    · obtain ⟨b, off, x, c, rfl, hb, hc, hs⟩ := (h.below hnx).cells k hlt
      have HT : Hid (l.take (k + 1) = l.take k ++ [l[k]'hlt]) := List.take_succ_eq_append_getElem hlt
      have hkl : (l.take k).length + 1 ≤ 5864062014806 := by simp; omega
      have hxl := hs.len
      generalize l[k]'hlt = p at *
      generalize l.take k = t at *
      have i1 : (k : Int) < (l.length : Int) := by omega
      go_wp2_with fail
      refine (copy_any _ _ p _ hs).mono ?_
      rintro e w1 ⟨v1, rfl, hown, hb1⟩
      obtain ⟨x1, c1, rfl, s1⟩ := own_strs hown (by omega) hs.mem
      have hB1 := hnx.trans (hb1.mono hsz)
      have hs1 := hB1.size
      obtain ⟨xs, ox0, ex0⟩ := hpr
      have hoff : Off x1 p (Value.ownBlock _) := fun hp ad e q => by
        subst e
        have h1 := (own_strs_ge hown hp ad rfl)
        have h2 := (ox0.lt ad.block q.symm).2
        omega
      have ox := own_below ox0 hb1
      have ex := ex0.below hb1
      clear hown hb1 ox0 ex0
      go_wp2_with (at_builtin; refine wpList_append_far _ rfl _ _ 22 rfl w.heap.size 26 i0 (.slice none 0 0) 1 24 Tryz.underlying22 hi hz0 hz1 hz2 rfl (by decide) _ _ _ rfl (ox.alloc _) ⟨w1.heap.size, 0, none⟩ 1 1 [.slice x1 p.length c1] rfl rfl (cell_one_new _ _ _) ?c2 ?c3 ?c4 ?c5 ?_)
      case c2 => first | rfl | (intro u hu; simp at hu; subst hu; rfl)
      case c3 => unfold maxLen; omega
      case c4 => omega
      case c5 => simp; omega
      intro v3 w3 hown3 hgr3 _ hat3
      have hB3 : Below w.heap.size w w3 := (hB1.alloc hs1 _).grown hgr3 (by simp; omega) (fun g hg => (ox.lt g hg).1)
      have hpr3 := prow_snoc ox ex s1 hoff hown3 hgr3 hat3 (by simp)
      clear hgr3 hown3 hat3
      go_wp2
      go_roundw
      case rel => exact ⟨k + 1, by omega, by go_num, by rw [HT.out]; exact hpr3, hB3⟩
      case measure => simp [intOf]; omega
    · have e : l.take k = l := List.take_of_length_le (by omega)
      rw [e] at hpr
      have i1 : ¬ (k : Int) < (l.length : Int) := by omega
      go_wp2
      go_ret
      exact ⟨_, rfl, hpr, hnx⟩
end Go.Proofs.YtcloljkaojnipaaGreatDoor
namespace Go.Proofs.YtcloljkaojnipaaGreatDoor
open Go.RowKit

set_option maxHeartbeats 400000 in
theorem within_any (a1 a2 : Option Addr) (c1 c2 : Nat) (l1 l2 : List ByteArray) (w : World) (h1 : Strs w a1 c1 l1) (h2 : Strs w a2 c2 l2) :
    Calls Tryz.prog 59 #[.slice a1 l1.length c1, .slice a2 l2.length c2] w fun e w' => e = .returned (.bool (Pl.withinP l1 l2)) ∧ ∃ n, w' = w.drewN n := by
  have hl1 := h1.len
  have hl2 := h2.len
  go_enter Tryz.func59, Tryz.ntmps59
  go_wp2_with (go_at_call 88; refine (shared_any _ _ _ _ l1 l2 _ h1 h2).mono ?_; rintro e w' ⟨rfl, n, rfl⟩)
  go_ret
  exact ⟨rfl, _, rfl⟩

theorem within_b (a1 a2 : Option Addr) (c1 c2 : Nat) (l1 l2 : List ByteArray) (w : World) (h1 : Strs w a1 c1 l1) (h2 : Strs w a2 c2 l2) :
    Calls Tryz.prog 59 #[.slice a1 l1.length c1, .slice a2 l2.length c2] w fun e w' => e = .returned (.bool (Pl.withinP l1 l2)) ∧ Below w.heap.size w w' :=
  (within_any a1 a2 c1 c2 l1 l2 w h1 h2).mono fun _ _ ⟨he, n, hw⟩ => ⟨he, by rw [hw]; exact below_drewN (Below.refl _ _) n⟩
end Go.Proofs.YtcloljkaojnipaaGreatDoor
namespace Go.Proofs.YtcloljkaojnipaaGreatDoor
open Go.RowKit

set_option maxHeartbeats 400000 in
theorem isnan_any (s : ByteArray) (w : World) :
    Calls Tryz.prog 132 #[.string s] w fun e w' => e = .returned (.bool false) ∧ w = w' := by
  have hb : (s.toList != s.toList) = false := by simp
  go_enter Tryz.func132, Tryz.ntmps132
  go_wp2
  go_ret
  exact ⟨by simp, rfl⟩

set_option maxHeartbeats 400000 in
theorem cmp_any (x y : ByteArray) (w : World) :
    Calls Tryz.prog 112 #[.string x, .string y] w fun e w' => e = .returned (.int .i64 (Pl.cmpS x y)) ∧ w = w' := by
  cases h1 : Op.bytesLess x.toList y.toList
  · cases h2 : (x.toList == y.toList)
    · have HE : Hid (Pl.cmpS x y = 1) := Pl.cmpS_more h1 h2
      go_enter Tryz.func112, Tryz.ntmps112
      go_wp2_with (go_at_call 132; refine (isnan_any _ _).mono ?_; rintro e w' ⟨rfl, rfl⟩)
      go_ret
      exact ⟨ret_int HE.out.symm, rfl⟩
    · have HE : Hid (Pl.cmpS x y = 0) := Pl.cmpS_eq h2
      go_enter Tryz.func112, Tryz.ntmps112
      go_wp2_with (go_at_call 132; refine (isnan_any _ _).mono ?_; rintro e w' ⟨rfl, rfl⟩)
      go_ret
      exact ⟨ret_int HE.out.symm, rfl⟩
  · have HE : Hid (Pl.cmpS x y = -1) := Pl.cmpS_less h1
    go_enter Tryz.func112, Tryz.ntmps112
    go_wp2_with (go_at_call 132; refine (isnan_any _ _).mono ?_; rintro e w' ⟨rfl, rfl⟩)
    go_ret
    exact ⟨ret_int HE.out.symm, rfl⟩

set_option maxHeartbeats 400000 in
theorem slcmp_any (a1 a2 : Option Addr) (c1 c2 : Nat) (l1 l2 : List ByteArray) (w : World) (h1 : Strs w a1 c1 l1) (h2 : Strs w a2 c2 l2) :
    Calls Tryz.prog 87 #[.slice a1 l1.length c1, .slice a2 l2.length c2] w fun e w' => e = .returned (.int .i64 (Pl.cmpP l1 l2)) ∧ w = w' := by
  have hl1 := h1.len
  have hl2 := h2.len
  go_enter Tryz.func87, Tryz.ntmps87
  go_wp2
  go_loop [11] (fun i => ∃ k : Nat, k ≤ l1.length ∧ k ≤ l2.length ∧ i = .int .i64 k ∧ Hid (Pl.cmpP l1 l2 = Pl.cmpP (l1.drop k) (l2.drop k))) (fun i => l1.length - (intOf i).toNat)
  case atStart => exact ⟨0, Nat.zero_le _, Nat.zero_le _, rfl, rfl⟩
  case round =>
    obtain ⟨k, hk1, hk2, rfl, HC⟩ := hrel
    by_cases hlt1 : k < l1.length
    · obtain ⟨b1, o1, rfl, hb1, hc1⟩ := h1.cells k hlt1
      by_cases hlt2 : k < l2.length
      · obtain ⟨b2, o2, rfl, hb2, hc2⟩ := h2.cells k hlt2
        have HS : Hid (Pl.cmpS (l1[k]'hlt1) (l2[k]'hlt2) = 0 → Pl.cmpP (l1.drop k) (l2.drop k) = Pl.cmpP (l1.drop (k + 1)) (l2.drop (k + 1))) := Pl.cmpP_step hlt1 hlt2
        have HT : Hid (¬ Pl.cmpS (l1[k]'hlt1) (l2[k]'hlt2) = 0 → Pl.cmpP (l1.drop k) (l2.drop k) = Pl.cmpS (l1[k]'hlt1) (l2[k]'hlt2)) := Pl.cmpP_stop hlt1 hlt2
        generalize l1[k]'hlt1 = x at *
        generalize l2[k]'hlt2 = y at *
        by_cases hz : Pl.cmpS x y = 0
        · have HN : Hid (Pl.cmpP l1 l2 = Pl.cmpP (l1.drop (k + 1)) (l2.drop (k + 1))) := HC.out.trans (HS.out hz)
          have hz' : (Pl.cmpS x y != 0) = false := by simpa using hz
          clear hz
          go_wp2_with (go_at_call 112; refine (cmp_any _ _ _).mono ?_; rintro e w' ⟨rfl, rfl⟩)
          go_round
          case rel => exact ⟨k + 1, by omega, by omega, by go_num, HN⟩
          case measure => simp [intOf]; omega
        · have HN : Hid (Pl.cmpP l1 l2 = Pl.cmpS x y) := HC.out.trans (HT.out hz)
          have hz' : (Pl.cmpS x y != 0) = true := by simpa using hz
          clear hz
          go_wp2_with (go_at_call 112; refine (cmp_any _ _ _).mono ?_; rintro e w' ⟨rfl, rfl⟩)
          go_ret
          exact ⟨ret_int HN.out.symm, rfl⟩
      · have HN : Hid (Pl.cmpP l1 l2 = 1) := HC.out.trans (Pl.cmpP_more hlt1 hlt2)
        go_wp2
        go_ret
        exact ⟨ret_int HN.out.symm, rfl⟩
    · by_cases hlt2 : l1.length < l2.length
      · have HN : Hid (Pl.cmpP l1 l2 = -1) := HC.out.trans (Pl.cmpP_less hlt1 (by omega))
        go_wp2
        go_ret
        exact ⟨ret_int HN.out.symm, rfl⟩
      · have HN : Hid (Pl.cmpP l1 l2 = 0) := HC.out.trans (Pl.cmpP_end hlt1 (by omega))
        go_wp2
        go_ret
        exact ⟨ret_int HN.out.symm, rfl⟩

set_option maxHeartbeats 400000 in
theorem compare_any (a1 a2 : Option Addr) (c1 c2 : Nat) (l1 l2 : List ByteArray) (w : World) (h1 : Strs w a1 c1 l1) (h2 : Strs w a2 c2 l2) :
    Calls Tryz.prog 58 #[.slice a1 l1.length c1, .slice a2 l2.length c2] w fun e w' => e = .returned (.int .i64 (Pl.cmpP l1 l2)) ∧ w = w' := by
  have hl1 := h1.len
  have hl2 := h2.len
  go_enter Tryz.func58, Tryz.ntmps58
  go_wp2_with (go_at_call 87; refine (slcmp_any _ _ _ _ l1 l2 _ h1 h2).mono ?_; rintro e w' ⟨rfl, rfl⟩)
  go_ret
  exact ⟨rfl, rfl⟩

end Go.Proofs.YtcloljkaojnipaaGreatDoor
