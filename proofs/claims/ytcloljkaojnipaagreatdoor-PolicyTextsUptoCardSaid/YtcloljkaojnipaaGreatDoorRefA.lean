/- What the reference's Name, size, Right and parts answer. -/
import Derived.Test.YtcloljkaojnipaaGreatDoorPgE
namespace Go.Proofs.YtcloljkaojnipaaGreatDoor
open Go.RowKit

set_option maxHeartbeats 400000 in
theorem rname_any (s : ByteArray) (w : World) (hs : s.size ≤ maxLen) :
    Calls Tryz.prog 71 #[.string s] w fun e w' => e = .returned (.bool (Pl.nameB s)) ∧ w = w' := by
  unfold maxLen at hs
  by_cases h1 : s.toList = []
  · have hz : (s.size : Int) < 1 := by rw [Pl.toL] at h1; have := Pl.szL s; rw [h1] at this; simp at this; omega
    go_enter Tryz.func71, Tryz.ntmps71
    go_wp2
    go_ret
    exact ⟨ret_bool (Pl.name_empty h1).symm, rfl⟩
  have b0 : ¬ (s.size : Int) < 1 := by have := Pl.size_pos h1; omega
  by_cases h2 : (255 : Int) < (s.size : Int)
  · go_enter Tryz.func71, Tryz.ntmps71
    go_wp2
    go_ret
    exact ⟨ret_bool (Pl.name_long h2).symm, rfl⟩
  by_cases h3 : s.toList = [46]
  · go_enter Tryz.func71, Tryz.ntmps71
    go_wp2
    go_ret
    exact ⟨ret_bool (Pl.name_dot h3).symm, rfl⟩
  by_cases h4 : s.toList = [46, 46]
  · go_enter Tryz.func71, Tryz.ntmps71
    go_wp2
    go_ret
    exact ⟨ret_bool (Pl.name_dots h4).symm, rfl⟩
  have H := Pl.name_head h1 h2 h3 h4
  have HH : Hid (Pl.nameB s = s.data.toList.all Pl.okc) := H
  clear H
  have b3 : (s.toList == [46]) = false := by simpa using h3
  have b4 : (s.toList == [46, 46]) = false := by simpa using h4
  clear h1 h3 h4
  go_enter Tryz.func71, Tryz.ntmps71
  go_wp2
  go_loop [3] (fun i => ∃ k : Nat, k ≤ s.size ∧ i = .int .i64 k ∧ (s.data.toList.take k).all Pl.okc = true) (fun i => s.size - (intOf i).toNat)
  case atStart => exact ⟨0, Nat.zero_le _, rfl, rfl⟩
  case round =>
    obtain ⟨k, hk, rfl, ha⟩ := hrel
    by_cases hlt : k < s.size
    · have HA : Hid ((s.data.toList.take k).all Pl.okc = true) := ha
      clear ha
      cases c1 : ((s[k].toNat : Int) == 47)
      · cases c0 : ((s[k].toNat : Int) == 0)
        · have HS := Pl.all_step hlt HA.out c1 c0
          have HT : Hid ((s.data.toList.take (k + 1)).all Pl.okc = true) := HS
          clear HS
          go_wp2
          go_round
          case rel => exact ⟨k + 1, by omega, by go_num, HT.out⟩
          case measure => simp [intOf]; omega
        · have HS := Pl.all_stop hlt (Or.inr c0)
          go_wp2
          go_ret
          exact ⟨ret_bool (by rw [HH.out, HS]), rfl⟩
      · have HS : Hid (s.data.toList.all Pl.okc = false) := Pl.all_stop hlt (Or.inl c1)
        go_wp2
        go_ret
        exact ⟨ret_bool (by rw [HH.out, HS.out]), rfl⟩
    · have HA : Hid ((s.data.toList.take k).all Pl.okc = true) := ha
      clear ha
      go_wp2
      go_ret
      exact ⟨ret_bool (by rw [HH.out, ← HA.out, Pl.take_all s k (by omega)]), rfl⟩

set_option maxHeartbeats 400000 in
theorem rsize_any (a : Option Addr) (cap : Nat) (l : List ByteArray) (w : World) (h : Strs w a cap l) :
    Calls Tryz.prog 70 #[.slice a l.length cap] w fun e w' => e = .returned (.int .i64 (Pl.sizeR l)) ∧ w = w' := by
  have hl := h.len
  by_cases h0 : l.length = 0
  · have hb : ((l.length : Int) == 0) = true := by simpa using h0
    have HS : Hid (Pl.sizeR l = 1) := Pl.sizeR_zero h0
    clear h0
    go_enter Tryz.func70, Tryz.ntmps70
    go_wp2
    go_ret
    exact ⟨ret_int (by rw [HS.out]; rfl), rfl⟩
  have hb : ((l.length : Int) == 0) = false := by simpa using h0
  have HS : Hid (Pl.sizeR l = Pl.sizeRa l 0) := Pl.sizeR_pos h0
  clear h0
  go_enter Tryz.func70, Tryz.ntmps70
  go_wp2
  go_loop [3, 4] (fun v i => ∃ k n : Nat, k ≤ l.length ∧ i = .int .i64 k ∧ v = .int .i64 n ∧ n ≤ 140737488355328 + 1025 ∧ Hid (Pl.sizeRa l 0 = Pl.sizeRa (l.drop k) n)) (fun _ i => l.length - (intOf i).toNat)
  case atStart => exact ⟨0, 0, Nat.zero_le _, rfl, rfl, by omega, rfl⟩
  case round =>
    obtain ⟨k, n, hk, rfl, rfl, hn, HC⟩ := hrel
    by_cases hlt : k < l.length
    · by_cases hle : n ≤ 1024
      · obtain ⟨b, off, rfl, hb0, hc⟩ := h.cells k hlt
        have hz := h.size k hlt
        have HT : Hid (Pl.sizeRa l 0 = Pl.sizeRa (l.drop (k + 1)) (n + 1 + (l[k]'hlt).size)) := HC.out.trans (Pl.sizeRa_step hlt hle)
        have i1 : (k : Int) < (l.length : Int) := by omega
        have i2 : (n : Int) ≤ 1024 := by omega
        generalize l[k]'hlt = x at *
        go_wp2
        go_round
        case rel => exact ⟨k + 1, n + 1 + x.size, by omega, by go_num, by go_num, by omega, HT⟩
        case measure => simp [intOf]; omega
      · have HT : Hid (Pl.sizeRa l 0 = n) := HC.out.trans (Pl.sizeRa_stop hlt hle)
        have i1 : (k : Int) < (l.length : Int) := by omega
        have i2 : decide ((n : Int) ≤ 1024) = false := by simp; omega
        go_wp2
        go_ret
        exact ⟨ret_int (by rw [HS.out, HT.out]), rfl⟩
    · have HT : Hid (Pl.sizeRa l 0 = n) := HC.out.trans (Pl.sizeRa_end hlt)
      have i1 : decide ((k : Int) < (l.length : Int)) = false := by simp; omega
      go_wp2
      go_ret
      exact ⟨ret_int (by rw [HS.out, HT.out]), rfl⟩

set_option maxHeartbeats 400000 in
theorem rright_any (a : Option Addr) (cap : Nat) (l : List ByteArray) (w : World) (h : Strs w a cap l) :
    Calls Tryz.prog 37 #[.slice a l.length cap] w fun e w' => e = .returned (.bool (Pl.rightP l)) ∧ w = w' := by
  have hl := h.len
  by_cases hbig : 1024 < Pl.sizeP l
  · have HR : Hid (Pl.rightP l = false) := Pl.right_big hbig
    have hb : (1024 : Int) < (Pl.sizeR l : Int) := by have := (Pl.sizeR_iff l).2 hbig; omega
    clear hbig
    go_enter Tryz.func37, Tryz.ntmps37
    go_wp2_with (go_at_call 70; refine (rsize_any _ _ l _ h).mono ?_; rintro e w' ⟨rfl, rfl⟩)
    go_ret
    exact ⟨ret_bool HR.out.symm, rfl⟩
  have HBIG : Hid (¬ 1024 < Pl.sizeP l) := hbig
  have hb : ¬ (1024 : Int) < (Pl.sizeR l : Int) := by have := mt (Pl.sizeR_iff l).1 hbig; omega
  clear hbig
  go_enter Tryz.func37, Tryz.ntmps37
  go_wp2_with (go_at_call 70; refine (rsize_any _ _ l _ h).mono ?_; rintro e w' ⟨rfl, rfl⟩)
  go_loop [4] (fun i => ∃ k : Nat, k ≤ l.length ∧ i = .int .i64 k ∧ Hid ((l.take k).all Pl.nameB = true)) (fun i => l.length - (intOf i).toNat)
  case atStart => exact ⟨0, Nat.zero_le _, rfl, rfl⟩
  case round =>
    obtain ⟨k, hk, rfl, HA⟩ := hrel
    by_cases hlt : k < l.length
    · obtain ⟨b, off, rfl, hb0, hc⟩ := h.cells k hlt
      have hz := h.size k hlt
      cases hn : Pl.nameB (l[k]'hlt)
      · have HR : Hid (Pl.rightP l = false) := Pl.right_stop hlt hn
        go_wp2_with (go_at_call 71; refine (rname_any _ _ (by unfold maxLen; omega)).mono ?_; rintro e w' ⟨rfl, rfl⟩)
        go_ret
        exact ⟨ret_bool HR.out.symm, rfl⟩
      · have HR : Hid ((l.take (k + 1)).all Pl.nameB = true) := Pl.all_names_step hlt HA.out hn
        go_wp2_with (go_at_call 71; refine (rname_any _ _ (by unfold maxLen; omega)).mono ?_; rintro e w' ⟨rfl, rfl⟩)
        go_round
        case rel => exact ⟨k + 1, by omega, by go_num, HR⟩
        case measure => simp [intOf]; omega
    · have ht : l.take k = l := List.take_of_length_le (by omega)
      have HR : Hid (Pl.rightP l = true) := by have := HA.out; rw [ht] at this; exact Pl.right_small HBIG.out this
      clear ht HA
      go_wp2
      go_ret
      exact ⟨ret_bool HR.out.symm, rfl⟩

set_option maxHeartbeats 800000 in
theorem rparts_any (s : ByteArray) (w : World) (hs : s.size ≤ 1048576) :
    Calls Tryz.prog 98 #[.string s] w fun e w' => ∃ v, e = .returned v ∧ w'.ownsRow w.heap.size 9 1 v (Pl.partsB s).length ((Pl.partsB s).map Value.string) ∧ Below w.heap.size w w' := by
  obtain ⟨i0, hi, hz0, hz1, hz2⟩ := info_parts Tryz.infoStr
  go_enter Tryz.func98, Tryz.ntmps98
  go_wp2
  go_loopw [3, 4, 5] (fun v f i wr => ∃ (k q : Nat) (done : List ByteArray), q ≤ k ∧ k ≤ s.size ∧ i = .int .i64 k ∧ f = .int .i64 q ∧ done.length ≤ k ∧ Pl.Apart s done q k ∧ wr.ownsRow w.heap.size 9 1 v done.length (done.map Value.string) ∧ Below w.heap.size w wr)
    (fun _ _ i _ => s.size - (intOf i).toNat)
  case atStart => exact ⟨0, 0, [], Nat.le_refl _, Nat.zero_le _, rfl, rfl, Nat.le_refl _, Pl.apart_start s, World.ownsRow_nil _ _ _ _, Below.refl _ _⟩
  case round =>
    obtain ⟨k, q, done, hq, hk, rfl, rfl, hd, ha, hown, hnx⟩ := hrel
    have HA : Hid (Pl.Apart s done q k) := ha
    clear ha
    have hsz := hnx.size
    by_cases hlt : k < s.size
    · cases hc : ((s[k].toNat : Int) == 47)
      · have HR : Hid (Pl.Apart s done q (k + 1)) := Pl.apart_other hq hlt hc HA.out
        go_wp2
        go_roundw
        case rel => exact ⟨k + 1, q, done, by omega, by omega, by go_num, rfl, by omega, HR.out, hown, hnx⟩
        case measure => simp [intOf]; omega
      · have HR : Hid (Pl.Apart s (done ++ [s.extract q k]) (k + 1) (k + 1)) := Pl.apart_slash hlt hc HA.out
        go_wp2_with (at_builtin; refine wpList_append_own _ rfl _ _ 25 rfl w.heap.size 9 i0 (.string ⟨#[]⟩) 1 16 Tryz.underlying25 hi hz0 hz1 hz2 rfl (by decide) _ _ _ rfl (hown.alloc _) ⟨wr.heap.size, 0, none⟩ 1 1 [.string (s.extract q k)] rfl rfl (cell_one_new _ _ _) ?c2 ?c3 ?c4 ?c5 ?_)
        case c2 => intro u hu; simp at hu; subst hu; rfl
        case c3 => unfold maxLen; omega
        case c4 => omega
        case c5 => simp; omega
        intro v' w1 hown' hgrow _
        have hb1 : Below w.heap.size w w1 := (hnx.alloc hsz _).grown hgrow (by simp; omega) (fun g hg => (hown.lt g hg).1)
        go_wp2
        go_roundw
        case rel => exact ⟨k + 1, k + 1, done ++ [s.extract q k], by omega, by omega, by go_num, by go_num, by simp; omega, HR.out, by simpa using hown', hb1⟩
        case measure => simp [intOf]; omega
    · have HE : Hid (Pl.partsB s = done ++ [s.extract q s.size]) := Pl.apart_end (by omega) HA.out
      go_wp2_with (at_builtin; refine wpList_append_own _ rfl _ _ 25 rfl w.heap.size 9 i0 (.string ⟨#[]⟩) 1 16 Tryz.underlying25 hi hz0 hz1 hz2 rfl (by decide) _ _ _ rfl (hown.alloc _) ⟨wr.heap.size, 0, none⟩ 1 1 [.string (s.extract q s.size)] rfl rfl (cell_one_new _ _ _) ?c2 ?c3 ?c4 ?c5 ?_)
      case c2 => intro u hu; simp at hu; subst hu; rfl
      case c3 => unfold maxLen; omega
      case c4 => omega
      case c5 => simp; omega
      intro v' w1 hown' hgrow _
      have hb1 : Below w.heap.size w w1 := (hnx.alloc hsz _).grown hgrow (by simp; omega) (fun g hg => (hown.lt g hg).1)
      go_wp2
      go_ret
      refine ⟨_, rfl, ?_, hb1⟩
      rw [HE.out]
      simpa using hown'
end Go.Proofs.YtcloljkaojnipaaGreatDoor
