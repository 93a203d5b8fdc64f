/- What paths.Parent and paths.Join answer. -/
import Derived.Test.YtjmfgffihkbnlabNormal
import Derived.Test.YtjmfgffihkbnlabPlainRel
import Derived.Deep.RegionWith
namespace Go.Proofs.Ytjmfgffihkbnlab
open Go.RowKit

theorem Strs.drew {w : World} {a : Option Addr} {cap : Nat} {l : List ByteArray} (h : Strs w a cap l) : Strs w.drew a cap l := h.below (Below.refl _ _).drew

theorem Strs.init {w : World} {a : Option Addr} {cap : Nat} {l : List ByteArray} {x : ByteArray} (h : Strs w a cap (l ++ [x])) : Strs w a cap l := by
  have := h.take l.length
  rwa [List.take_left] at this

set_option maxHeartbeats 1000000 in
theorem parent_none (a : Option Addr) (cap : Nat) (w : World) :
    Calls Try.prog 17 #[.slice a 0 cap] w fun e w' => e = .returned (.tuple #[.slice none 0 0, .string ⟨#[]⟩, .bool false]) ∧ w = w' := by
  go_enter Try.func17, Try.ntmps17
  go_wp2_with fail
  go_ret3
  exact ⟨rfl, rfl⟩

set_option maxHeartbeats 1000000 in
theorem parent_some (a : Option Addr) (cap : Nat) (l : List ByteArray) (x : ByteArray) (w : World) (h : Strs w a cap (l ++ [x])) :
    Calls Try.prog 17 #[.slice a (l.length + 1) cap] w fun e w' => ∃ v, e = .returned (.tuple #[v, .string x, .bool true]) ∧ w'.ownsRow w.heap.size 9 1 v l.length (l.map Value.string) ∧ Below w.heap.size w w' := by
  have hl := h.len
  simp at hl
  have hcap : l.length + 1 ≤ cap := by simpa using h.room
  have hcm := h.most
  unfold maxLen at hcm
  obtain ⟨b, off, rfl, hb0, hc⟩ := h.cells l.length (by simp)
  have hc : w.cell? ⟨b, off + l.length, none⟩ = some (.string x) := by simpa using hc
  have hi := h.init
  have e0 : ((l.length : Int) + 1 == 0) = false := by simp; omega
  go_enter Try.func17, Try.ntmps17
  go_wp2_with fail
  go_region_with (go_at_call 21; refine (fresh_any _ _ l _ hi.drew).mono ?_; rintro e w1 ⟨v1, rfl, hown, hb⟩; have hc1 : w1.cell? ⟨b, off + l.length, none⟩ = some (.string x) := (hb.cell (p := ⟨b, off + l.length, none⟩) hb0).trans hc)
  all_goals go_wp2_with fail
  all_goals go_ret3
  all_goals exact ⟨_, rfl, hown, (Below.refl _ _).drew.trans hb⟩

set_option maxHeartbeats 1000000 in
theorem join_any (a : Option Addr) (cap : Nat) (l : List ByteArray) (x : ByteArray) (w : World) (h : Strs w a cap l) (hx : x.size ≤ 140737488355328) :
    Calls Try.prog 19 #[.slice a l.length cap, .string x] w fun e w' => ∃ v, e = .returned (.tuple #[v, .int .i64 (Pl.joinP l x).2]) ∧
      w'.ownsRow w.heap.size 9 1 v (Pl.joinP l x).1.length ((Pl.joinP l x).1.map Value.string) ∧ Below w.heap.size w w' := by
  obtain ⟨i0, hi, hz0, hz1, hz2⟩ := info_parts Try.infoStr
  have hxm : x.size ≤ maxLen := by unfold maxLen; omega
  cases hr : Pl.rightP l
  · rw [Pl.join_wrong (.inl hr)]
    go_enter Try.func19, Try.ntmps19
    go_wp2_with (go_at_call 11; refine (right_any _ _ l _ h).mono ?_; rintro e w' ⟨rfl, rfl⟩)
    go_ret2
    exact ⟨_, rfl, World.ownsRow_nil _ _ _ _, Below.refl _ _⟩
  cases hn : Pl.nameB x
  · rw [Pl.join_wrong (.inr hn)]
    go_enter Try.func19, Try.ntmps19
    go_wp2_with (first | (go_at_call 11; refine (right_any _ _ l _ h).mono ?_; rintro e w' ⟨rfl, rfl⟩) | (go_at_call 9; refine (name_any _ _ hxm).mono ?_; rintro e w' ⟨rfl, rfl⟩))
    go_ret2
    exact ⟨_, rfl, World.ownsRow_nil _ _ _ _, Below.refl _ _⟩
  have hl := Pl.right_len hr
  have hnm := Pl.right_names hr
  have HA : Hid ((l ++ [x]).all Pl.nameB = true) := by simp [Hid, hnm, hn]
  have hsum : Pl.sumP (l ++ [x]) ≤ 4611686018427387904 := by have := Pl.sumP_names _ HA.out; simp at this; omega
  have HF : Hid (1024 < Pl.sizeP (l ++ [x]) → Pl.joinP l x = ([], 4)) := Pl.join_far hr hn
  have HO : Hid (¬ 1024 < Pl.sizeP (l ++ [x]) → Pl.joinP l x = (l ++ [x], 0)) := Pl.join_ok hr hn
  obtain ⟨R, hR⟩ : ∃ R, Pl.joinP l x = R := ⟨_, rfl⟩
  rw [hR] at HF HO ⊢
  clear hR hnm
  go_enter Try.func19, Try.ntmps19
  go_wp2_with (first | (go_at_call 11; refine (right_any _ _ l _ h).mono ?_; rintro e w' ⟨rfl, rfl⟩) | (go_at_call 9; refine (name_any _ _ hxm).mono ?_; rintro e w' ⟨rfl, rfl⟩))
  refine (fresh_any _ _ l _ h).mono ?_
  rintro e w1 ⟨v1, rfl, hown, hb⟩
  have hs1 := hb.size
  go_wp2_with (at_builtin; refine wpList_append_own _ rfl _ _ 23 rfl w.heap.size 9 i0 (.string ⟨#[]⟩) 1 16 Try.underlying23 hi hz0 hz1 hz2 rfl (by decide) _ _ _ rfl (hown.alloc _) ⟨w1.heap.size, 0, none⟩ 1 1 [.string x] rfl rfl (cell_one_new _ _ _) ?c2 ?c3 ?c4 ?c5 ?_)
  case c2 => intro u hu; simp at hu; subst hu; rfl
  case c3 => unfold maxLen; omega
  case c4 => omega
  case c5 => simp; omega
  intro v2 w2 hown2 hgrow _
  have hb2 : Below w.heap.size w w2 := (hb.alloc hs1 _).grown hgrow (by simp; omega) (fun g hg => (hown.lt g hg).1)
  have hown3 : w2.ownsRow w.heap.size 9 1 v2 (l ++ [x]).length ((l ++ [x]).map Value.string) := by simpa using hown2
  obtain ⟨a2, c2, rfl, s2⟩ := own_strs hown3 (by simp; omega) (names_size HA.out)
  clear hgrow hown2 hb hown
  obtain ⟨q, hq⟩ : ∃ q, l ++ [x] = q := ⟨_, rfl⟩
  rw [hq] at s2 hsum HF HO hown3 ⊢
  have HQ : Hid (l ++ [x] = q) := hq
  clear hq
  by_cases hbig : 1024 < Pl.sizeP q
  · have hR := HF.out hbig
    subst hR
    have hbi : (1024 : Int) < (Pl.sizeP q : Int) := by omega
    go_wp2_with (go_at_call 24; refine (size_any _ _ _ _ s2 hsum).mono ?_; rintro e w' ⟨rfl, rfl⟩)
    go_ret2
    exact ⟨_, rfl, World.ownsRow_nil _ _ _ _, hb2⟩
  · have hR := HO.out hbig
    subst hR
    have hbi : ¬ (1024 : Int) < (Pl.sizeP q : Int) := by omega
    go_wp2_with (go_at_call 24; refine (size_any _ _ _ _ s2 hsum).mono ?_; rintro e w' ⟨rfl, rfl⟩)
    go_ret2
    exact ⟨_, rfl, hown3, hb2⟩
end Go.Proofs.Ytjmfgffihkbnlab
