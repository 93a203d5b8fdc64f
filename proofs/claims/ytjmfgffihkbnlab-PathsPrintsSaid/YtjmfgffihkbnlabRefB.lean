/- What the reference's Text, Print, Relative, Parent and Join answer. -/
import Derived.Test.YtjmfgffihkbnlabRefA
import Derived.Test.YtjmfgffihkbnlabSame
import Derived.Test.YtjmfgffihkbnlabJoin
namespace Go.Proofs.Ytjmfgffihkbnlab
open Go.RowKit

theorem ret_str {a b : ByteArray} (h : a = b) : Ending.returned (.string a) = .returned (.string b) := by rw [h]
theorem app3 (u x : ByteArray) (a b : List UInt8) (hu : u = Pl.bs a) : u ++ ⟨b.toArray⟩ ++ x = Pl.bs (a ++ b ++ x.data.toList) := by
  subst hu
  apply Pl.data_inj
  rw [Pl.data_bs]
  simp [ByteArray.data_append, Pl.bs]
theorem app3' (u x : ByteArray) (a b : List UInt8) (hu : u = Pl.bs a) : u ++ x ++ ⟨b.toArray⟩ = Pl.bs (a ++ x.data.toList ++ b) := by
  subst hu
  apply Pl.data_inj
  rw [Pl.data_bs]
  simp [ByteArray.data_append, Pl.bs]
theorem app2 (u : ByteArray) (a b : List UInt8) (hu : u = Pl.bs a) : u ++ ⟨b.toArray⟩ = Pl.bs (a ++ b) := by
  subst hu
  apply Pl.data_inj
  rw [Pl.data_bs]
  simp [ByteArray.data_append, Pl.bs]

set_option maxHeartbeats 400000 in
theorem rtext_any (a : Option Addr) (cap : Nat) (l : List ByteArray) (w : World) (h : Strs w a cap l) (hr : Pl.rightP l = true) :
    Calls Try.prog 28 #[.slice a l.length cap] w fun e w' => e = .returned (.string (Pl.textP l)) ∧ w = w' := by
  have hl := h.len
  have hsum := Pl.right_sum hr
  by_cases h0 : l.length = 0
  · have hb : ((l.length : Int) == 0) = true := by simpa using h0
    have HS : Hid (Pl.textP l = ⟨#[47]⟩) := by show _ = _; unfold Pl.textP; rw [if_pos h0]; rfl
    clear h0
    go_enter Try.func28, Try.ntmps28
    go_wp2
    go_ret
    exact ⟨by rw [HS.out]; rfl, rfl⟩
  have hb : ((l.length : Int) == 0) = false := by simpa using h0
  have HS : Hid (Pl.textP l = Pl.bs (Pl.textF l)) := by show _ = _; unfold Pl.textP; rw [if_neg h0]
  clear h0 hr
  go_enter Try.func28, Try.ntmps28
  go_wp2
  go_loop [3, 4] (fun v i => ∃ (k : Nat) (u : ByteArray), k ≤ l.length ∧ i = .int .i64 k ∧ v = .string u ∧ u.size ≤ 1024 ∧ Hid (u = Pl.bs (Pl.textF (l.take k)))) (fun _ i => l.length - (intOf i).toNat)
  case atStart => exact ⟨0, ⟨#[]⟩, Nat.zero_le _, rfl, rfl, by decide, rfl⟩
  case round =>
    obtain ⟨k, u, hk, rfl, rfl, hu, HU⟩ := hrel
    by_cases hlt : k < l.length
    · obtain ⟨b, off, rfl, hb0, hc⟩ := h.cells k hlt
      have HT : Hid (u ++ ⟨#[47]⟩ ++ (l[k]'hlt) = Pl.bs (Pl.textF (l.take (k + 1)))) := by
        show _ = _
        rw [Pl.textF_snoc l k hlt]
        exact app3 u _ _ [47] HU.out
      have hz : (u ++ ⟨#[47]⟩ ++ (l[k]'hlt) : ByteArray).size ≤ 1024 := by
        rw [HT.out, Pl.bs_size, Pl.textF_length]
        have := Pl.sumP_take_le l (k + 1)
        omega
      have hz2 : u.size + 1 + (l[k]'hlt).size ≤ 1024 := by
        rw [ByteArray.size_append, ByteArray.size_append] at hz
        exact hz
      generalize l[k]'hlt = x at *
      have a1 : u.size + (⟨#[47]⟩ : ByteArray).size ≤ 9223372036854775807 := by show u.size + 1 ≤ _; omega
      have a2 : (u ++ ⟨#[47]⟩ : ByteArray).size + x.size ≤ 9223372036854775807 := by rw [ByteArray.size_append]; show u.size + 1 + x.size ≤ _; omega
      have HZ : Hid ((u ++ ⟨#[47]⟩ ++ x : ByteArray).size ≤ 1024) := hz
      clear hz
      go_wp2
      go_round
      case rel => exact ⟨k + 1, _, by omega, by go_num, rfl, HZ.out, HT⟩
      case measure => simp [intOf]; omega
    · have HE : Hid (u = Pl.bs (Pl.textF l)) := by have := HU.out; rwa [List.take_of_length_le (by omega)] at this
      go_wp2
      go_ret
      exact ⟨ret_str (by rw [HS.out, ← HE.out]), rfl⟩

set_option maxHeartbeats 400000 in
theorem rprint_any (a : Option Addr) (cap : Nat) (l : List ByteArray) (w : World) (h : Strs w a cap l) :
    Calls Try.prog 14 #[.slice a l.length cap] w fun e w' => e = .returned (.tuple #[.string (Pl.printP l).1, .int .i64 (Pl.printP l).2]) ∧ w = w' := by
  cases hr : Pl.rightP l
  · rw [Pl.print_wrong hr]
    go_enter Try.func14, Try.ntmps14
    go_wp2_with (go_at_call 12; refine (rright_any _ _ l _ h).mono ?_; rintro e w' ⟨rfl, rfl⟩)
    go_ret2
    exact ⟨rfl, rfl⟩
  · rw [Pl.print_right hr]
    go_enter Try.func14, Try.ntmps14
    go_wp2_with (first | (go_at_call 12; refine (rright_any _ _ l _ h).mono ?_; rintro e w' ⟨rfl, rfl⟩) | (go_at_call 28; refine (rtext_any _ _ l _ h hr).mono ?_; rintro e w' ⟨rfl, rfl⟩))
    go_ret2
    exact ⟨rfl, rfl⟩

set_option maxHeartbeats 1000000 in
theorem rparent_none (a : Option Addr) (cap : Nat) (w : World) :
    Calls Try.prog 18 #[.slice a 0 cap] w fun e w' => e = .returned (.tuple #[.slice none 0 0, .string ⟨#[]⟩, .bool false]) ∧ w = w' := by
  go_enter Try.func18, Try.ntmps18
  go_wp2_with fail
  go_ret3
  exact ⟨rfl, rfl⟩

set_option maxHeartbeats 1000000 in
theorem rparent_some (a : Option Addr) (cap : Nat) (l : List ByteArray) (x : ByteArray) (w : World) (h : Strs w a cap (l ++ [x])) :
    Calls Try.prog 18 #[.slice a (l.length + 1) cap] w fun e w' => ∃ v, e = .returned (.tuple #[v, .string x, .bool true]) ∧ w'.ownsRow w.heap.size 9 1 v l.length (l.map Value.string) ∧ Below w.heap.size w w' := by
  have hl := h.len
  simp at hl
  have hcap : l.length + 1 ≤ cap := by simpa using h.room
  have hcm := h.most
  unfold maxLen at hcm
  obtain ⟨b, off, rfl, hb0, hc⟩ := h.cells l.length (by simp)
  have hc : w.cell? ⟨b, off + l.length, none⟩ = some (.string x) := by simpa using hc
  have hi := h.init
  have e0 : ((l.length : Int) + 1 == 0) = false := by simp; omega
  have hw1 : IntKind.i64.wrap ((l.length : Int) + 1 - 1) = (l.length : Int) := by rw [IntKind.wrap_i64]; omega
  have hw2 : IntKind.i64.wrap (l.length : Int) = (l.length : Int) := by rw [IntKind.wrap_i64]; omega
  go_enter Try.func18, Try.ntmps18
  go_wp2_with fail
  go_region_with (go_at_call 5; refine (copy_any _ _ l _ hi.drew).mono ?_; rintro e w1 ⟨v1, rfl, hown, hb⟩; have hc1 : w1.cell? ⟨b, off + l.length, none⟩ = some (.string x) := (hb.cell (p := ⟨b, off + l.length, none⟩) hb0).trans hc)
  all_goals go_wp2_with fail
  all_goals go_ret3
  all_goals exact ⟨_, rfl, hown, (Below.refl _ _).drew.trans hb⟩

set_option maxHeartbeats 1000000 in
theorem rjoin_any (a : Option Addr) (cap : Nat) (l : List ByteArray) (x : ByteArray) (w : World) (h : Strs w a cap l) (hx : x.size ≤ 140737488355328) :
    Calls Try.prog 20 #[.slice a l.length cap, .string x] w fun e w' => ∃ v, e = .returned (.tuple #[v, .int .i64 (Pl.joinP l x).2]) ∧
      w'.ownsRow w.heap.size 9 1 v (Pl.joinP l x).1.length ((Pl.joinP l x).1.map Value.string) ∧ Below w.heap.size w w' := by
  obtain ⟨i0, hi, hz0, hz1, hz2⟩ := info_parts Try.infoStr
  have hxm : x.size ≤ maxLen := by unfold maxLen; omega
  cases hr : Pl.rightP l
  · rw [Pl.join_wrong (.inl hr)]
    go_enter Try.func20, Try.ntmps20
    go_wp2_with (first | (go_at_call 12; refine (rright_any _ _ l _ h).mono ?_; rintro e w' ⟨rfl, rfl⟩) | (go_at_call 10; refine (rname_any _ _ hxm).mono ?_; rintro e w' ⟨rfl, rfl⟩))
    go_ret2
    exact ⟨_, rfl, World.ownsRow_nil _ _ _ _, Below.refl _ _⟩
  cases hn : Pl.nameB x
  · rw [Pl.join_wrong (.inr hn)]
    go_enter Try.func20, Try.ntmps20
    go_wp2_with (first | (go_at_call 12; refine (rright_any _ _ l _ h).mono ?_; rintro e w' ⟨rfl, rfl⟩) | (go_at_call 10; refine (rname_any _ _ hxm).mono ?_; rintro e w' ⟨rfl, rfl⟩))
    go_ret2
    exact ⟨_, rfl, World.ownsRow_nil _ _ _ _, Below.refl _ _⟩
  have hl := Pl.right_len hr
  have hnm := Pl.right_names hr
  have HA : Hid ((l ++ [x]).all Pl.nameB = true) := by simp [Hid, hnm, hn]
  have hsum : Pl.sumP (l ++ [x]) ≤ 4611686018427387904 := by have := Pl.sumP_names _ HA.out; simp at this; omega
  have HF : Hid (1024 < Pl.sizeP (l ++ [x]) → Pl.joinP l x = ([], 4)) := Pl.join_far hr hn
  have HO : Hid (¬ 1024 < Pl.sizeP (l ++ [x]) → Pl.joinP l x = (l ++ [x], 0)) := Pl.join_ok hr hn
  obtain ⟨R, hR⟩ : ∃ R, Pl.joinP l x = R := ⟨_, rfl⟩
  rw [hR] at HF HO ⊢
  clear hR hnm
  go_enter Try.func20, Try.ntmps20
  go_wp2_with (first | (go_at_call 12; refine (rright_any _ _ l _ h).mono ?_; rintro e w' ⟨rfl, rfl⟩) | (go_at_call 10; refine (rname_any _ _ hxm).mono ?_; rintro e w' ⟨rfl, rfl⟩))
  refine (copy_any _ _ l _ h).mono ?_
  rintro e w1 ⟨v1, rfl, hown, hb⟩
  have hs1 := hb.size
  go_wp2_with (at_builtin; refine wpList_append_own _ rfl _ _ 23 rfl w.heap.size 9 i0 (.string ⟨#[]⟩) 1 16 Try.underlying23 hi hz0 hz1 hz2 rfl (by decide) _ _ _ rfl (hown.alloc _) ⟨w1.heap.size, 0, none⟩ 1 1 [.string x] rfl rfl (cell_one_new _ _ _) ?c2 ?c3 ?c4 ?c5 ?_)
  case c2 => intro u hu; simp at hu; subst hu; rfl
  case c3 => unfold maxLen; omega
  case c4 => omega
  case c5 => simp; omega
  intro v2 w2 hown2 hgrow _
  have hb2 : Below w.heap.size w w2 := (hb.alloc hs1 _).grown hgrow (by simp; omega) (fun g hg => (hown.lt g hg).1)
  have hown3 : w2.ownsRow w.heap.size 9 1 v2 (l ++ [x]).length ((l ++ [x]).map Value.string) := by simpa using hown2
  obtain ⟨a2, c2, rfl, s2⟩ := own_strs hown3 (by simp; omega) (names_size HA.out)
  clear hgrow hown2 hb hown
  obtain ⟨q, hq⟩ : ∃ q, l ++ [x] = q := ⟨_, rfl⟩
  rw [hq] at s2 hsum HF HO hown3 ⊢
  have HQ : Hid (l ++ [x] = q) := hq
  clear hq
  by_cases hbig : 1024 < Pl.sizeP q
  · have hR := HF.out hbig
    subst hR
    have hbi : (1024 : Int) < (Pl.sizeR q : Int) := by have := (Pl.sizeR_iff q).2 hbig; omega
    go_wp2_with (go_at_call 26; refine (rsize_any _ _ _ _ s2).mono ?_; rintro e w' ⟨rfl, rfl⟩)
    go_ret2
    exact ⟨_, rfl, World.ownsRow_nil _ _ _ _, hb2⟩
  · have hR := HO.out hbig
    subst hR
    have hbi : ¬ (1024 : Int) < (Pl.sizeR q : Int) := by have := mt (Pl.sizeR_iff q).1 hbig; omega
    go_wp2_with (go_at_call 26; refine (rsize_any _ _ _ _ s2).mono ?_; rintro e w' ⟨rfl, rfl⟩)
    go_ret2
    exact ⟨_, rfl, hown3, hb2⟩
end Go.Proofs.Ytjmfgffihkbnlab
