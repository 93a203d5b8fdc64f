/- What lines.Quote answers. -/
import Derived.Test.YtcloljkaojnipaaGreatDoorPgI
import Derived.Laws.OwnMore
namespace Go.Proofs.YtcloljkaojnipaaGreatDoor
open Go.RowKit

namespace Ln
def qL (b : UInt8) : List UInt8 := if b = 34 then [92, 34] else toldL b
def quoS (l : List UInt8) : List UInt8 := 34 :: l.flatMap qL
def quoP (s : ByteArray) : ByteArray := bs (quoS s.data.toList ++ [34])
theorem qL_len (b : UInt8) : (qL b).length ≤ 4 := by
  unfold qL; split
  · simp
  · exact (told_len b).2
theorem quoS_snoc (s : ByteArray) (k : Nat) (h : k < s.size) : quoS (s.data.toList.take (k + 1)) = quoS (s.data.toList.take k) ++ qL s[k] := by
  rw [take_snoc s k h]; simp [quoS, List.flatMap_append]
theorem quoS_len (l : List UInt8) : (quoS l).length ≤ 4 * l.length + 1 := by
  unfold quoS
  induction l with
  | nil => simp
  | cons b r ih => have := qL_len b; simp only [List.flatMap_cons, List.length_cons, List.length_append] at ih ⊢; omega
theorem quoS_take (s : ByteArray) (k : Nat) (h : k ≤ s.size) : (quoS (s.data.toList.take k)).length ≤ 4 * k + 1 := by
  have := quoS_len (s.data.toList.take k)
  rw [List.length_take, szL] at this
  omega
theorem byte34 {c : UInt8} (h : ((c.toNat : Int) == 34) = true) : c = 34 := by
  rw [← UInt8.toNat_inj]; simp at h; simp; omega
theorem byteN34 {c : UInt8} (h : ((c.toNat : Int) == 34) = false) : c ≠ 34 := by
  intro e; subst e; simp at h
end Ln

theorem lit_owns (w : World) (b : Nat) (x : Int) (hb : b ≤ w.heap.size) : (w.alloc (.cells #[.int .u8 x] 5)).ownsRow b 5 1 (.slice (some ⟨w.heap.size, 0, none⟩) 1 1) 1 [.int .u8 x] :=
  World.ownsRow_lit w #[.int .u8 x] 1 hb (by decide) rfl

set_option maxRecDepth 100000 in
set_option maxHeartbeats 1000000 in
theorem quote_any (s : ByteArray) (w : World) (T : Tabs w) (hs : s.size ≤ 16777216) :
    Calls Tryz.prog 80 #[.string s] w fun e w' => e = .returned (.string (Ln.quoP s)) ∧ Below w.heap.size w w' := by
  obtain ⟨i0, hi, hz0, hz1, hz2⟩ := info_parts Tryz.infoByte
  have T2 := T.size
  have ho0 := lit_owns w w.heap.size 34 (Nat.le_refl _)
  have hb0 : Below w.heap.size w (w.alloc (.cells #[.int .u8 34] 5)) := (Below.refl _ _).alloc (Nat.le_refl _) _
  go_enter Tryz.func80, Tryz.ntmps80
  go_wp2_with fail
  generalize w.alloc (.cells #[.int .u8 34] 5) = w0 at ho0 hb0 ⊢
  go_loopw [3, 8] (fun v i wr => ∃ (k : Nat) (Q : List UInt8), k ≤ s.size ∧ i = .int .i64 k ∧ Hid (Ln.quoS (s.data.toList.take k) = Q) ∧ 1 ≤ Q.length ∧ Q.length ≤ 4 * k + 1 ∧ wr.ownsRow w.heap.size 5 1 v Q.length (bcells Q) ∧ Tabs wr ∧ Below w.heap.size w wr) (fun _ i _ => s.size - (intOf i).toNat)
  case atStart => exact ⟨0, [34], Nat.zero_le _, rfl, rfl, by simp, by simp, ho0, T.below T2 hb0, hb0⟩
  case round =>
    obtain ⟨k, Q, hk, rfl, HQ, hQ1, hQ2, hown, Tr, hnx⟩ := hrel
    have hsz := hnx.size
    by_cases hlt : k < s.size
    · have hst := Ln.quoS_snoc s k hlt
      rw [HQ.out] at hst
      have hql := Ln.qL_len s[k]
      have i1 : (k : Int) < (s.size : Int) := by omega
      cases hq : ((s[k].toNat : Int) == 34)
      · have e : Ln.qL s[k] = Ln.toldL s[k] := by rw [Ln.qL, if_neg (Ln.byteN34 hq)]
        have HS : Hid (Ln.quoS (s.data.toList.take (k + 1)) = Q ++ Ln.toldL s[k]) := by rw [e] at hst; exact hst
        have htl := Ln.told_len s[k]
        clear hst e hql HQ
        go_wp2_with fail
        refine (tell_any _ Q s[k] w.heap.size _ Tr hsz hown (by omega)).mono ?_
        rintro e w2 ⟨v2, rfl, hown2, hgr2, _⟩
        have hB2 : Below w.heap.size w w2 := hnx.grown hgr2 hsz (fun g hg => (hown.lt g hg).1)
        clear hgr2
        go_wp2_with fail
        go_roundw
        case rel => exact ⟨k + 1, Q ++ Ln.toldL s[k], by omega, by first | rfl | go_num, HS, by simp; omega, by simp; omega, hown2, T.below T2 hB2, hB2⟩
        case measure => simp [intOf]; omega
      · have e : Ln.qL s[k] = [92, 34] := by rw [Ln.qL, if_pos (Ln.byte34 hq)]
        have HS : Hid (Ln.quoS (s.data.toList.take (k + 1)) = Q ++ [92, 34]) := by rw [e] at hst; exact hst
        clear hst e hql HQ
        go_wp2_with (at_builtin; refine wpList_append_own _ rfl _ _ 74 rfl w.heap.size 5 i0 (.int .u8 0) 1 1 Tryz.underlying74 hi hz0 hz1 hz2 rfl (by decide) _ _ _ rfl (hown.alloc _) ⟨_, 0, none⟩ 2 2 [.int .u8 92, .int .u8 34] rfl rfl (cell_two_new _ _ _ _) (one_ints (k := .u8) _) (by unfold maxLen; omega) (by omega) (by simp; omega) ?_)
        intro v3 w3 hown3 hgr3 _
        have hB3 : Below w.heap.size w w3 := (hnx.alloc hsz _).grown hgr3 (by simp; omega) (fun g hg => (hown.lt g hg).1)
        have ho3 : w3.ownsRow w.heap.size 5 1 v3 (Q ++ [92, 34]).length (bcells (Q ++ [92, 34])) := by rw [bcells_append, List.length_append]; exact hown3
        clear hgr3 hown3
        go_wp2
        go_roundw
        case rel => exact ⟨k + 1, Q ++ [92, 34], by omega, by first | rfl | go_num, HS, by simp, by simp; omega, ho3, T.below T2 hB3, hB3⟩
        case measure => simp [intOf]; omega
    · have HT : Hid (s.data.toList.take k = s.data.toList) := Ln.take_all s k (by omega)
      have hQl : Q.length ≤ 67108865 := by omega
      have HQ2 : Hid (Ln.quoS s.data.toList = Q) := by have := HQ.out; rwa [HT.out] at this
      clear HQ HT
      obtain ⟨g1, c1, rfl, hbg, hgl⟩ := hown.form (by omega)
      go_wp2_with (at_builtin; refine wpList_append_own _ rfl _ _ 74 rfl w.heap.size 5 i0 (.int .u8 0) 1 1 Tryz.underlying74 hi hz0 hz1 hz2 rfl (by decide) _ _ _ rfl (hown.alloc _) ⟨_, 0, none⟩ 1 1 [.int .u8 34] rfl rfl (cell_one_new _ _ _) (one_ints (k := .u8) _) (by unfold maxLen; omega) (by omega) (by simp; omega) ?_)
      intro v3 w3 hown3 hgr3 _
      have hB3 : Below w.heap.size w w3 := (hnx.alloc hsz _).grown hgr3 (by simp; omega) (fun g hg => (hown.lt g hg).1)
      have ho3 : w3.ownsRow w.heap.size 5 1 v3 (Q ++ [34]).length (bcells (Q ++ [34])) := by rw [bcells_append, List.length_append]; exact hown3
      clear hgr3 hown3
      obtain ⟨g3, c3, rfl, _, _⟩ := ho3.form (by simp)
      have hcv := conv_own ho3
      generalize hL : (Q ++ [34]).length = n3 at hcv
      go_wp2_with fail
      go_ret
      refine ⟨?_, hB3⟩
      rw [Ln.quoP, HQ2.out]
      rfl
end Go.Proofs.YtcloljkaojnipaaGreatDoor
