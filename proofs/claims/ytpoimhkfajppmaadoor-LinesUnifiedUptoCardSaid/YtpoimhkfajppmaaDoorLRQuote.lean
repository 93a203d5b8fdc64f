/- What the reference's Quote answers: the same as lines.Quote. -/
import Derived.Test.YtpoimhkfajppmaaDoorLRTold
import Derived.Test.YtpoimhkfajppmaaDoorLQuote
namespace Go.Proofs.YtpoimhkfajppmaaDoor
open Go.RowKit

set_option maxRecDepth 100000 in
set_option maxHeartbeats 1000000 in
theorem rquote_any (s : ByteArray) (w : World) (hs : s.size ≤ 16777216) :
    Calls Tryd.prog 30 #[.string s] w fun e w' => e = .returned (.string (Ln.quoP s)) ∧ Below w.heap.size w w' := by
  obtain ⟨i0, hi, hz0, hz1, hz2⟩ := info_parts Tryd.infoByte
  have ho0 := lit_owns w w.heap.size 34 (Nat.le_refl _)
  have hb0 : Below w.heap.size w (w.alloc (.cells #[.int .u8 34] 5)) := (Below.refl _ _).alloc (Nat.le_refl _) _
  go_enter Tryd.func30, Tryd.ntmps30
  go_wp2_with fail
  generalize w.alloc (.cells #[.int .u8 34] 5) = w0 at ho0 hb0 ⊢
  go_loopw [3, 4] (fun v i wr => ∃ (k : Nat) (Q : List UInt8), k ≤ s.size ∧ i = .int .i64 k ∧ Hid (Ln.quoS (s.data.toList.take k) = Q) ∧ 1 ≤ Q.length ∧ Q.length ≤ 4 * k + 1 ∧ wr.ownsRow w.heap.size 5 1 v Q.length (bcells Q) ∧ Below w.heap.size w wr) (fun _ i _ => s.size - (intOf i).toNat)
  case atStart => exact ⟨0, [34], Nat.zero_le _, rfl, rfl, by simp, by simp, ho0, hb0⟩
  case round =>
    obtain ⟨k, Q, hk, rfl, HQ, hQ1, hQ2, hown, hnx⟩ := hrel
    have hsz := hnx.size
    by_cases hlt : k < s.size
    · have hst := Ln.quoS_snoc s k hlt
      rw [HQ.out] at hst
      have hql := Ln.qL_len s[k]
      have i1 : (k : Int) < (s.size : Int) := by omega
      cases hq : ((s[k].toNat : Int) == 34)
      · have e : Ln.qL s[k] = Ln.toldL s[k] := by rw [Ln.qL, if_neg (Ln.byteN34 hq)]
        have HS : Hid (Ln.quoS (s.data.toList.take (k + 1)) = Q ++ Ln.toldL s[k]) := by rw [e] at hst; exact hst
        have htl := Ln.told_len s[k]
        have htz := Ln.bs_size (Ln.toldL s[k])
        have HTD : Hid ((Ln.bs (Ln.toldL s[k])).data.toList = Ln.toldL s[k]) := rfl
        obtain ⟨t, ht⟩ : ∃ t, Ln.toldL s[k] = t := ⟨_, rfl⟩
        rw [ht] at HS htl htz HTD
        have HTT : Hid (Ln.toldL s[k] = t) := ht
        obtain ⟨tb, htb⟩ : ∃ tb, Ln.bs t = tb := ⟨_, rfl⟩
        rw [htb] at htz HTD
        have HTB : Hid (Ln.bs t = tb) := htb
        clear hst e hql HQ ht htb
        go_wp2_with fail
        refine (rtold_any s[k] _).mono ?_
        rw [HTT.out, HTB.out]
        rintro e w2 ⟨rfl, hb2⟩
        replace hown := own_below hown hb2
        replace hnx := hnx.trans (hb2.mono hsz)
        replace hsz := hnx.size
        clear hb2
        go_wp2_with (at_builtin; refine Lib.wpList_append_own_string _ rfl _ _ 53 9 rfl w.heap.size 5 i0 Tryd.underlying53 Tryd.underlying9 hi hz0 hz1 hz2 _ _ _ rfl hown tb rfl (by unfold maxLen; omega) (by omega) (by omega) ?_)
        intro v3 w3 hown3 hgr3 _
        have hB3 : Below w.heap.size w w3 := hnx.grown hgr3 hsz (fun g hg => (hown.lt g hg).1)
        have ho3 : w3.ownsRow w.heap.size 5 1 v3 (Q ++ t).length (bcells (Q ++ t)) := by
          rw [bcells_append, List.length_append, show bcells t = Lib.strCells tb by rw [strCells_eq, HTD.out]]; exact hown3
        clear hgr3 hown3
        go_wp2
        go_roundw
        case rel => exact ⟨k + 1, Q ++ t, by omega, by first | rfl | go_num, HS, by simp; omega, by simp; omega, ho3, hB3⟩
        case measure => simp [intOf]; omega
      · have e : Ln.qL s[k] = [92, 34] := by rw [Ln.qL, if_pos (Ln.byte34 hq)]
        have HS : Hid (Ln.quoS (s.data.toList.take (k + 1)) = Q ++ [92] ++ [34]) := by rw [e] at hst; show _ = _; simpa using hst
        clear hst e hql HQ
        go_wp2_with (at_builtin; refine wpList_append_own _ rfl _ _ 53 rfl w.heap.size 5 i0 (.int .u8 0) 1 1 Tryd.underlying53 hi hz0 hz1 hz2 rfl (by decide) _ _ _ rfl (hown.alloc _) ⟨_, 0, none⟩ 1 1 [.int .u8 92] rfl rfl (cell_one_new _ _ _) (one_ints (k := .u8) _) (by unfold maxLen; omega) (by omega) (by simp; omega) ?_)
        intro v3 w3 hown3 hgr3 _
        have hB3 : Below w.heap.size w w3 := (hnx.alloc hsz _).grown hgr3 (by simp; omega) (fun g hg => (hown.lt g hg).1)
        have hs3 := hB3.size
        have ho3 : w3.ownsRow w.heap.size 5 1 v3 (Q ++ [92]).length (bcells (Q ++ [92])) := by rw [bcells_append, List.length_append]; exact hown3
        have hQ3 : (Q ++ [92]).length ≤ 4 * k + 2 := by simp; omega
        clear hgr3 hown3
        generalize Q ++ [92] = Q3 at *
        go_wp2_with (at_builtin; refine wpList_append_own _ rfl _ _ 53 rfl w.heap.size 5 i0 (.int .u8 0) 1 1 Tryd.underlying53 hi hz0 hz1 hz2 rfl (by decide) _ _ _ rfl (ho3.alloc _) ⟨_, 0, none⟩ 1 1 [.int .u8 34] rfl rfl (cell_one_new _ _ _) (one_ints (k := .u8) _) (by unfold maxLen; omega) (by omega) (by simp; omega) ?_)
        intro v4 w4 hown4 hgr4 _
        have hB4 : Below w.heap.size w w4 := (hB3.alloc hs3 _).grown hgr4 (by simp; omega) (fun g hg => (ho3.lt g hg).1)
        have ho4 : w4.ownsRow w.heap.size 5 1 v4 (Q3 ++ [34]).length (bcells (Q3 ++ [34])) := by rw [bcells_append, List.length_append]; exact hown4
        clear hgr4 hown4
        go_wp2
        go_roundw
        case rel => exact ⟨k + 1, Q3 ++ [34], by omega, by first | rfl | go_num, HS, by simp, by simp; omega, ho4, hB4⟩
        case measure => simp [intOf]; omega
    · have HT : Hid (s.data.toList.take k = s.data.toList) := Ln.take_all s k (by omega)
      have hQl : Q.length ≤ 67108865 := by omega
      have HQ2 : Hid (Ln.quoS s.data.toList = Q) := by have := HQ.out; rwa [HT.out] at this
      clear HQ HT
      obtain ⟨g1, c1, rfl, hbg, hgl⟩ := hown.form (by omega)
      go_wp2_with (at_builtin; refine wpList_append_own _ rfl _ _ 53 rfl w.heap.size 5 i0 (.int .u8 0) 1 1 Tryd.underlying53 hi hz0 hz1 hz2 rfl (by decide) _ _ _ rfl (hown.alloc _) ⟨_, 0, none⟩ 1 1 [.int .u8 34] rfl rfl (cell_one_new _ _ _) (one_ints (k := .u8) _) (by unfold maxLen; omega) (by omega) (by simp; omega) ?_)
      intro v3 w3 hown3 hgr3 _
      have hB3 : Below w.heap.size w w3 := (hnx.alloc hsz _).grown hgr3 (by simp; omega) (fun g hg => (hown.lt g hg).1)
      have ho3 : w3.ownsRow w.heap.size 5 1 v3 (Q ++ [34]).length (bcells (Q ++ [34])) := by rw [bcells_append, List.length_append]; exact hown3
      clear hgr3 hown3
      obtain ⟨g3, c3, rfl, _, _⟩ := ho3.form (by simp)
      have hcv := conv_own ho3
      generalize hL : (Q ++ [34]).length = n3 at hcv
      go_wp2_with fail
      go_ret
      refine ⟨?_, hB3⟩
      rw [Ln.quoP, HQ2.out]
      rfl
end Go.Proofs.YtpoimhkfajppmaaDoor
