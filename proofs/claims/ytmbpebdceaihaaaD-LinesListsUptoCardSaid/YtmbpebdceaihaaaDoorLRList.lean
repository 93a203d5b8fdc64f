/- What the reference's List answers: the same as lines.List. -/
import Derived.Test.YtmbpebdceaihaaaDoorLRTold
import Derived.Test.YtmbpebdceaihaaaDoorLList
namespace Go.Proofs.YtmbpebdceaihaaaDoor
open Go.RowKit

set_option maxRecDepth 100000 in
set_option maxHeartbeats 2000000 in
theorem rlist_any (s : ByteArray) (width : Int) (w : World) (hs : s.size ≤ 1048576) (hw : -9223372036854775808 ≤ width) (hw2 : width ≤ 9223372036854775807) :
    Calls Tryd.prog 23 #[.string s, .int .i64 width] w fun e w' => e = .returned (.tuple #[.string (Ln.listP s width).1, .int .i64 (Ln.listP s width).2]) ∧ Below w.heap.size w w' := by
  obtain ⟨i0, hi, hz0, hz1, hz2⟩ := info_parts Tryd.infoByte
  by_cases h0 : width < 0
  · have HR : Hid (Ln.listP s width = (Ln.bs [], 2)) := by show _ = _; rw [Ln.listP, if_pos h0]
    go_enter Tryd.func23, Tryd.ntmps23
    go_wp2
    go_ret2
    exact ⟨by rw [HR.out]; rfl, Below.refl _ _⟩
  have HR : Hid (Ln.listP s width = (Ln.bs ((Ln.listSt width s.data.toList).1 ++ [36, 10]), 0)) := by show _ = _; rw [Ln.listP, if_neg h0]
  go_enter Tryd.func23, Tryd.ntmps23
  go_wp2
  go_loopw [6, 7, 8] (fun vo r i wr => ∃ (k q : Nat) (L : List UInt8), k ≤ s.size ∧ i = .int .i64 k ∧ r = .int .i64 q ∧ Hid (Ln.listSt width (s.data.toList.take k) = (L, q)) ∧ L.length ≤ 6 * k ∧ q ≤ 4 * k ∧ wr.ownsRow w.heap.size 5 1 vo L.length (bcells L) ∧ Below w.heap.size w wr) (fun _ _ i _ => s.size - (intOf i).toNat)
  case atStart => exact ⟨0, 0, [], Nat.zero_le _, rfl, rfl, rfl, Nat.le_refl _, Nat.le_refl _, World.ownsRow_nil _ _ _ _, Below.refl _ _⟩
  case round =>
    obtain ⟨k, q, L, hk, rfl, rfl, HL, hL, hq, hown, hnx⟩ := hrel
    have hsz := hnx.size
    by_cases hlt : k < s.size
    · have hst := Ln.listSt_snoc width s k hlt
      rw [HL.out] at hst
      have htl := Ln.told_len s[k]
      have HB := @Ln.list_break width (L, q) s[k]
      have HO := @Ln.list_on width (L, q) s[k]
      rw [← hst] at HB HO
      have HB' : Hid (1 < width ∧ 0 < q ∧ width - 1 < (q : Int) + (Ln.toldL s[k]).length → Ln.listSt width (s.data.toList.take (k + 1)) = (L ++ [92, 10] ++ Ln.toldL s[k], (Ln.toldL s[k]).length)) := HB
      have HO' : Hid (¬ (1 < width ∧ 0 < q ∧ width - 1 < (q : Int) + (Ln.toldL s[k]).length) → Ln.listSt width (s.data.toList.take (k + 1)) = (L ++ Ln.toldL s[k], q + (Ln.toldL s[k]).length)) := HO
      have htz := Ln.bs_size (Ln.toldL s[k])
      have HTD : Hid ((Ln.bs (Ln.toldL s[k])).data.toList = Ln.toldL s[k]) := rfl
      obtain ⟨t, ht⟩ : ∃ t, Ln.toldL s[k] = t := ⟨_, rfl⟩
      rw [ht] at HB' HO' htl htz HTD
      have HTT : Hid (Ln.toldL s[k] = t) := ht
      obtain ⟨tb, htb⟩ : ∃ tb, Ln.bs t = tb := ⟨_, rfl⟩
      rw [htb] at htz HTD
      have HTB : Hid (Ln.bs t = tb) := htb
      have HTS : Hid (bcells t = Lib.strCells tb) := by show _ = _; rw [strCells_eq, HTD.out]
      have i1 : (k : Int) < (s.size : Int) := by omega
      clear HB HO hst ht htb
      by_cases p : 1 < width ∧ 0 < q ∧ width - 1 < (q : Int) + t.length
      · have HS : Hid (Ln.listSt width (s.data.toList.take (k + 1)) = (L ++ [92, 10] ++ t, t.length)) := HB'.out p
        obtain ⟨p1, p2, p3⟩ := p
        have p1' : width > 1 := p1
        have p2' : (q : Int) > 0 := by omega
        have p3' : (t.length : Int) > width - 1 - (q : Int) := by omega
        have hw1 : IntKind.i64.wrap (width - 1) = width - 1 := by rw [IntKind.wrap_i64]; omega
        have hw3 : IntKind.i64.wrap (width - 1 - (q : Int)) = width - 1 - (q : Int) := by rw [IntKind.wrap_i64]; omega
        clear HB' HO' p2 p3
        go_wp2_with fail
        refine (rtold_any s[k] _).mono ?_
        rw [HTT.out, HTB.out]
        rintro e w2 ⟨rfl, hb2⟩
        replace hown := own_below hown hb2
        replace hnx := hnx.trans (hb2.mono hsz)
        replace hsz := hnx.size
        clear hb2
        go_wp2_with (at_builtin; refine wpList_append_own _ rfl _ _ 43 rfl w.heap.size 5 i0 (.int .u8 0) 1 1 Tryd.underlying43 hi hz0 hz1 hz2 rfl (by decide) _ _ _ rfl (hown.alloc _) ⟨_, 0, none⟩ 2 2 [.int .u8 92, .int .u8 10] rfl rfl (cell_two_new _ _ _ _) (one_ints (k := .u8) _) (by unfold maxLen; omega) (by omega) (by simp; omega) ?_)
        intro v3 w3 hown3 hgr3 _
        have hB3 : Below w.heap.size w w3 := (hnx.alloc hsz _).grown hgr3 (by simp; omega) (fun g hg => (hown.lt g hg).1)
        have hs3 := hB3.size
        have ho3 : w3.ownsRow w.heap.size 5 1 v3 (L ++ [92, 10]).length (bcells (L ++ [92, 10])) := by rw [bcells_append, List.length_append]; exact hown3
        have hl3 : (L ++ [92, 10]).length ≤ 6 * k + 2 := by simp; omega
        clear hgr3 hown3 hown
        generalize L ++ [92, 10] = L3 at *
        go_wp2_with (at_builtin; refine Lib.wpList_append_own_string _ rfl _ _ 43 9 rfl w.heap.size 5 i0 Tryd.underlying43 Tryd.underlying9 hi hz0 hz1 hz2 _ _ _ rfl ho3 tb rfl (by unfold maxLen; omega) (by omega) (by omega) ?_)
        intro v4 w4 hown4 hgr4 _
        have hB4 : Below w.heap.size w w4 := hB3.grown hgr4 hs3 (fun g hg => (ho3.lt g hg).1)
        have ho4 : w4.ownsRow w.heap.size 5 1 v4 (L3 ++ t).length (bcells (L3 ++ t)) := by rw [bcells_append, List.length_append, HTS.out]; exact hown4
        clear hgr4 hown4
        go_wp2
        go_roundw
        case rel => exact ⟨k + 1, t.length, L3 ++ t, by omega, by go_num, by go_num, HS, by simp; omega, by omega, ho4, hB4⟩
        case measure => simp [intOf]; omega
      · have HS : Hid (Ln.listSt width (s.data.toList.take (k + 1)) = (L ++ t, q + t.length)) := HO'.out p
        clear HB' HO'
        have cases3 : (decide (width > (1 : Int)) = false) ∨ (width > 1 ∧ q = 0) ∨ (width > 1 ∧ (q : Int) > 0 ∧ ¬ ((t.length : Int) > width - 1 - (q : Int)) ∧ IntKind.i64.wrap (width - 1) = width - 1 ∧ IntKind.i64.wrap (width - 1 - (q : Int)) = width - 1 - (q : Int)) := by
          by_cases a : 1 < width
          · by_cases b : 0 < q
            · right; right; exact ⟨a, by omega, by omega, by rw [IntKind.wrap_i64]; omega, by rw [IntKind.wrap_i64]; omega⟩
            · right; left; exact ⟨a, by omega⟩
          · left; simpa using a
        clear p
        have fin : ∀ (v4 : Value) (w2 w4 : World), w2.ownsRow w.heap.size 5 1 v4 L.length (bcells L) → True := fun _ _ _ _ => trivial
        clear fin
        rcases cases3 with c1 | ⟨c1, rfl⟩ | ⟨c1, c2, c3, c4, c5⟩
        all_goals
          go_wp2_with fail
          refine (rtold_any s[k] _).mono ?_
          rw [HTT.out, HTB.out]
          rintro e w2 ⟨rfl, hb2⟩
          replace hown := own_below hown hb2
          replace hnx := hnx.trans (hb2.mono hsz)
          replace hsz := hnx.size
          clear hb2
          go_wp2_with (at_builtin; refine Lib.wpList_append_own_string _ rfl _ _ 43 9 rfl w.heap.size 5 i0 Tryd.underlying43 Tryd.underlying9 hi hz0 hz1 hz2 _ _ _ rfl hown tb rfl (by unfold maxLen; omega) (by omega) (by omega) ?_)
          intro v4 w4 hown4 hgr4 _
          have hB4 : Below w.heap.size w w4 := hnx.grown hgr4 hsz (fun g hg => (hown.lt g hg).1)
          have ho4 : w4.ownsRow w.heap.size 5 1 v4 (L ++ t).length (bcells (L ++ t)) := by rw [bcells_append, List.length_append, HTS.out]; exact hown4
          clear hgr4 hown4
          go_wp2
          go_roundw
          case rel => exact ⟨k + 1, _, L ++ t, by omega, by go_num, by go_num, HS, by simp; omega, by omega, ho4, hB4⟩
          case measure => simp [intOf]; omega
    · have HE : Hid (Ln.listSt width s.data.toList = (L, q)) := by have := HL.out; rwa [Ln.take_all s k (by omega)] at this
      have HE2 : Hid (Ln.listP s width = (Ln.bs (L ++ [36, 10]), 0)) := by have := HR.out; rwa [HE.out] at this
      clear HL HR HE
      go_wp2_with (at_builtin; refine wpList_append_own _ rfl _ _ 43 rfl w.heap.size 5 i0 (.int .u8 0) 1 1 Tryd.underlying43 hi hz0 hz1 hz2 rfl (by decide) _ _ _ rfl (hown.alloc _) ⟨wr.heap.size, 0, none⟩ 2 2 [.int .u8 36, .int .u8 10] rfl rfl (cell_two_new _ _ _ _) (one_ints (k := .u8) _) (by unfold maxLen; omega) (by omega) (by simp; omega) ?_)
      intro v3 w3 hown3 hgr3 _
      have hB3 : Below w.heap.size w w3 := (hnx.alloc hsz _).grown hgr3 (by simp; omega) (fun g hg => (hown.lt g hg).1)
      have ho3 : w3.ownsRow w.heap.size 5 1 v3 (L ++ [36, 10]).length (bcells (L ++ [36, 10])) := by rw [bcells_append, List.length_append]; exact hown3
      have hl3 : (L ++ [36, 10]).length = L.length + 2 := by simp
      obtain ⟨g3, c3, rfl, _, _⟩ := ho3.form (by omega)
      have hcv := conv_own ho3
      rw [hl3] at hcv ⊢
      clear hl3 ho3 hown3
      go_wp2
      go_ret2
      exact ⟨by rw [HE2.out]; rfl, hB3⟩
end Go.Proofs.YtmbpebdceaihaaaDoor
