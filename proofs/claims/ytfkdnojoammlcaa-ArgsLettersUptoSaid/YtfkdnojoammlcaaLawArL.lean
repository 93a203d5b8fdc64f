/- The law ArgsLetters: letters in one argument, each in its own, each by its long name. -/
import Derived.Test.YtfkdnojoammlcaaArGt
import Derived.Test.YtfkdnojoammlcaaArLtP
import Derived.Test.YtfkdnojoammlcaaLawArN
namespace Go.Proofs.Ytfkdnojoammlcaa
open Go.RowKit

/-- The loop's memory: the lists of letters and of long names so far, behind the blocks of the names and of the one argument. -/
structure LtM (w : World) (B : Nat) (l : List UInt8) (X2 X3 : List ByteArray) (v2 v3 : Value) (W : World) : Prop where
  below : Below w.heap.size w W
  lo : w.heap.size ≤ B
  bs : B + 2 ≤ W.heap.size
  nm : W.heap[B]? = some (.cells #[.string Ar.lQuiet, .string Ar.lExt, .string Ar.lExt, .string Ar.lSep] 9)
  one : W.ownsRow (B + 1) 9 1 (.slice (some ⟨B + 1, 0, none⟩) 1 1) [Ar.flB l].length ([Ar.flB l].map Value.string)
  two : TwoR (B + 2) v2 v3 X2 X3 W
theorem LtM.grow2 {w W W' : World} {B : Nat} {l : List UInt8} {X2 X3 : List ByteArray} {v2 v3 v' : Value} (h : LtM w B l X2 X3 v2 v3 W) (o : Obj) (s : ByteArray) (hg : (W.alloc o).grownBy W' v2.ownBlock) (ho : W'.ownsRow (B + 2) 9 1 v' (X2.length + 1) (X2.map Value.string ++ [.string s])) (hat : v'.ownBlock = v2.ownBlock ∨ v'.ownBlock = some (W.heap.size + 1)) : LtM w B l (X2 ++ [s]) X3 v' v3 W' := by
  have hbs := h.bs
  have hlo := h.lo
  have hs := hg.size
  rw [World.size_alloc] at hs
  have hl : ∀ k, v2.ownBlock = some k → B + 2 ≤ k := fun k e => (h.two.r2.lt k e).1
  have same : ∀ k, k < B + 2 → W'.heap[k]? = W.heap[k]? := fun k hk => (hg.block k (by rw [World.size_alloc]; omega) (fun e => by have := hl k e.symm; omega)).trans (heap_alloc_old W o (by omega))
  refine ⟨(h.below.alloc h.below.size o).grown hg (by rw [World.size_alloc]; have := h.below.size; omega) (fun k e => by have := hl k e; omega), hlo, by omega, by rw [same B (by omega)]; exact h.nm, own_keep h.one (fun k e => same k (by have : B + 1 = k := Option.some.inj e; omega)), ?_⟩
  refine (h.two.below (alloc_below W o)).grow hg ?_ (by rw [World.size_alloc]; exact hat)
  rw [List.length_append, List.map_append]
  exact ho
theorem LtM.grow3 {w W W' : World} {B : Nat} {l : List UInt8} {X2 X3 : List ByteArray} {v2 v3 v' : Value} (h : LtM w B l X2 X3 v2 v3 W) (o : Obj) (s : ByteArray) (hg : (W.alloc o).grownBy W' v3.ownBlock) (ho : W'.ownsRow (B + 2) 9 1 v' (X3.length + 1) (X3.map Value.string ++ [.string s])) (hat : v'.ownBlock = v3.ownBlock ∨ v'.ownBlock = some (W.heap.size + 1)) : LtM w B l X2 (X3 ++ [s]) v2 v' W' := by
  have h' := (⟨h.below, h.lo, h.bs, h.nm, h.one, h.two.swap⟩ : LtM w B l X3 X2 v3 v2 W).grow2 o s hg ho hat
  exact ⟨h'.below, h'.lo, h'.bs, h'.nm, h'.one, h'.two.swap⟩
theorem cut_bytes (b off n c i : Nat) (h : i < n) (hn : n ≤ c) (_hc : c ≤ maxLen) (wx : World) : (Instr.slice 44 (.slice (some ⟨b, off, none⟩) n c) (some (.int .i64 (i : Int))) (some (.int .i64 ((i : Int) + 1))) none).run Try.prog wx = .ok (.slice (some ⟨b, off + i, none⟩) 1 (c - i)) wx := by
  have h1 : (i : Int) ≤ (i : Int) + 1 := by omega
  have h2 : (i : Int) + 1 ≤ (c : Int) := by omega
  have h3 : ((i : Int) + 1).toNat = i + 1 := by omega
  have h4 : ¬ c = i := by omega
  have h5 : i + 1 - i = 1 := by omega
  simp [Instr.slice, Instr.sliceBounds, Instr.sliceBound, asIntOf, run_underlying Try.underlying44, go_sem, h2, h3, h4, h5, add_off]
  intro h9
  omega

set_option maxRecDepth 100000 in
set_option maxHeartbeats 8000000 in
theorem law_letters (l : List UInt8) (la : Option Addr) (lc : Nat) (R : List ByteArray) (ra : Option Addr) (rc : Nat) (w : World) (hl : Bys w la lc l) (hR : Rdy w ra rc R) (hm : MaxG w) (hRl : R.length ≤ 1048576) :
    Calls Try.prog 7 #[.slice la l.length lc, .slice ra R.length rc] w fun e w' => e = .returned (.bool true) ∧ Below w.heap.size w w' := by
  obtain ⟨i0, hi, hz0, hz1, hz2⟩ := info_parts Try.infoStr
  have HBg : Hid _ := begins_any w hm.m hm.g
  have HLw : Hid _ := hl
  have HRw : Hid _ := hR
  have HMw : Hid _ := hm
  have hlen := hl.len
  clear hl hR hm
  have hw9 : IntKind.i64.wrap ((l.length : Int) + (R.length : Int)) = (l.length : Int) + (R.length : Int) := by rw [IntKind.wrap_i64]; omega
  by_cases hne : l = []
  · have h0 : ((l.length : Int) == 0) = true := by rw [hne]; rfl
    clear hne
    go_enter Try.func7, Try.ntmps7
    go_wp2_with fail
    refine Calls.mono HBg.out ?_
    rintro e w1 ⟨rfl, hb1⟩
    have HB1 : Hid _ := hb1
    clear hb1
    go_wp2_with fail
    go_ret
    exact ⟨rfl, HB1.out⟩
  have h0 : ((l.length : Int) == 0) = false := by
    rw [beq_eq_false_iff_ne]; intro e; exact hne (List.length_eq_zero_iff.1 (by omega))
  by_cases hbig : 65536 < l.length + R.length
  · have hd : decide ((65536 : Int) < (l.length : Int) + (R.length : Int)) = true := decide_eq_true (by omega)
    have hd2 : (65536 : Int) < (l.length : Int) + (R.length : Int) := by omega
    go_enter Try.func7, Try.ntmps7
    go_wp2_with fail
    refine Calls.mono HBg.out ?_
    rintro e w1 ⟨rfl, hb1⟩
    have HB1 : Hid _ := hb1
    clear hb1
    go_wp2_with fail
    go_ret
    exact ⟨rfl, HB1.out⟩
  have hd2 : ¬ (65536 : Int) < (l.length : Int) + (R.length : Int) := by omega
  have HN : Hid (l ≠ []) := hne
  have HRL : Hid (l.length + R.length ≤ 65536) := by show _ ≤ _; omega
  clear hbig hne
  go_enter Try.func7, Try.ntmps7
  go_wp2_with fail
  refine Calls.mono HBg.out ?_
  rintro e w1 ⟨rfl, hb1⟩
  have HB1 : Hid (Below w.heap.size w w1) := hb1
  clear hb1 HBg
  have HF : Hid (∀ V, Below w1.heap.size w1 V → Calls Try.prog 23 #[.slice la l.length lc] V fun e w' => e = .returned (.string (Ar.flB l)) ∧ V = w') := fun V hV => flags_any l la lc V ((HLw.out.below HB1.out).below hV)
  have HM0 : Hid (LtM w w1.heap.size l [] [] (.slice none 0 0) (.slice none 0 0) ((w1.alloc (.cells #[.string Ar.lQuiet, .string Ar.lExt, .string Ar.lExt, .string Ar.lSep] 9)).alloc (.cells #[.string (Ar.flB l)] 9))) := by
    refine ⟨HB1.out.trans (((alloc_below w1 _).mono HB1.out.size).trans ((alloc_below _ _).mono (by have := HB1.out.size; simp; omega))), HB1.out.size, by simp, ?_, ?_, ⟨World.ownsRow_nil _ _ _ _, World.ownsRow_nil _ _ _ _, fun k e => (by cases e)⟩⟩
    · rw [heap_alloc_old _ _ (by simp)]; exact heap_alloc_new _ _
    · have := row_lit (w1.alloc (.cells #[.string Ar.lQuiet, .string Ar.lExt, .string Ar.lExt, .string Ar.lSep] 9)) [Ar.flB l] (by simp)
      rw [World.size_alloc] at this
      exact this
  go_upto_region 6 with fail
  go_wp2_with fail
  refine Calls.mono (HF.out _ (alloc_below _ _)) ?_
  rintro e w2 ⟨rfl, rfl⟩
  clear HF
  go_wp2_with fail
  go_loopw [7, 8, 9] (fun v2 v3 iv wr => ∃ k : Nat, iv = .int .i64 (k : Int) ∧ k ≤ l.length ∧ Hid (LtM w w1.heap.size l ((l.take k).map (fun b => Ar.flB [b])) ((l.take k).map Ar.lgB) v2 v3 wr)) (fun _ _ iv _ => l.length - (intOf iv).toNat)
  case atStart => exact ⟨0, rfl, Nat.zero_le _, HM0⟩
  case round =>
    clear HM0
    obtain ⟨k, rfl, hk, HM⟩ := hrel
    have hbs := HM.out.bs
    by_cases hlt : k < l.length
    · have hd : (k : Int) < (l.length : Int) := by omega
      have hw : IntKind.i64.wrap ((k : Int) + 1) = (k : Int) + 1 := by rw [IntKind.wrap_i64]; omega
      have hlr := HLw.out.below HM.out.below
      obtain ⟨bb, off, rfl, hbb, d0⟩ := hlr.cells k hlt
      have hcut := fun wx => cut_bytes bb off l.length lc k hlt hlr.room hlr.most wx
      have hby : Bys wr (some ⟨bb, off + k, none⟩) (lc - k) [l[k]'hlt] := ⟨by simp, fun e => (by cases e), by have := hlr.room; simp; omega, by have := hlr.most; omega, fun i hi => by
        obtain rfl : i = 0 := by simpa using hi
        exact ⟨bb, off + k, rfl, hbb, d0⟩⟩
      have HTk : Hid ((l.take (k + 1)).map (fun b => Ar.flB [b]) = (l.take k).map (fun b => Ar.flB [b]) ++ [Ar.flB [l[k]'hlt]] ∧ (l.take (k + 1)).map Ar.lgB = (l.take k).map Ar.lgB ++ [Ar.lgB (l[k]'hlt)]) := by
        show _ ∧ _
        rw [List.take_succ_eq_append_getElem hlt, List.map_append, List.map_append]
        exact ⟨rfl, rfl⟩
      generalize l[k]'hlt = b at *
      have HF : Hid (Calls Try.prog 23 #[.slice (some ⟨bb, off + k, none⟩) 1 (lc - k)] wr fun e w' => e = .returned (.string (Ar.flB [b])) ∧ wr = w') := flags_any [b] _ _ wr hby
      have h2l : ((l.take k).map (fun b => Ar.flB [b])).length = k := by rw [List.length_map, List.length_take]; omega
      have h3l : ((l.take k).map Ar.lgB).length = k := by rw [List.length_map, List.length_take]; omega
      have HL2 : Hid (((l.take k).map (fun b => Ar.flB [b])).length ≤ 65536) := by show _ ≤ _; have := HRL.out; omega
      have HL3 : Hid (((l.take k).map Ar.lgB).length ≤ 65536) := by show _ ≤ _; have := HRL.out; omega
      clear h2l h3l hlr hby
      generalize (l.take k).map (fun b => Ar.flB [b]) = X2 at *
      generalize (l.take k).map Ar.lgB = X3 at *
      go_wp2_with fail
      refine Calls.mono HF.out ?_
      rintro e w2 ⟨rfl, rfl⟩
      go_wp2_with (at_builtin; refine wpList_append_own_at _ rfl (.tmp 42) (.tmp 49) 22 rfl (w1.heap.size + 2) 9 i0 (.string ⟨#[]⟩) 1 16 Try.underlying22 hi hz0 hz1 hz2 rfl (by decide) _ X2.length (X2.map Value.string) rfl (own_below HM.out.two.r2 (alloc_below _ _)) ⟨wr.heap.size, 0, none⟩ 1 1 [.string (Ar.flB [b])] rfl rfl (strs_one wr (Ar.flB [b]) 9 (by rw [Ar.flB_size]; show 2 ≤ _; decide)).news (one_string _) (by have := HL2.out; unfold maxLen; omega) (by have := HL2.out; omega) (by simp; omega) ?_)
      intro v2' w3 ho3 hg3 _ hat3
      have HM3 : Hid (LtM w w1.heap.size l (X2 ++ [Ar.flB [b]]) X3 v2' _ w3) := HM.out.grow2 _ _ hg3 ho3 (by first | exact hat3 | simpa using hat3)
      have d0' : w3.cell? ⟨bb, off + k, none⟩ = some (.int .u8 (b.toNat : Int)) := by
        have hlr := HLw.out.below HM3.out.below
        have hl2 := HLw.out.below HM.out.below
        have hb0 : bb < w.heap.size := by
          obtain ⟨b', o', e', h', _⟩ := HLw.out.cells k hlt
          cases e'; exact h'
        rw [HM3.out.below.cell (p := ⟨bb, off + k, none⟩) hb0, ← HM.out.below.cell (p := ⟨bb, off + k, none⟩) hb0]
        exact d0
      have hbs3 := HM3.out.bs
      clear d0 ho3 hg3 hat3 HF
      have n0 : w3.cell? ⟨w1.heap.size, 0, none⟩ = some (.string Ar.lQuiet) := cell_of_row _ _ _ _ _ _ HM3.out.nm
      have n1 : w3.cell? ⟨w1.heap.size, 1, none⟩ = some (.string Ar.lExt) := cell_of_row _ _ _ _ _ _ HM3.out.nm
      have n2 : w3.cell? ⟨w1.heap.size, 2, none⟩ = some (.string Ar.lExt) := cell_of_row _ _ _ _ _ _ HM3.out.nm
      have n3 : w3.cell? ⟨w1.heap.size, 3, none⟩ = some (.string Ar.lSep) := cell_of_row _ _ _ _ _ _ HM3.out.nm
      have hb := b.toNat_lt
      obtain ⟨m, hm⟩ : ∃ m, b.toNat % 4 = m := ⟨_, rfl⟩
      have hmi : ((b.toNat : Int).tmod 4) = (m : Int) := by rw [← hm, Int.tmod_eq_emod_of_nonneg (by omega)]; omega
      have hm4 : m < 4 := by omega
      have HG : Hid (Ar.lgB b = Ar.lgm m) := by show _ = _; unfold Ar.lgB; rw [hm]
      clear hm
      match m, hm4 with
      | 0, _ =>
        go_wp2_with (at_builtin; refine wpList_append_own_at _ rfl (.tmp 51) (.tmp 60) 22 rfl (w1.heap.size + 2) 9 i0 (.string ⟨#[]⟩) 1 16 Try.underlying22 hi hz0 hz1 hz2 rfl (by decide) _ X3.length (X3.map Value.string) rfl (own_below HM3.out.two.r3 (alloc_below _ _)) ⟨w3.heap.size, 0, none⟩ 1 1 [.string Ar.lQuiet] rfl rfl (strs_one w3 Ar.lQuiet 9 (by decide)).news (one_string _) (by have := HL3.out; unfold maxLen; omega) (by have := HL3.out; omega) (by simp; omega) ?_)
        intro v3' w4 ho4 hg4 _ hat4
        have HM4 : Hid (LtM w w1.heap.size l (X2 ++ [Ar.flB [b]]) (X3 ++ [Ar.lgB b]) v2' v3' w4) := by
          rw [HG.out]
          exact HM3.out.grow3 _ _ hg4 ho4 (by first | exact hat4 | simpa using hat4)
        clear ho4 hg4 hat4 HG HM3
        go_wp2_with fail
        go_roundw
        case rel =>
          refine ⟨k + 1, by simp, by omega, ?_⟩
          rw [HTk.out.1, HTk.out.2]
          exact HM4
        case measure => simp only [intOf]; omega
      | 1, _ =>
        go_wp2_with (at_builtin; refine wpList_append_own_at _ rfl (.tmp 51) (.tmp 60) 22 rfl (w1.heap.size + 2) 9 i0 (.string ⟨#[]⟩) 1 16 Try.underlying22 hi hz0 hz1 hz2 rfl (by decide) _ X3.length (X3.map Value.string) rfl (own_below HM3.out.two.r3 (alloc_below _ _)) ⟨w3.heap.size, 0, none⟩ 1 1 [.string Ar.lExt] rfl rfl (strs_one w3 Ar.lExt 9 (by decide)).news (one_string _) (by have := HL3.out; unfold maxLen; omega) (by have := HL3.out; omega) (by simp; omega) ?_)
        intro v3' w4 ho4 hg4 _ hat4
        have HM4 : Hid (LtM w w1.heap.size l (X2 ++ [Ar.flB [b]]) (X3 ++ [Ar.lgB b]) v2' v3' w4) := by
          rw [HG.out]
          exact HM3.out.grow3 _ _ hg4 ho4 (by first | exact hat4 | simpa using hat4)
        clear ho4 hg4 hat4 HG HM3
        go_wp2_with fail
        go_roundw
        case rel =>
          refine ⟨k + 1, by simp, by omega, ?_⟩
          rw [HTk.out.1, HTk.out.2]
          exact HM4
        case measure => simp only [intOf]; omega
      | 2, _ =>
        go_wp2_with (at_builtin; refine wpList_append_own_at _ rfl (.tmp 51) (.tmp 60) 22 rfl (w1.heap.size + 2) 9 i0 (.string ⟨#[]⟩) 1 16 Try.underlying22 hi hz0 hz1 hz2 rfl (by decide) _ X3.length (X3.map Value.string) rfl (own_below HM3.out.two.r3 (alloc_below _ _)) ⟨w3.heap.size, 0, none⟩ 1 1 [.string Ar.lExt] rfl rfl (strs_one w3 Ar.lExt 9 (by decide)).news (one_string _) (by have := HL3.out; unfold maxLen; omega) (by have := HL3.out; omega) (by simp; omega) ?_)
        intro v3' w4 ho4 hg4 _ hat4
        have HM4 : Hid (LtM w w1.heap.size l (X2 ++ [Ar.flB [b]]) (X3 ++ [Ar.lgB b]) v2' v3' w4) := by
          rw [HG.out]
          exact HM3.out.grow3 _ _ hg4 ho4 (by first | exact hat4 | simpa using hat4)
        clear ho4 hg4 hat4 HG HM3
        go_wp2_with fail
        go_roundw
        case rel =>
          refine ⟨k + 1, by simp, by omega, ?_⟩
          rw [HTk.out.1, HTk.out.2]
          exact HM4
        case measure => simp only [intOf]; omega
      | 3, _ =>
        go_wp2_with (at_builtin; refine wpList_append_own_at _ rfl (.tmp 51) (.tmp 60) 22 rfl (w1.heap.size + 2) 9 i0 (.string ⟨#[]⟩) 1 16 Try.underlying22 hi hz0 hz1 hz2 rfl (by decide) _ X3.length (X3.map Value.string) rfl (own_below HM3.out.two.r3 (alloc_below _ _)) ⟨w3.heap.size, 0, none⟩ 1 1 [.string Ar.lSep] rfl rfl (strs_one w3 Ar.lSep 9 (by decide)).news (one_string _) (by have := HL3.out; unfold maxLen; omega) (by have := HL3.out; omega) (by simp; omega) ?_)
        intro v3' w4 ho4 hg4 _ hat4
        have HM4 : Hid (LtM w w1.heap.size l (X2 ++ [Ar.flB [b]]) (X3 ++ [Ar.lgB b]) v2' v3' w4) := by
          rw [HG.out]
          exact HM3.out.grow3 _ _ hg4 ho4 (by first | exact hat4 | simpa using hat4)
        clear ho4 hg4 hat4 HG HM3
        go_wp2_with fail
        go_roundw
        case rel =>
          refine ⟨k + 1, by simp, by omega, ?_⟩
          rw [HTk.out.1, HTk.out.2]
          exact HM4
        case measure => simp only [intOf]; omega
    · have hd : ¬ (k : Int) < (l.length : Int) := by omega
      obtain rfl : k = l.length := by omega
      rw [List.take_length] at HM
      have HLT : Hid _ := Ar.read_lt (R := R) HN.out HRL.out
      obtain ⟨T, hT⟩ : ∃ T, T = Ar.rdB R (Ar.effs l Ar.av0') 0 := ⟨_, rfl⟩
      have HA1 : Hid _ := Ar.rdB_at R (Ar.effs l Ar.av0') 1
      have HAm : Hid _ := Ar.rdB_at R (Ar.effs l Ar.av0') l.length
      rw [← hT] at HA1 HAm
      have HE : Hid (T.2.1 = 0 ∨ T.2.1 = 260) := by rw [hT]; exact Ar.rdB_err _ _ _
      have HTa : Hid (T.2.2 ≤ 1099511627776) := by rw [hT]; exact Nat.le_trans (Ar.rdB_le R _) (by have := HRL.out; omega)
      clear hT
      obtain ⟨A1, hA1⟩ : ∃ A1, A1 = (Ar.readF ([Ar.flB l] ++ R)).2.2 := ⟨_, rfl⟩
      obtain ⟨A2, hA2⟩ : ∃ A2, A2 = (Ar.readF (l.map (fun b => Ar.flB [b]) ++ R)).2.2 := ⟨_, rfl⟩
      obtain ⟨A3, hA3⟩ : ∃ A3, A3 = (Ar.readF (l.map Ar.lgB ++ R)).2.2 := ⟨_, rfl⟩
      have HP1 : Hid ((Ar.readF ([Ar.flB l] ++ R)).1 = T.1 ∧ (Ar.readF ([Ar.flB l] ++ R)).2.1 = T.2.1) := by show _ ∧ _; rw [HLT.out.1]; exact ⟨HA1.out.1, HA1.out.2.1⟩
      have HP2 : Hid ((Ar.readF (l.map (fun b => Ar.flB [b]) ++ R)).1 = T.1 ∧ (Ar.readF (l.map (fun b => Ar.flB [b]) ++ R)).2.1 = T.2.1) := by show _ ∧ _; rw [HLT.out.2.1]; exact ⟨HAm.out.1, HAm.out.2.1⟩
      have HP3 : Hid ((Ar.readF (l.map Ar.lgB ++ R)).1 = T.1 ∧ (Ar.readF (l.map Ar.lgB ++ R)).2.1 = T.2.1) := by show _ ∧ _; rw [HLT.out.2.2]; exact ⟨HAm.out.1, HAm.out.2.1⟩
      have HQ : Hid (T.2.1 ≠ 0 → A1 = 1 + T.2.2 ∧ A2 = l.length + T.2.2 ∧ A3 = l.length + T.2.2) := fun h => by
        rw [hA1, hA2, hA3, HLT.out.1, HLT.out.2.1, HLT.out.2.2]
        exact ⟨HA1.out.2.2.2 (by rw [HA1.out.2.1]; exact h), HAm.out.2.2.2 (by rw [HAm.out.2.1]; exact h), HAm.out.2.2.2 (by rw [HAm.out.2.1]; exact h)⟩
      have HZ1 : Hid (∀ s ∈ [Ar.flB l] ++ R, s.size ≤ 1048576) := fun s hs => by
        rcases List.mem_append.1 hs with h | h
        · cases List.mem_singleton.1 h; rw [Ar.flB_size]; have := HRL.out; omega
        · exact HRw.out.sz s h
      have HZ2 : Hid (∀ s ∈ l.map (fun b => Ar.flB [b]) ++ R, s.size ≤ 1048576) := fun s hs => by
        rcases List.mem_append.1 hs with h | h
        · obtain ⟨b, _, rfl⟩ := List.mem_map.1 h; rw [Ar.flB_size]; show 2 ≤ _; decide
        · exact HRw.out.sz s h
      have HZ3 : Hid (∀ s ∈ l.map Ar.lgB ++ R, s.size ≤ 1048576) := fun s hs => by
        rcases List.mem_append.1 hs with h | h
        · obtain ⟨b, _, rfl⟩ := List.mem_map.1 h; have := Ar.lgB_size b; omega
        · exact HRw.out.sz s h
      have HA1' : Hid _ := hA1
      have HA2' : Hid _ := hA2
      have HA3' : Hid _ := hA3
      clear hA1 hA2 hA3 HLT HA1 HAm
      have hX2z : (l.map (fun b => Ar.flB [b])).length = l.length := List.length_map _
      have hX3z : (l.map Ar.lgB).length = l.length := List.length_map _
      generalize l.map (fun b => Ar.flB [b]) = X2 at *
      generalize l.map Ar.lgB = X3 at *
      have HX2z : Hid _ := hX2z
      have HX3z : Hid _ := hX3z
      clear hX2z hX3z
      -- the one argument
      have HBr : Hid _ := HM.out.below
      have HRr : Hid _ := (HRw.out.below HBr.out).st
      have hlp : 0 < l.length := List.length_pos_iff.2 HN.out
      have hRb : R.length ≤ 65536 := by have := HRL.out; omega
      have hRl2 : l.length + R.length ≤ 65536 := HRL.out
      have hzw : w.heap.size ≤ w1.heap.size := HM.out.lo
      go_wp2_with (at_builtin; refine wpList_append_strs _ rfl _ _ rfl (w1.heap.size + 1) _ [Ar.flB l] rfl HM.out.one ra rc R rfl HRr.out (by show 1 + _ ≤ _; omega) (by omega) ?_)
      intro v4 w4 ho4 hg4
      have HB4 : Hid (Below w.heap.size w w4) := HBr.out.grown hg4 HBr.out.size (fun k e => by have : w1.heap.size + 1 = k := Option.some.inj e; omega)
      have HT4 : Hid (TwoR (w1.heap.size + 2) _ _ X2 X3 w4) := HM.out.two.keep (fun k hk hl => hg4.block k hl (fun e => by have : k = w1.heap.size + 1 := Option.some.inj e; omega))
      obtain ⟨a4, c4, rfl, hr4⟩ := made_read HB4.out HMw.out ([Ar.flB l] ++ R) (by show R.length + 1 ≤ _; omega) HZ1.out ho4
      have HR4 : Hid _ := hr4
      have hs4 := HB4.out.size
      have hs4' := hg4.size
      have HV2 : Hid (∀ k, Value.ownBlock _ = some k → k < w4.heap.size) := fun k e => (HT4.out.r2.lt k e).2
      have HV3 : Hid (∀ k, Value.ownBlock _ = some k → k < w4.heap.size) := fun k e => (HT4.out.r3.lt k e).2
      clear hr4 ho4 hg4 HM HRr
      go_wp2_with fail
      refine Calls.mono HR4.out ?_
      rintro e w5 ⟨xa, xc, xb, xd, rfl, hc5, hb5⟩
      have HX5 : Hid (Cop w4.heap.size T.1 xa xc xb xd w5 ∧ AvR w5 T.1 xa xc xb xd) := by
        have := Cop.read HZ1.out hc5
        rw [HP1.out.1] at hc5 this
        exact ⟨hc5, this⟩
      rw [HP1.out.1, HP1.out.2, ← HA1'.out]
      have HB5 : Hid (Below w.heap.size w w5) := HB4.out.trans (hb5.mono HB4.out.size)
      have HT5 : Hid _ := HT4.out.below hb5
      obtain ⟨w6, hw6⟩ : ∃ w6, w6 = w5.alloc (.cells (avA T.1 xa xc xb xd) 28) := ⟨_, rfl⟩
      have hb6 : Below w5.heap.size w5 w6 := by rw [hw6]; exact alloc_below _ _
      have HG6 : Hid (Got w4.heap.size w5.heap.size T.1 xa xc xb xd w6) := by rw [hw6]; exact got_new HX5.out.1 hb5.size
      have HB6 : Hid (Below w.heap.size w w6) := HB5.out.trans (hb6.mono HB5.out.size)
      have HT6 : Hid _ := HT5.out.below hb6
      have HW6 : Hid _ := hw6
      have HR6 : Hid _ := (HRw.out.below HB6.out).st
      have hs5 : w4.heap.size ≤ w5.heap.size := hb5.size
      have hs6 : w5.heap.size ≤ w6.heap.size := hb6.size
      clear hc5 hb5 hb6 hw6 HR4 HT4 HT5
      simp only [avA] at HW6 ⊢
      go_upto_region 15 with fail
      rw [← HW6.out]
      go_wp2_with (at_builtin; refine wpList_append_strs _ rfl _ _ rfl (w1.heap.size + 2) _ X2 rfl HT6.out.r2 ra rc R rfl HR6.out (by have := HX2z.out; omega) (by omega) ?_)
      intro v7 w7 ho7 hg7
      have HB7 : Hid (Below w.heap.size w w7) := HB6.out.grown hg7 HB6.out.size (fun k e => by have := (HT6.out.r2.lt k e).1; omega)
      have HG7 : Hid (Got w4.heap.size w5.heap.size T.1 xa xc xb xd w7) := HG6.out.grown hg7 HV2.out
      have HT7 : Hid (w7.ownsRow (w1.heap.size + 2) 9 1 _ X3.length (X3.map Value.string)) := own_keep HT6.out.r3 (fun k e => hg7.block k (HT6.out.r3.lt k e).2 (fun e2 => HT6.out.ne k e2.symm e))
      obtain ⟨a7, c7, rfl, hr7⟩ := made_read HB7.out HMw.out (X2 ++ R) (by rw [List.length_append]; have := HX2z.out; omega) HZ2.out (by rw [List.length_append, List.map_append]; first | exact ho7 | simpa using ho7)
      rw [List.length_append] at hr7
      have HR7 : Hid _ := hr7
      have hs7 := hg7.size
      clear hr7 ho7 hg7 HR6 HT6 HV2
      go_wp2_with fail
      refine Calls.mono HR7.out ?_
      rintro e w8 ⟨ya, yc, yb, yd, rfl, hc8, hb8⟩
      have HX8 : Hid (Cop w7.heap.size T.1 ya yc yb yd w8 ∧ AvR w8 T.1 ya yc yb yd) := by
        have := Cop.read HZ2.out hc8
        rw [HP2.out.1] at hc8 this
        exact ⟨hc8, this⟩
      rw [HP2.out.1, HP2.out.2, ← HA2'.out]
      have HB8 : Hid (Below w.heap.size w w8) := HB7.out.trans (hb8.mono HB7.out.size)
      have HG8 : Hid _ := HG7.out.below hb8
      have HT8 : Hid _ := own_below HT7.out hb8
      obtain ⟨w9, hw9'⟩ : ∃ w9, w9 = w8.alloc (.cells (avA T.1 ya yc yb yd) 28) := ⟨_, rfl⟩
      have hb9 : Below w8.heap.size w8 w9 := by rw [hw9']; exact alloc_below _ _
      have HY9 : Hid (Got w7.heap.size w8.heap.size T.1 ya yc yb yd w9) := by rw [hw9']; exact got_new HX8.out.1 hb8.size
      have HG9 : Hid _ := HG8.out.below hb9
      have HT9 : Hid _ := own_below HT8.out hb9
      have HB9 : Hid (Below w.heap.size w w9) := HB8.out.trans (hb9.mono HB8.out.size)
      have HW9 : Hid _ := hw9'
      have HR9 : Hid _ := (HRw.out.below HB9.out).st
      have hs8 : w7.heap.size ≤ w8.heap.size := hb8.size
      have hs9 : w8.heap.size ≤ w9.heap.size := hb9.size
      clear hc8 hb8 hb9 hw9' HR7 HT7 HT8 HG6 HG7 HG8
      simp only [avA] at HW9 ⊢
      go_upto_region 16 with fail
      rw [← HW9.out]
      go_wp2_with (at_builtin; refine wpList_append_strs _ rfl _ _ rfl (w1.heap.size + 2) _ X3 rfl HT9.out ra rc R rfl HR9.out (by have := HX3z.out; omega) (by omega) ?_)
      intro v10 w10 ho10 hg10
      have HB10 : Hid (Below w.heap.size w w10) := HB9.out.grown hg10 HB9.out.size (fun k e => by have := (World.ownsRow.lt HT9.out k e).1; omega)
      have HG10 : Hid (Got w4.heap.size w5.heap.size T.1 xa xc xb xd w10) := HG9.out.grown hg10 HV3.out
      have HY10 : Hid (Got w7.heap.size w8.heap.size T.1 ya yc yb yd w10) := HY9.out.grown hg10 (fun k e => by have := HV3.out k e; omega)
      obtain ⟨a10, c10, rfl, hr10⟩ := made_read HB10.out HMw.out (X3 ++ R) (by rw [List.length_append]; have := HX3z.out; omega) HZ3.out (by rw [List.length_append, List.map_append]; first | exact ho10 | simpa using ho10)
      rw [List.length_append] at hr10
      have HR10 : Hid _ := hr10
      have hs10 := hg10.size
      clear hr10 ho10 hg10 HR9 HT9 HV3 HG9 HY9
      go_wp2_with fail
      refine Calls.mono HR10.out ?_
      rintro e w11 ⟨za, zc, zb, zd, rfl, hc11, hb11⟩
      have HX11 : Hid (Cop w10.heap.size T.1 za zc zb zd w11 ∧ AvR w11 T.1 za zc zb zd) := by
        have := Cop.read HZ3.out hc11
        rw [HP3.out.1] at hc11 this
        exact ⟨hc11, this⟩
      rw [HP3.out.1, HP3.out.2, ← HA3'.out]
      have HB11 : Hid (Below w.heap.size w w11) := HB10.out.trans (hb11.mono HB10.out.size)
      have HG11 : Hid _ := HG10.out.below hb11
      have HY11 : Hid _ := HY10.out.below hb11
      obtain ⟨w12, hw12⟩ : ∃ w12, w12 = w11.alloc (.cells (avA T.1 za zc zb zd) 28) := ⟨_, rfl⟩
      have hb12 : Below w11.heap.size w11 w12 := by rw [hw12]; exact alloc_below _ _
      have HZ12 : Hid (Got w10.heap.size w11.heap.size T.1 za zc zb zd w12) := by rw [hw12]; exact got_new HX11.out.1 hb11.size
      have HG12 : Hid _ := HG11.out.below hb12
      have HY12 : Hid _ := HY11.out.below hb12
      have HB12 : Hid (Below w.heap.size w w12) := HB11.out.trans (hb12.mono HB11.out.size)
      have HW12 : Hid _ := hw12
      have HAv : Hid (∀ (n g : Nat) (p q : Option Addr) (r s : Nat) (V : World), Got n g T.1 p r q s V → AvR V T.1 p r q s) := fun n g p q r s V h => h.cop.reads HX11.out.2
      clear hc11 hb11 hb12 hw12 HR10 HG10 HY10 HG11 HY11
      simp only [avA] at HW12 ⊢
      go_upto_region 17 with fail
      rw [← HW12.out]
      obtain ⟨Tx, Te, Ta⟩ := T
      dsimp only at *
      rcases HE.out with rfl | rfl
      · obtain ⟨d00, d01, d02, d03, d04, d05, d06⟩ := HG12.out.cells
        obtain ⟨f00, f01, f02, f03, f04, f05, f06⟩ := HY12.out.cells
        have HS1 : Hid (Calls Try.prog 12 #[.agg (avA Tx xa xc xb xd), .agg (avA Tx ya yc yb yd)] w12 fun e w' => e = .returned (.bool true) ∧ Below w12.heap.size w12 w') := (rsame_any Tx Tx xa xb ya yb xc xd yc yd w12 (HAv.out _ _ _ _ _ _ _ HG12.out) (HAv.out _ _ _ _ _ _ _ HY12.out)).mono fun e w' h => ⟨by rw [h.1, Ar.sameA_refl], h.2⟩
        simp only [avA] at HS1
        clear HQ HP1 HP2 HP3
        go_wp2_with fail
        refine Calls.mono HS1.out ?_
        rintro e w13 ⟨rfl, hb13⟩
        have HB13 : Hid (Below w.heap.size w w13) := HB12.out.trans (hb13.mono HB12.out.size)
        have HG13 : Hid _ := HG12.out.below hb13
        have HZ13 : Hid _ := HZ12.out.below hb13
        clear d00 d01 d02 d03 d04 d05 d06 f00 f01 f02 f03 f04 f05 f06 hb13 HS1
        obtain ⟨d00, d01, d02, d03, d04, d05, d06⟩ := HG13.out.cells
        obtain ⟨f00, f01, f02, f03, f04, f05, f06⟩ := HZ13.out.cells
        have HS2 : Hid (Calls Try.prog 12 #[.agg (avA Tx xa xc xb xd), .agg (avA Tx za zc zb zd)] w13 fun e w' => e = .returned (.bool true) ∧ Below w13.heap.size w13 w') := (rsame_any Tx Tx xa xb za zb xc xd zc zd w13 (HAv.out _ _ _ _ _ _ _ HG13.out) (HAv.out _ _ _ _ _ _ _ HZ13.out)).mono fun e w' h => ⟨by rw [h.1, Ar.sameA_refl], h.2⟩
        simp only [avA] at HS2
        go_wp2_with fail
        refine Calls.mono HS2.out ?_
        rintro e w14 ⟨rfl, hb14⟩
        have HB14 : Hid (Below w.heap.size w w14) := HB13.out.trans (hb14.mono HB13.out.size)
        clear hb14
        go_wp2_with fail
        go_ret
        exact ⟨rfl, HB14.out⟩
      · obtain ⟨rfl, rfl, rfl⟩ := HQ.out (by decide)
        have hTa : Ta ≤ 1099511627776 := HTa.out
        have w1' : IntKind.i64.wrap (((l.length + Ta : Nat) : Int) - (l.length : Int)) = (Ta : Int) := by rw [IntKind.wrap_i64]; omega
        have w2' : IntKind.i64.wrap ((Ta : Int) + 1) = (Ta : Int) + 1 := by rw [IntKind.wrap_i64]; omega
        have e1 : ((((1 + Ta : Nat)) : Int) == (Ta : Int) + 1) = true := by rw [beq_iff_eq]; omega
        clear HQ HP1 HP2 HP3
        go_wp2_with fail
        go_ret
        exact ⟨by simp, HB12.out⟩
end Go.Proofs.Ytfkdnojoammlcaa
