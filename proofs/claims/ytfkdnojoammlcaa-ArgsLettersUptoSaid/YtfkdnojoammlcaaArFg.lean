/- What the reference's (*reading).long does. -/
import Derived.Test.YtfkdnojoammlcaaArFl
import Derived.Test.YtfkdnojoammlcaaArLo
namespace Go.Proofs.Ytfkdnojoammlcaa
open Go.RowKit

namespace Ar
theorem cutEq_spec : ∀ l : List UInt8, (cutEq l).1.length ≤ l.length ∧ l.take (cutEq l).1.length = (cutEq l).1 ∧ (∀ i (h : i < l.length), i < (cutEq l).1.length → l[i]'h ≠ 61) ∧ ((cutEq l).2.2 = true → ∃ h : (cutEq l).1.length < l.length, l[(cutEq l).1.length]'h = 61 ∧ l.drop ((cutEq l).1.length + 1) = (cutEq l).2.1) ∧ ((cutEq l).2.2 = false → (cutEq l).1.length = l.length ∧ (cutEq l).2.1 = [])
  | [] => ⟨Nat.le_refl _, rfl, fun i h => absurd h (Nat.not_lt_zero _), fun h => (nomatch h), fun _ => ⟨rfl, rfl⟩⟩
  | c :: r => by
    obtain ⟨i0, i1, i2, i3, i4⟩ := cutEq_spec r
    by_cases hc : c = 61
    · have e : cutEq (c :: r) = ([], r, true) := by rw [cutEq, if_pos hc]
      rw [e]
      exact ⟨Nat.zero_le _, rfl, fun i _ h => absurd h (Nat.not_lt_zero _), fun _ => ⟨Nat.zero_lt_succ _, hc, rfl⟩, fun h => (nomatch h)⟩
    · have e : cutEq (c :: r) = (c :: (cutEq r).1, (cutEq r).2.1, (cutEq r).2.2) := by rw [cutEq, if_neg hc]
      rw [e]
      refine ⟨by simpa using i0, by simp [i1], fun i h hi => ?_, fun h => ?_, fun h => ?_⟩
      · match i, h, hi with
        | 0, _, _ => exact hc
        | i + 1, h, hi => exact i2 i (by simpa using h) (by simpa using hi)
      · obtain ⟨h1, h2, h3⟩ := i3 h
        exact ⟨by simpa using h1, by simpa using h2, by simpa using h3⟩
      · obtain ⟨h1, h2⟩ := i4 h
        exact ⟨by simp [h1], h2⟩
theorem cutEq_dash (l : List UInt8) : cutEq (45 :: 45 :: l) = (45 :: 45 :: (cutEq l).1, (cutEq l).2.1, (cutEq l).2.2) := by
  rw [cutEq, if_neg (by decide), cutEq, if_neg (by decide)]
theorem name_cases (l : List UInt8) : l = [113, 117, 105, 101, 116] ∨ l = [115, 105, 108, 101, 110, 116] ∨ l = [114, 101, 103, 101, 120, 112, 45, 101, 120, 116, 101, 110, 100, 101, 100] ∨ l = [115, 101, 112, 97, 114, 97, 116, 101] ∨ l = [105, 110, 45, 112, 108, 97, 99, 101] ∨ l = [101, 120, 112, 114, 101, 115, 115, 105, 111, 110] ∨ l = [102, 105, 108, 101] ∨ (idxN (bs l) = 6 ∧ l ≠ [113, 117, 105, 101, 116] ∧ l ≠ [115, 105, 108, 101, 110, 116] ∧ l ≠ [114, 101, 103, 101, 120, 112, 45, 101, 120, 116, 101, 110, 100, 101, 100] ∧ l ≠ [115, 101, 112, 97, 114, 97, 116, 101] ∧ l ≠ [105, 110, 45, 112, 108, 97, 99, 101] ∧ l ≠ [101, 120, 112, 114, 101, 115, 115, 105, 111, 110] ∧ l ≠ [102, 105, 108, 101]) := by
  by_cases h0 : l = [113, 117, 105, 101, 116]
  · exact .inl h0
  by_cases h1 : l = [115, 105, 108, 101, 110, 116]
  · exact .inr (.inl h1)
  by_cases h2 : l = [114, 101, 103, 101, 120, 112, 45, 101, 120, 116, 101, 110, 100, 101, 100]
  · exact .inr (.inr (.inl h2))
  by_cases h3 : l = [115, 101, 112, 97, 114, 97, 116, 101]
  · exact .inr (.inr (.inr (.inl h3)))
  by_cases h4 : l = [105, 110, 45, 112, 108, 97, 99, 101]
  · exact .inr (.inr (.inr (.inr (.inl h4))))
  by_cases h5 : l = [101, 120, 112, 114, 101, 115, 115, 105, 111, 110]
  · exact .inr (.inr (.inr (.inr (.inr (.inl h5)))))
  by_cases h6 : l = [102, 105, 108, 101]
  · exact .inr (.inr (.inr (.inr (.inr (.inr (.inl h6))))))
  refine .inr (.inr (.inr (.inr (.inr (.inr (.inr (?_)))))))
  refine ⟨?_, h0, h1, h2, h3, h4, h5, h6⟩
  unfold idxN
  refine fst6_no fun k hk => ?_
  match k, hk with
  | 0, _ => simp [memN, namK, nQuiet, nSilent, data_bs, Ne.symm h0, Ne.symm h1]
  | 1, _ => simp [memN, namK, nExt, data_bs, Ne.symm h2]
  | 2, _ => simp [memN, namK, nSep, data_bs, Ne.symm h3]
  | 3, _ => simp [memN, namK, nExpr, data_bs, Ne.symm h5]
  | 4, _ => simp [memN, namK, nFile, data_bs, Ne.symm h6]
  | 5, _ => simp [memN, namK, nIn, data_bs, Ne.symm h4]
theorem extract_to (S : ByteArray) (k : Nat) : (S.extract 0 k) = bs (S.data.toList.take k) := by
  apply ba_ext
  rw [data_bs]
  simp [ByteArray.data_extract, Array.toList_extract, List.extract]
theorem extract_from (S : ByteArray) (k : Nat) : (S.extract k S.size) = bs (S.data.toList.drop k) := by
  apply ba_ext
  rw [data_bs]
  simp [ByteArray.data_extract, Array.toList_extract, List.extract]
  rw [List.take_of_length_le (by simp)]
end Ar
theorem slice_to (S : ByteArray) (k : Nat) (h : k ≤ S.size) (wx : World) : (Instr.slice 9 (.string S) none (some (.int .i64 (k : Int))) none).run Try.prog wx = .ok (.string (S.extract 0 k)) wx := by
  have h1 : (k : Int) ≤ (S.size : Int) := by omega
  simp [Instr.slice, Instr.sliceBounds, Instr.sliceBound, asIntOf, run_underlying Try.underlying9, go_sem]
  intro h9
  omega

set_option maxRecDepth 100000 in
set_option maxHeartbeats 8000000 in
theorem rlong_any {w0 W : World} {n0 g : Nat} {al : Option Addr} {cl : Nat} {L : List ByteArray} {a : Nat} {x : Ar.Av} {vs vn : Value} (h : RfM w0 n0 g al cl L a (-1) x vs vn W) (s : ByteArray) (hs : s.size ≤ 1048576) (r : List UInt8) (hsr : s.data.toList = 45 :: 45 :: r) (hat : a < L.length) (hsc : x.sc.length ≤ 131072) :
    Calls Try.prog 27 #[.pointer (some ⟨g, 0, none⟩), .string s] W (RlP w0 n0 g al cl L vn (Ar.longF r a x)) := by
  obtain ⟨Y, hY⟩ : ∃ Y, Y = Ar.longF r a x := ⟨_, rfl⟩
  rw [← hY]
  have hLl := h.len
  have g1 : W.cell? ⟨g, 1, none⟩ = some (.int .i64 (a : Int)) := h.cell 1
  have f1 := h.free 1
  have hw : IntKind.i64.wrap ((a : Int) + 1) = (a : Int) + 1 := by rw [IntKind.wrap_i64]; omega
  have HH : Hid (RfM w0 n0 g al cl L (a + 1) (-1) x vs vn (W.setCell ⟨g, 1, none⟩ (.int .i64 ((a : Int) + 1)))) := h.set 1 _ (at2 := a + 1) rfl rfl rfl
  obtain ⟨p0, p1, p2, p3, p4⟩ := Ar.cutEq_spec s.data.toList
  have ec := Ar.cutEq_dash r
  rw [← hsr] at ec
  rw [ec] at p0 p1 p2 p3 p4
  obtain ⟨q, hq⟩ : ∃ q, q = Ar.cutEq r := ⟨_, rfl⟩
  rw [← hq] at p0 p1 p2 p3 p4
  have HY : Hid (Y = if 6 ≤ Ar.idxN (Ar.bs q.1) then (false, a, x) else if (q.2.2 && decide (Ar.idxN (Ar.bs q.1) < 3)) || (!q.2.2 && decide (Ar.idxN (Ar.bs q.1) = 3 ∨ Ar.idxN (Ar.bs q.1) = 4)) then (false, a, x) else ((Ar.dov (Ar.idxN (Ar.bs q.1)) (Ar.bs q.2.1) x).1, a, (Ar.dov (Ar.idxN (Ar.bs q.1)) (Ar.bs q.2.1) x).2)) := by
    show _ = _
    rw [hY, hq]; rfl
  clear hY h hq ec hsr
  obtain ⟨N, V, hv⟩ := q
  dsimp only at *
  obtain ⟨P, hP⟩ : ∃ P, P = (45 :: 45 :: N).length := ⟨_, rfl⟩
  rw [← hP] at p0 p1 p2 p3 p4
  rw [Ar.szL] at p0
  have T1 : Hid (s.data.toList.take P = 45 :: 45 :: N) := p1
  have T2 : Hid (∀ k (hk : k < s.size), k < P → ((s[k].toNat : Int) == 61) = false) := fun k hk hkp => Ar.byte_no (p2 k (by rw [Ar.szL]; exact hk) hkp)
  have T3 : Hid (hv = true → ∃ hk : P < s.size, ((s[P].toNat : Int) == 61) = true ∧ s.data.toList.drop (P + 1) = V) := fun e => by
    obtain ⟨k1, k2, k3⟩ := p3 e
    rw [Ar.szL] at k1
    refine ⟨k1, ?_, k3⟩
    rw [show s[P] = 61 from k2]; rfl
  have T4 : Hid (hv = false → P = s.size ∧ V = []) := fun e => by
    obtain ⟨k1, k2⟩ := p4 e
    rw [Ar.szL] at k1
    exact ⟨k1, k2⟩
  clear p1 p2 p3 p4 hP
  go_enter Try.func27, Try.ntmps27
  go_wp2_with fail
  go_loopw [5] (fun iv wr => ∃ (k : Nat), iv = .int .i64 (k : Int) ∧ k ≤ P ∧ Hid (wr = W.setCell ⟨g, 1, none⟩ (.int .i64 ((a : Int) + 1)))) (fun iv _ => P - (intOf iv).toNat)
  case atStart => exact ⟨0, rfl, Nat.zero_le _, rfl⟩
  case round =>
    obtain ⟨k, rfl, hk, HI⟩ := hrel
    have HR : Hid (RfM w0 n0 g al cl L (a + 1) (-1) x vs vn wr) := by rw [HI.out]; exact HH.out
    clear g1 f1 HH
    by_cases hkp : k < P
    · have hks : k < s.size := by omega
      have hks2 : (k : Int) < (s.size : Int) := by omega
      have hne := T2.out k hks hkp
      have hwk : IntKind.i64.wrap ((k : Int) + 1) = (k : Int) + 1 := by rw [IntKind.wrap_i64]; omega
      clear T1 T2 T3 T4 HR HY
      go_wp2_with fail
      go_roundw
      case rel => exact ⟨k + 1, by simp, by omega, HI⟩
      case measure => simp only [intOf]; omega
    · obtain rfl : k = P := by omega
      have hsl := fun wx => slice_to s k p0 wx
      rw [Ar.extract_to, T1.out] at hsl
      have hNz : Hid ((Ar.bs (45 :: 45 :: N)).toList = 45 :: 45 :: N) := by show _ = _; rw [Ar.toL]; rfl
      generalize hNM : Ar.bs (45 :: 45 :: N) = NM at *
      have HNM : Hid (NM.toList = 45 :: 45 :: N) := hNz
      clear hNM hNz T1 T2 HI
      cases hv
      · obtain ⟨hPs, rfl⟩ := T4.out rfl
        have hks2 : ¬ ((k : Int) < (s.size : Int)) := by omega
        have HPS : Hid (k = s.size) := hPs
        clear T3 T4 hPs
        rcases Ar.name_cases N with hc | hc | hc | hc | hc | hc | hc | hc
        · -- --quiet
          subst hc
          have e_quiet : (NM.toList == [45, 45, 113, 117, 105, 101, 116]) = true := by rw [HNM.out]; rfl
          have e_silent : (NM.toList == [45, 45, 115, 105, 108, 101, 110, 116]) = false := by rw [HNM.out]; rfl
          have e_regexp_extended : (NM.toList == [45, 45, 114, 101, 103, 101, 120, 112, 45, 101, 120, 116, 101, 110, 100, 101, 100]) = false := by rw [HNM.out]; rfl
          have e_separate : (NM.toList == [45, 45, 115, 101, 112, 97, 114, 97, 116, 101]) = false := by rw [HNM.out]; rfl
          have e_in_place : (NM.toList == [45, 45, 105, 110, 45, 112, 108, 97, 99, 101]) = false := by rw [HNM.out]; rfl
          have e_expression : (NM.toList == [45, 45, 101, 120, 112, 114, 101, 115, 115, 105, 111, 110]) = false := by rw [HNM.out]; rfl
          have e_file : (NM.toList == [45, 45, 102, 105, 108, 101]) = false := by rw [HNM.out]; rfl
          have c3 : wr.cell? ⟨g, 3, none⟩ = some (.bool x.q) := HR.out.cell 3
          have f3 := HR.out.free 3
          have HN : Hid (RfM w0 n0 g al cl L (a + 1) (-1) { x with q := true } vs vn (wr.setCell ⟨g, 3, none⟩ (.bool true))) := HR.out.set 3 (.bool true) rfl rfl rfl
          have HY2 : Hid (Y = (true, a, { x with q := true })) := by show _ = _; rw [HY.out]; rfl
          clear HY HR HNM
          go_wp2_with fail
          go_end0
          exact ⟨rfl, _, _, _, _, HN.out, .inl ⟨by rw [HY2.out], by rw [HY2.out], rfl, by rw [HY2.out]⟩⟩
        · -- --silent
          subst hc
          have e_quiet : (NM.toList == [45, 45, 113, 117, 105, 101, 116]) = false := by rw [HNM.out]; rfl
          have e_silent : (NM.toList == [45, 45, 115, 105, 108, 101, 110, 116]) = true := by rw [HNM.out]; rfl
          have e_regexp_extended : (NM.toList == [45, 45, 114, 101, 103, 101, 120, 112, 45, 101, 120, 116, 101, 110, 100, 101, 100]) = false := by rw [HNM.out]; rfl
          have e_separate : (NM.toList == [45, 45, 115, 101, 112, 97, 114, 97, 116, 101]) = false := by rw [HNM.out]; rfl
          have e_in_place : (NM.toList == [45, 45, 105, 110, 45, 112, 108, 97, 99, 101]) = false := by rw [HNM.out]; rfl
          have e_expression : (NM.toList == [45, 45, 101, 120, 112, 114, 101, 115, 115, 105, 111, 110]) = false := by rw [HNM.out]; rfl
          have e_file : (NM.toList == [45, 45, 102, 105, 108, 101]) = false := by rw [HNM.out]; rfl
          have c3 : wr.cell? ⟨g, 3, none⟩ = some (.bool x.q) := HR.out.cell 3
          have f3 := HR.out.free 3
          have HN : Hid (RfM w0 n0 g al cl L (a + 1) (-1) { x with q := true } vs vn (wr.setCell ⟨g, 3, none⟩ (.bool true))) := HR.out.set 3 (.bool true) rfl rfl rfl
          have HY2 : Hid (Y = (true, a, { x with q := true })) := by show _ = _; rw [HY.out]; rfl
          clear HY HR HNM
          go_wp2_with fail
          go_end0
          exact ⟨rfl, _, _, _, _, HN.out, .inl ⟨by rw [HY2.out], by rw [HY2.out], rfl, by rw [HY2.out]⟩⟩
        · -- --regexp-extended
          subst hc
          have e_quiet : (NM.toList == [45, 45, 113, 117, 105, 101, 116]) = false := by rw [HNM.out]; rfl
          have e_silent : (NM.toList == [45, 45, 115, 105, 108, 101, 110, 116]) = false := by rw [HNM.out]; rfl
          have e_regexp_extended : (NM.toList == [45, 45, 114, 101, 103, 101, 120, 112, 45, 101, 120, 116, 101, 110, 100, 101, 100]) = true := by rw [HNM.out]; rfl
          have e_separate : (NM.toList == [45, 45, 115, 101, 112, 97, 114, 97, 116, 101]) = false := by rw [HNM.out]; rfl
          have e_in_place : (NM.toList == [45, 45, 105, 110, 45, 112, 108, 97, 99, 101]) = false := by rw [HNM.out]; rfl
          have e_expression : (NM.toList == [45, 45, 101, 120, 112, 114, 101, 115, 115, 105, 111, 110]) = false := by rw [HNM.out]; rfl
          have e_file : (NM.toList == [45, 45, 102, 105, 108, 101]) = false := by rw [HNM.out]; rfl
          have c3 : wr.cell? ⟨g, 4, none⟩ = some (.bool x.e) := HR.out.cell 4
          have f3 := HR.out.free 4
          have HN : Hid (RfM w0 n0 g al cl L (a + 1) (-1) { x with e := true } vs vn (wr.setCell ⟨g, 4, none⟩ (.bool true))) := HR.out.set 4 (.bool true) rfl rfl rfl
          have HY2 : Hid (Y = (true, a, { x with e := true })) := by show _ = _; rw [HY.out]; rfl
          clear HY HR HNM
          go_wp2_with fail
          go_end0
          exact ⟨rfl, _, _, _, _, HN.out, .inl ⟨by rw [HY2.out], by rw [HY2.out], rfl, by rw [HY2.out]⟩⟩
        · -- --separate
          subst hc
          have e_quiet : (NM.toList == [45, 45, 113, 117, 105, 101, 116]) = false := by rw [HNM.out]; rfl
          have e_silent : (NM.toList == [45, 45, 115, 105, 108, 101, 110, 116]) = false := by rw [HNM.out]; rfl
          have e_regexp_extended : (NM.toList == [45, 45, 114, 101, 103, 101, 120, 112, 45, 101, 120, 116, 101, 110, 100, 101, 100]) = false := by rw [HNM.out]; rfl
          have e_separate : (NM.toList == [45, 45, 115, 101, 112, 97, 114, 97, 116, 101]) = true := by rw [HNM.out]; rfl
          have e_in_place : (NM.toList == [45, 45, 105, 110, 45, 112, 108, 97, 99, 101]) = false := by rw [HNM.out]; rfl
          have e_expression : (NM.toList == [45, 45, 101, 120, 112, 114, 101, 115, 115, 105, 111, 110]) = false := by rw [HNM.out]; rfl
          have e_file : (NM.toList == [45, 45, 102, 105, 108, 101]) = false := by rw [HNM.out]; rfl
          have c3 : wr.cell? ⟨g, 5, none⟩ = some (.bool x.s) := HR.out.cell 5
          have f3 := HR.out.free 5
          have HN : Hid (RfM w0 n0 g al cl L (a + 1) (-1) { x with s := true } vs vn (wr.setCell ⟨g, 5, none⟩ (.bool true))) := HR.out.set 5 (.bool true) rfl rfl rfl
          have HY2 : Hid (Y = (true, a, { x with s := true })) := by show _ = _; rw [HY.out]; rfl
          clear HY HR HNM
          go_wp2_with fail
          go_end0
          exact ⟨rfl, _, _, _, _, HN.out, .inl ⟨by rw [HY2.out], by rw [HY2.out], rfl, by rw [HY2.out]⟩⟩
        · -- --in-place
          subst hc
          have e_quiet : (NM.toList == [45, 45, 113, 117, 105, 101, 116]) = false := by rw [HNM.out]; rfl
          have e_silent : (NM.toList == [45, 45, 115, 105, 108, 101, 110, 116]) = false := by rw [HNM.out]; rfl
          have e_regexp_extended : (NM.toList == [45, 45, 114, 101, 103, 101, 120, 112, 45, 101, 120, 116, 101, 110, 100, 101, 100]) = false := by rw [HNM.out]; rfl
          have e_separate : (NM.toList == [45, 45, 115, 101, 112, 97, 114, 97, 116, 101]) = false := by rw [HNM.out]; rfl
          have e_in_place : (NM.toList == [45, 45, 105, 110, 45, 112, 108, 97, 99, 101]) = true := by rw [HNM.out]; rfl
          have e_expression : (NM.toList == [45, 45, 101, 120, 112, 114, 101, 115, 115, 105, 111, 110]) = false := by rw [HNM.out]; rfl
          have e_file : (NM.toList == [45, 45, 102, 105, 108, 101]) = false := by rw [HNM.out]; rfl
          have HY2 : Hid (Y = (Ar.sfxB (Ar.bs []), a, { x with i := true, s := true, sf := Ar.bs [] })) := by show _ = _; rw [HY.out]; rfl
          have HDo : Hid (Calls Try.prog 44 #[.pointer (some ⟨g, 0, none⟩), .string (Ar.bs []), .int .i64 (a : Int)] wr _) := rinpl_any HR.out (Ar.bs []) (by unfold maxLen; decide) a
          clear HY HNM
          go_wp2_with fail
          refine Calls.mono HDo.out ?_
          rintro e w2 ⟨rfl, hr2⟩
          have HR2 : Hid _ := hr2
          clear hr2
          go_wp2_with fail
          refine bodyPost_ret (results_none rfl _ _ _) rfl ?_
          refine ⟨rfl, _, _, _, _, HR2.out, ?_⟩
          unfold Ar.badI Ar.bad2
          cases hsb : Ar.sfxB (Ar.bs [])
          · exact .inr ⟨by rw [HY2.out]; exact hsb, by rw [if_neg (by decide), if_pos (by decide), HY2.out]⟩
          · exact .inl ⟨by rw [HY2.out]; exact hsb, by rw [HY2.out], if_pos rfl, by rw [HY2.out]⟩
        · -- --expression
          subst hc
          have e_quiet : (NM.toList == [45, 45, 113, 117, 105, 101, 116]) = false := by rw [HNM.out]; rfl
          have e_silent : (NM.toList == [45, 45, 115, 105, 108, 101, 110, 116]) = false := by rw [HNM.out]; rfl
          have e_regexp_extended : (NM.toList == [45, 45, 114, 101, 103, 101, 120, 112, 45, 101, 120, 116, 101, 110, 100, 101, 100]) = false := by rw [HNM.out]; rfl
          have e_separate : (NM.toList == [45, 45, 115, 101, 112, 97, 114, 97, 116, 101]) = false := by rw [HNM.out]; rfl
          have e_in_place : (NM.toList == [45, 45, 105, 110, 45, 112, 108, 97, 99, 101]) = false := by rw [HNM.out]; rfl
          have e_expression : (NM.toList == [45, 45, 101, 120, 112, 114, 101, 115, 115, 105, 111, 110]) = true := by rw [HNM.out]; rfl
          have e_file : (NM.toList == [45, 45, 102, 105, 108, 101]) = false := by rw [HNM.out]; rfl
          have HY2 : Hid (Y = (false, a, x)) := by show _ = _; rw [HY.out]; rfl
          have HF : Hid (Calls Try.prog 45 #[.pointer (some ⟨g, 0, none⟩), .int .i64 (a : Int)] wr fun e w' => e = .returned (.tuple #[]) ∧ RfM w0 n0 g al cl L (a + 1) (a : Int) x vs vn w') := rfail_any HR.out a
          clear HY HNM
          go_wp2_with fail
          refine Calls.mono HF.out ?_
          rintro e w2 ⟨rfl, hr2⟩
          have HDo : Hid (Calls Try.prog 29 #[.pointer (some ⟨g, 0, none⟩), .bool false, .string ⟨#[]⟩] w2 _) := rpiece_any hr2 false ⟨#[]⟩ (by omega)
          clear hr2
          go_wp2_with fail
          refine Calls.mono HDo.out ?_
          rintro e w3 ⟨rfl, vs3, hr3⟩
          have HR3 : Hid _ := hr3
          clear hr3
          go_wp2_with fail
          refine bodyPost_ret (results_none rfl _ _ _) rfl ?_
          exact ⟨rfl, _, _, _, _, HR3.out, .inr ⟨by rw [HY2.out], by rw [HY2.out]⟩⟩
        · -- --file
          subst hc
          have e_quiet : (NM.toList == [45, 45, 113, 117, 105, 101, 116]) = false := by rw [HNM.out]; rfl
          have e_silent : (NM.toList == [45, 45, 115, 105, 108, 101, 110, 116]) = false := by rw [HNM.out]; rfl
          have e_regexp_extended : (NM.toList == [45, 45, 114, 101, 103, 101, 120, 112, 45, 101, 120, 116, 101, 110, 100, 101, 100]) = false := by rw [HNM.out]; rfl
          have e_separate : (NM.toList == [45, 45, 115, 101, 112, 97, 114, 97, 116, 101]) = false := by rw [HNM.out]; rfl
          have e_in_place : (NM.toList == [45, 45, 105, 110, 45, 112, 108, 97, 99, 101]) = false := by rw [HNM.out]; rfl
          have e_expression : (NM.toList == [45, 45, 101, 120, 112, 114, 101, 115, 115, 105, 111, 110]) = false := by rw [HNM.out]; rfl
          have e_file : (NM.toList == [45, 45, 102, 105, 108, 101]) = true := by rw [HNM.out]; rfl
          have HY2 : Hid (Y = (false, a, x)) := by show _ = _; rw [HY.out]; rfl
          have HF : Hid (Calls Try.prog 45 #[.pointer (some ⟨g, 0, none⟩), .int .i64 (a : Int)] wr fun e w' => e = .returned (.tuple #[]) ∧ RfM w0 n0 g al cl L (a + 1) (a : Int) x vs vn w') := rfail_any HR.out a
          clear HY HNM
          go_wp2_with fail
          refine Calls.mono HF.out ?_
          rintro e w2 ⟨rfl, hr2⟩
          have HDo : Hid (Calls Try.prog 29 #[.pointer (some ⟨g, 0, none⟩), .bool true, .string ⟨#[]⟩] w2 _) := rpiece_any hr2 true ⟨#[]⟩ (by omega)
          clear hr2
          go_wp2_with fail
          refine Calls.mono HDo.out ?_
          rintro e w3 ⟨rfl, vs3, hr3⟩
          have HR3 : Hid _ := hr3
          clear hr3
          go_wp2_with fail
          refine bodyPost_ret (results_none rfl _ _ _) rfl ?_
          exact ⟨rfl, _, _, _, _, HR3.out, .inr ⟨by rw [HY2.out], by rw [HY2.out]⟩⟩
        · -- none of them
          obtain ⟨hn, nn0, nn1, nn2, nn3, nn4, nn5, nn6⟩ := hc
          have e_quiet : (NM.toList == [45, 45, 113, 117, 105, 101, 116]) = false := by rw [HNM.out, beq_eq_false_iff_ne]; intro e; exact nn0 (List.cons.inj (List.cons.inj e).2).2
          have e_silent : (NM.toList == [45, 45, 115, 105, 108, 101, 110, 116]) = false := by rw [HNM.out, beq_eq_false_iff_ne]; intro e; exact nn1 (List.cons.inj (List.cons.inj e).2).2
          have e_regexp_extended : (NM.toList == [45, 45, 114, 101, 103, 101, 120, 112, 45, 101, 120, 116, 101, 110, 100, 101, 100]) = false := by rw [HNM.out, beq_eq_false_iff_ne]; intro e; exact nn2 (List.cons.inj (List.cons.inj e).2).2
          have e_separate : (NM.toList == [45, 45, 115, 101, 112, 97, 114, 97, 116, 101]) = false := by rw [HNM.out, beq_eq_false_iff_ne]; intro e; exact nn3 (List.cons.inj (List.cons.inj e).2).2
          have e_in_place : (NM.toList == [45, 45, 105, 110, 45, 112, 108, 97, 99, 101]) = false := by rw [HNM.out, beq_eq_false_iff_ne]; intro e; exact nn4 (List.cons.inj (List.cons.inj e).2).2
          have e_expression : (NM.toList == [45, 45, 101, 120, 112, 114, 101, 115, 115, 105, 111, 110]) = false := by rw [HNM.out, beq_eq_false_iff_ne]; intro e; exact nn5 (List.cons.inj (List.cons.inj e).2).2
          have e_file : (NM.toList == [45, 45, 102, 105, 108, 101]) = false := by rw [HNM.out, beq_eq_false_iff_ne]; intro e; exact nn6 (List.cons.inj (List.cons.inj e).2).2
          have HY2 : Hid (Y = (false, a, x)) := by show _ = _; rw [HY.out, hn]; rfl
          have HF : Hid (Calls Try.prog 45 #[.pointer (some ⟨g, 0, none⟩), .int .i64 (a : Int)] wr fun e w' => e = .returned (.tuple #[]) ∧ RfM w0 n0 g al cl L (a + 1) (a : Int) x vs vn w') := rfail_any HR.out a
          clear HY HNM hn nn0 nn1 nn2 nn3 nn4 nn5 nn6
          go_wp2_with fail
          refine Calls.mono HF.out ?_
          rintro e w2 ⟨rfl, hr2⟩
          have HR2 : Hid _ := hr2
          clear hr2 HF
          go_wp2_with fail
          go_end0
          exact ⟨rfl, _, _, _, _, HR2.out, .inr ⟨by rw [HY2.out], by rw [HY2.out]⟩⟩
      · obtain ⟨hks, hq61, hVd⟩ := T3.out rfl
        have hks2 : (k : Int) < (s.size : Int) := by omega
        have hwk : IntKind.i64.wrap ((k : Int) + 1) = (k : Int) + 1 := by rw [IntKind.wrap_i64]; omega
        have hs2 := fun wx => slice_at s k (by omega) hs wx
        have hVz : V.length ≤ 1048576 := by rw [← hVd, List.length_drop, Ar.szL]; omega
        rw [Ar.extract_from, hVd] at hs2
        have hVs : (Ar.bs V).size = V.length := Ar.bs_size V
        clear T3 T4 hVd
        rcases Ar.name_cases N with hc | hc | hc | hc | hc | hc | hc | hc
        · -- --quiet
          subst hc
          have e_quiet : (NM.toList == [45, 45, 113, 117, 105, 101, 116]) = true := by rw [HNM.out]; rfl
          have e_silent : (NM.toList == [45, 45, 115, 105, 108, 101, 110, 116]) = false := by rw [HNM.out]; rfl
          have e_regexp_extended : (NM.toList == [45, 45, 114, 101, 103, 101, 120, 112, 45, 101, 120, 116, 101, 110, 100, 101, 100]) = false := by rw [HNM.out]; rfl
          have e_separate : (NM.toList == [45, 45, 115, 101, 112, 97, 114, 97, 116, 101]) = false := by rw [HNM.out]; rfl
          have e_in_place : (NM.toList == [45, 45, 105, 110, 45, 112, 108, 97, 99, 101]) = false := by rw [HNM.out]; rfl
          have e_expression : (NM.toList == [45, 45, 101, 120, 112, 114, 101, 115, 115, 105, 111, 110]) = false := by rw [HNM.out]; rfl
          have e_file : (NM.toList == [45, 45, 102, 105, 108, 101]) = false := by rw [HNM.out]; rfl
          have c3 : wr.cell? ⟨g, 3, none⟩ = some (.bool x.q) := HR.out.cell 3
          have f3 := HR.out.free 3
          have HN : Hid (RfM w0 n0 g al cl L (a + 1) (-1) { x with q := true } vs vn (wr.setCell ⟨g, 3, none⟩ (.bool true))) := HR.out.set 3 (.bool true) rfl rfl rfl
          have HY2 : Hid (Y = (false, a, x)) := by show _ = _; rw [HY.out]; rfl
          have HF : Hid (Calls Try.prog 45 #[.pointer (some ⟨g, 0, none⟩), .int .i64 (a : Int)] (wr.setCell ⟨g, 3, none⟩ (.bool true)) fun e w' => e = .returned (.tuple #[]) ∧ RfM w0 n0 g al cl L (a + 1) (a : Int) { x with q := true } vs vn w') := rfail_any HN.out a
          clear HY HR HNM
          go_wp2_with fail
          refine Calls.mono HF.out ?_
          rintro e w2 ⟨rfl, hr2⟩
          have HR2 : Hid _ := hr2
          clear hr2
          go_wp2_with fail
          go_end0
          exact ⟨rfl, _, _, _, _, HR2.out, .inr ⟨by rw [HY2.out], by rw [HY2.out]⟩⟩
        · -- --silent
          subst hc
          have e_quiet : (NM.toList == [45, 45, 113, 117, 105, 101, 116]) = false := by rw [HNM.out]; rfl
          have e_silent : (NM.toList == [45, 45, 115, 105, 108, 101, 110, 116]) = true := by rw [HNM.out]; rfl
          have e_regexp_extended : (NM.toList == [45, 45, 114, 101, 103, 101, 120, 112, 45, 101, 120, 116, 101, 110, 100, 101, 100]) = false := by rw [HNM.out]; rfl
          have e_separate : (NM.toList == [45, 45, 115, 101, 112, 97, 114, 97, 116, 101]) = false := by rw [HNM.out]; rfl
          have e_in_place : (NM.toList == [45, 45, 105, 110, 45, 112, 108, 97, 99, 101]) = false := by rw [HNM.out]; rfl
          have e_expression : (NM.toList == [45, 45, 101, 120, 112, 114, 101, 115, 115, 105, 111, 110]) = false := by rw [HNM.out]; rfl
          have e_file : (NM.toList == [45, 45, 102, 105, 108, 101]) = false := by rw [HNM.out]; rfl
          have c3 : wr.cell? ⟨g, 3, none⟩ = some (.bool x.q) := HR.out.cell 3
          have f3 := HR.out.free 3
          have HN : Hid (RfM w0 n0 g al cl L (a + 1) (-1) { x with q := true } vs vn (wr.setCell ⟨g, 3, none⟩ (.bool true))) := HR.out.set 3 (.bool true) rfl rfl rfl
          have HY2 : Hid (Y = (false, a, x)) := by show _ = _; rw [HY.out]; rfl
          have HF : Hid (Calls Try.prog 45 #[.pointer (some ⟨g, 0, none⟩), .int .i64 (a : Int)] (wr.setCell ⟨g, 3, none⟩ (.bool true)) fun e w' => e = .returned (.tuple #[]) ∧ RfM w0 n0 g al cl L (a + 1) (a : Int) { x with q := true } vs vn w') := rfail_any HN.out a
          clear HY HR HNM
          go_wp2_with fail
          refine Calls.mono HF.out ?_
          rintro e w2 ⟨rfl, hr2⟩
          have HR2 : Hid _ := hr2
          clear hr2
          go_wp2_with fail
          go_end0
          exact ⟨rfl, _, _, _, _, HR2.out, .inr ⟨by rw [HY2.out], by rw [HY2.out]⟩⟩
        · -- --regexp-extended
          subst hc
          have e_quiet : (NM.toList == [45, 45, 113, 117, 105, 101, 116]) = false := by rw [HNM.out]; rfl
          have e_silent : (NM.toList == [45, 45, 115, 105, 108, 101, 110, 116]) = false := by rw [HNM.out]; rfl
          have e_regexp_extended : (NM.toList == [45, 45, 114, 101, 103, 101, 120, 112, 45, 101, 120, 116, 101, 110, 100, 101, 100]) = true := by rw [HNM.out]; rfl
          have e_separate : (NM.toList == [45, 45, 115, 101, 112, 97, 114, 97, 116, 101]) = false := by rw [HNM.out]; rfl
          have e_in_place : (NM.toList == [45, 45, 105, 110, 45, 112, 108, 97, 99, 101]) = false := by rw [HNM.out]; rfl
          have e_expression : (NM.toList == [45, 45, 101, 120, 112, 114, 101, 115, 115, 105, 111, 110]) = false := by rw [HNM.out]; rfl
          have e_file : (NM.toList == [45, 45, 102, 105, 108, 101]) = false := by rw [HNM.out]; rfl
          have c3 : wr.cell? ⟨g, 4, none⟩ = some (.bool x.e) := HR.out.cell 4
          have f3 := HR.out.free 4
          have HN : Hid (RfM w0 n0 g al cl L (a + 1) (-1) { x with e := true } vs vn (wr.setCell ⟨g, 4, none⟩ (.bool true))) := HR.out.set 4 (.bool true) rfl rfl rfl
          have HY2 : Hid (Y = (false, a, x)) := by show _ = _; rw [HY.out]; rfl
          have HF : Hid (Calls Try.prog 45 #[.pointer (some ⟨g, 0, none⟩), .int .i64 (a : Int)] (wr.setCell ⟨g, 4, none⟩ (.bool true)) fun e w' => e = .returned (.tuple #[]) ∧ RfM w0 n0 g al cl L (a + 1) (a : Int) { x with e := true } vs vn w') := rfail_any HN.out a
          clear HY HR HNM
          go_wp2_with fail
          refine Calls.mono HF.out ?_
          rintro e w2 ⟨rfl, hr2⟩
          have HR2 : Hid _ := hr2
          clear hr2
          go_wp2_with fail
          go_end0
          exact ⟨rfl, _, _, _, _, HR2.out, .inr ⟨by rw [HY2.out], by rw [HY2.out]⟩⟩
        · -- --separate
          subst hc
          have e_quiet : (NM.toList == [45, 45, 113, 117, 105, 101, 116]) = false := by rw [HNM.out]; rfl
          have e_silent : (NM.toList == [45, 45, 115, 105, 108, 101, 110, 116]) = false := by rw [HNM.out]; rfl
          have e_regexp_extended : (NM.toList == [45, 45, 114, 101, 103, 101, 120, 112, 45, 101, 120, 116, 101, 110, 100, 101, 100]) = false := by rw [HNM.out]; rfl
          have e_separate : (NM.toList == [45, 45, 115, 101, 112, 97, 114, 97, 116, 101]) = true := by rw [HNM.out]; rfl
          have e_in_place : (NM.toList == [45, 45, 105, 110, 45, 112, 108, 97, 99, 101]) = false := by rw [HNM.out]; rfl
          have e_expression : (NM.toList == [45, 45, 101, 120, 112, 114, 101, 115, 115, 105, 111, 110]) = false := by rw [HNM.out]; rfl
          have e_file : (NM.toList == [45, 45, 102, 105, 108, 101]) = false := by rw [HNM.out]; rfl
          have c3 : wr.cell? ⟨g, 5, none⟩ = some (.bool x.s) := HR.out.cell 5
          have f3 := HR.out.free 5
          have HN : Hid (RfM w0 n0 g al cl L (a + 1) (-1) { x with s := true } vs vn (wr.setCell ⟨g, 5, none⟩ (.bool true))) := HR.out.set 5 (.bool true) rfl rfl rfl
          have HY2 : Hid (Y = (false, a, x)) := by show _ = _; rw [HY.out]; rfl
          have HF : Hid (Calls Try.prog 45 #[.pointer (some ⟨g, 0, none⟩), .int .i64 (a : Int)] (wr.setCell ⟨g, 5, none⟩ (.bool true)) fun e w' => e = .returned (.tuple #[]) ∧ RfM w0 n0 g al cl L (a + 1) (a : Int) { x with s := true } vs vn w') := rfail_any HN.out a
          clear HY HR HNM
          go_wp2_with fail
          refine Calls.mono HF.out ?_
          rintro e w2 ⟨rfl, hr2⟩
          have HR2 : Hid _ := hr2
          clear hr2
          go_wp2_with fail
          go_end0
          exact ⟨rfl, _, _, _, _, HR2.out, .inr ⟨by rw [HY2.out], by rw [HY2.out]⟩⟩
        · -- --in-place
          subst hc
          have e_quiet : (NM.toList == [45, 45, 113, 117, 105, 101, 116]) = false := by rw [HNM.out]; rfl
          have e_silent : (NM.toList == [45, 45, 115, 105, 108, 101, 110, 116]) = false := by rw [HNM.out]; rfl
          have e_regexp_extended : (NM.toList == [45, 45, 114, 101, 103, 101, 120, 112, 45, 101, 120, 116, 101, 110, 100, 101, 100]) = false := by rw [HNM.out]; rfl
          have e_separate : (NM.toList == [45, 45, 115, 101, 112, 97, 114, 97, 116, 101]) = false := by rw [HNM.out]; rfl
          have e_in_place : (NM.toList == [45, 45, 105, 110, 45, 112, 108, 97, 99, 101]) = true := by rw [HNM.out]; rfl
          have e_expression : (NM.toList == [45, 45, 101, 120, 112, 114, 101, 115, 115, 105, 111, 110]) = false := by rw [HNM.out]; rfl
          have e_file : (NM.toList == [45, 45, 102, 105, 108, 101]) = false := by rw [HNM.out]; rfl
          have HY2 : Hid (Y = (Ar.sfxB (Ar.bs V), a, { x with i := true, s := true, sf := Ar.bs V })) := by show _ = _; rw [HY.out]; rfl
          have HDo : Hid (Calls Try.prog 44 #[.pointer (some ⟨g, 0, none⟩), .string (Ar.bs V), .int .i64 (a : Int)] wr _) := rinpl_any HR.out (Ar.bs V) (by unfold maxLen; omega) a
          clear HY HNM
          go_wp2_with fail
          refine Calls.mono HDo.out ?_
          rintro e w2 ⟨rfl, hr2⟩
          have HR2 : Hid _ := hr2
          clear hr2
          go_wp2_with fail
          refine bodyPost_ret (results_none rfl _ _ _) rfl ?_
          refine ⟨rfl, _, _, _, _, HR2.out, ?_⟩
          unfold Ar.badI Ar.bad2
          cases hsb : Ar.sfxB (Ar.bs V)
          · exact .inr ⟨by rw [HY2.out]; exact hsb, by rw [if_neg (by decide), if_pos (by decide), HY2.out]⟩
          · exact .inl ⟨by rw [HY2.out]; exact hsb, by rw [HY2.out], if_pos rfl, by rw [HY2.out]⟩
        · -- --expression
          subst hc
          have e_quiet : (NM.toList == [45, 45, 113, 117, 105, 101, 116]) = false := by rw [HNM.out]; rfl
          have e_silent : (NM.toList == [45, 45, 115, 105, 108, 101, 110, 116]) = false := by rw [HNM.out]; rfl
          have e_regexp_extended : (NM.toList == [45, 45, 114, 101, 103, 101, 120, 112, 45, 101, 120, 116, 101, 110, 100, 101, 100]) = false := by rw [HNM.out]; rfl
          have e_separate : (NM.toList == [45, 45, 115, 101, 112, 97, 114, 97, 116, 101]) = false := by rw [HNM.out]; rfl
          have e_in_place : (NM.toList == [45, 45, 105, 110, 45, 112, 108, 97, 99, 101]) = false := by rw [HNM.out]; rfl
          have e_expression : (NM.toList == [45, 45, 101, 120, 112, 114, 101, 115, 115, 105, 111, 110]) = true := by rw [HNM.out]; rfl
          have e_file : (NM.toList == [45, 45, 102, 105, 108, 101]) = false := by rw [HNM.out]; rfl
          have HY2 : Hid (Y = (true, a, { x with sc := x.sc ++ [(false, Ar.bs V)] })) := by show _ = _; rw [HY.out]; rfl
          have HDo : Hid (Calls Try.prog 29 #[.pointer (some ⟨g, 0, none⟩), .bool false, .string (Ar.bs V)] wr _) := rpiece_any HR.out false (Ar.bs V) (by omega)
          clear HY HNM
          go_wp2_with fail
          refine Calls.mono HDo.out ?_
          rintro e w2 ⟨rfl, vs2, hr2⟩
          have HR2 : Hid _ := hr2
          clear hr2
          go_wp2_with fail
          refine bodyPost_ret (results_none rfl _ _ _) rfl ?_
          exact ⟨rfl, _, _, _, _, HR2.out, .inl ⟨by rw [HY2.out], by rw [HY2.out], rfl, by rw [HY2.out]⟩⟩
        · -- --file
          subst hc
          have e_quiet : (NM.toList == [45, 45, 113, 117, 105, 101, 116]) = false := by rw [HNM.out]; rfl
          have e_silent : (NM.toList == [45, 45, 115, 105, 108, 101, 110, 116]) = false := by rw [HNM.out]; rfl
          have e_regexp_extended : (NM.toList == [45, 45, 114, 101, 103, 101, 120, 112, 45, 101, 120, 116, 101, 110, 100, 101, 100]) = false := by rw [HNM.out]; rfl
          have e_separate : (NM.toList == [45, 45, 115, 101, 112, 97, 114, 97, 116, 101]) = false := by rw [HNM.out]; rfl
          have e_in_place : (NM.toList == [45, 45, 105, 110, 45, 112, 108, 97, 99, 101]) = false := by rw [HNM.out]; rfl
          have e_expression : (NM.toList == [45, 45, 101, 120, 112, 114, 101, 115, 115, 105, 111, 110]) = false := by rw [HNM.out]; rfl
          have e_file : (NM.toList == [45, 45, 102, 105, 108, 101]) = true := by rw [HNM.out]; rfl
          have HY2 : Hid (Y = (true, a, { x with sc := x.sc ++ [(true, Ar.bs V)] })) := by show _ = _; rw [HY.out]; rfl
          have HDo : Hid (Calls Try.prog 29 #[.pointer (some ⟨g, 0, none⟩), .bool true, .string (Ar.bs V)] wr _) := rpiece_any HR.out true (Ar.bs V) (by omega)
          clear HY HNM
          go_wp2_with fail
          refine Calls.mono HDo.out ?_
          rintro e w2 ⟨rfl, vs2, hr2⟩
          have HR2 : Hid _ := hr2
          clear hr2
          go_wp2_with fail
          refine bodyPost_ret (results_none rfl _ _ _) rfl ?_
          exact ⟨rfl, _, _, _, _, HR2.out, .inl ⟨by rw [HY2.out], by rw [HY2.out], rfl, by rw [HY2.out]⟩⟩
        · -- none of them
          obtain ⟨hn, nn0, nn1, nn2, nn3, nn4, nn5, nn6⟩ := hc
          have e_quiet : (NM.toList == [45, 45, 113, 117, 105, 101, 116]) = false := by rw [HNM.out, beq_eq_false_iff_ne]; intro e; exact nn0 (List.cons.inj (List.cons.inj e).2).2
          have e_silent : (NM.toList == [45, 45, 115, 105, 108, 101, 110, 116]) = false := by rw [HNM.out, beq_eq_false_iff_ne]; intro e; exact nn1 (List.cons.inj (List.cons.inj e).2).2
          have e_regexp_extended : (NM.toList == [45, 45, 114, 101, 103, 101, 120, 112, 45, 101, 120, 116, 101, 110, 100, 101, 100]) = false := by rw [HNM.out, beq_eq_false_iff_ne]; intro e; exact nn2 (List.cons.inj (List.cons.inj e).2).2
          have e_separate : (NM.toList == [45, 45, 115, 101, 112, 97, 114, 97, 116, 101]) = false := by rw [HNM.out, beq_eq_false_iff_ne]; intro e; exact nn3 (List.cons.inj (List.cons.inj e).2).2
          have e_in_place : (NM.toList == [45, 45, 105, 110, 45, 112, 108, 97, 99, 101]) = false := by rw [HNM.out, beq_eq_false_iff_ne]; intro e; exact nn4 (List.cons.inj (List.cons.inj e).2).2
          have e_expression : (NM.toList == [45, 45, 101, 120, 112, 114, 101, 115, 115, 105, 111, 110]) = false := by rw [HNM.out, beq_eq_false_iff_ne]; intro e; exact nn5 (List.cons.inj (List.cons.inj e).2).2
          have e_file : (NM.toList == [45, 45, 102, 105, 108, 101]) = false := by rw [HNM.out, beq_eq_false_iff_ne]; intro e; exact nn6 (List.cons.inj (List.cons.inj e).2).2
          have HY2 : Hid (Y = (false, a, x)) := by show _ = _; rw [HY.out, hn]; rfl
          have HF : Hid (Calls Try.prog 45 #[.pointer (some ⟨g, 0, none⟩), .int .i64 (a : Int)] wr fun e w' => e = .returned (.tuple #[]) ∧ RfM w0 n0 g al cl L (a + 1) (a : Int) x vs vn w') := rfail_any HR.out a
          clear HY HNM hn nn0 nn1 nn2 nn3 nn4 nn5 nn6
          go_wp2_with fail
          refine Calls.mono HF.out ?_
          rintro e w2 ⟨rfl, hr2⟩
          have HR2 : Hid _ := hr2
          have HF2 : Hid (Calls Try.prog 45 #[.pointer (some ⟨g, 0, none⟩), .int .i64 (a : Int)] w2 fun e w' => e = .returned (.tuple #[]) ∧ RfM w0 n0 g al cl L (a + 1) (Ar.bad2 (a : Int) a) x vs vn w') := rfail_any HR2.out a
          have HBa : Hid (Ar.bad2 (a : Int) a = (a : Int)) := by show _ = _; unfold Ar.bad2; split <;> rfl
          clear hr2 HF HR2
          go_wp2_with fail
          refine Calls.mono HF2.out ?_
          rintro e w3 ⟨rfl, hr3⟩
          have HR3 : Hid _ := hr3
          clear hr3
          go_wp2_with fail
          go_end0
          exact ⟨rfl, _, _, _, _, HR3.out, .inr ⟨by rw [HY2.out], by rw [HY2.out, HBa.out]⟩⟩
end Go.Proofs.Ytfkdnojoammlcaa
