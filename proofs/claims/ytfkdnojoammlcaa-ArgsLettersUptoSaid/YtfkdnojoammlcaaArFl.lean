/- What the reference's (*reading).letters does. -/
import Derived.Test.YtfkdnojoammlcaaArF
import Derived.Test.YtfkdnojoammlcaaArLe
namespace Go.Proofs.Ytfkdnojoammlcaa
open Go.RowKit

namespace Ar
/-- Where a reading stands behind an argument, by what the argument says. -/
def Aft (Y : Bool × Nat × Av) (a2 : Nat) (b2 : Int) (x2 : Av) : Prop := (Y.1 = true ∧ a2 = Y.2.1 + 1 ∧ b2 = -1 ∧ x2 = Y.2.2) ∨ (Y.1 = false ∧ b2 = (Y.2.1 : Int))
theorem byte_no {c v : UInt8} (h : c ≠ v) : ((c.toNat : Int) == (v.toNat : Int)) = false := by
  rw [beq_eq_false_iff_ne]
  intro e
  exact h (UInt8.toNat_inj.1 (by omega))
theorem idxC_six {c : UInt8} (h : idxC c = 6) : c ≠ 110 ∧ c ≠ 69 ∧ c ≠ 114 ∧ c ≠ 115 ∧ c ≠ 105 ∧ c ≠ 101 ∧ c ≠ 102 := by
  refine ⟨?_, ?_, ?_, ?_, ?_, ?_, ?_⟩ <;> (rintro rfl; revert h; decide)
theorem idxC_cases (c : UInt8) : c = 110 ∨ c = 69 ∨ c = 114 ∨ c = 115 ∨ c = 101 ∨ c = 102 ∨ c = 105 ∨ idxC c = 6 := by
  by_cases h1 : c = 110
  · exact .inl h1
  by_cases h2 : c = 69
  · exact .inr (.inl h2)
  by_cases h3 : c = 114
  · exact .inr (.inr (.inl h3))
  by_cases h4 : c = 115
  · exact .inr (.inr (.inr (.inl h4)))
  by_cases h5 : c = 101
  · exact .inr (.inr (.inr (.inr (.inl h5))))
  by_cases h6 : c = 102
  · exact .inr (.inr (.inr (.inr (.inr (.inl h6)))))
  by_cases h7 : c = 105
  · exact .inr (.inr (.inr (.inr (.inr (.inr (.inl h7))))))
  · simp [idxC, h1, h2, h3, h4, h5, h6, h7]
theorem drop_ext {s : ByteArray} {k : Nat} {c : UInt8} {r : List UInt8} (h : s.data.toList.drop k = c :: r) : s.extract (k + 1) s.size = bs r ∧ s.data.toList.drop (k + 1) = r ∧ k < s.size := by
  have hk : k < s.data.toList.length := by
    rcases Nat.lt_or_ge k s.data.toList.length with h1 | h1
    · exact h1
    · rw [List.drop_eq_nil_of_le h1] at h; cases h
  rw [List.drop_eq_getElem_cons hk] at h
  have h2 := (List.cons.inj h).2
  refine ⟨ba_ext ?_, h2, by rw [szL] at hk; exact hk⟩
  rw [data_bs, ← h2]
  simp [ByteArray.data_extract, Array.toList_extract, List.extract]
  rw [List.take_of_length_le (by simp)]
end Ar
theorem slice_at (S : ByteArray) (k : Nat) (h : k + 1 ≤ S.size) (_hz : S.size ≤ 1048576) (wx : World) : (Instr.slice 9 (.string S) (some (.int .i64 ((k : Int) + 1))) none none).run Try.prog wx = .ok (.string (S.extract (k + 1) S.size)) wx := by
  have h1 : (k : Int) + 1 ≤ (S.size : Int) := by omega
  have h2 : ((k : Int) + 1).toNat = k + 1 := by omega
  simp [Instr.slice, Instr.sliceBounds, Instr.sliceBound, asIntOf, run_underlying Try.underlying9, go_sem, h1, h2]
  try omega
def RlP (w0 : World) (n0 g : Nat) (al : Option Addr) (cl : Nat) (L : List ByteArray) (vn : Value) (Y : Bool × Nat × Ar.Av) : Ending → World → Prop := fun e w' => e = .returned (.tuple #[]) ∧ ∃ a2 b2 x2 vs2, RfM w0 n0 g al cl L a2 b2 x2 vs2 vn w' ∧ Ar.Aft Y a2 b2 x2

/-- Letters so far. -/
structure RlI (w0 : World) (n0 g : Nat) (al : Option Addr) (cl : Nat) (L : List ByteArray) (a : Nat) (x : Ar.Av) (vs vn : Value) (Y : Bool × Nat × Ar.Av) (l : List UInt8) (b1 : Int) (x1 : Ar.Av) (W : World) : Prop where
  m : RfM w0 n0 g al cl L (a + 1) b1 x1 vs vn W
  sc : x1.sc = x.sc
  y : (b1 = -1 ∧ Y = Ar.lettersF L l a x1) ∨ (b1 = (a : Int) ∧ Y.1 = false ∧ Y.2.1 = a)

set_option maxRecDepth 100000 in
set_option maxHeartbeats 4000000 in
theorem rletters_any {w0 W : World} {n0 g : Nat} {al : Option Addr} {cl : Nat} {L : List ByteArray} {a : Nat} {x : Ar.Av} {vs vn : Value} (h : RfM w0 n0 g al cl L a (-1) x vs vn W) (s : ByteArray) (hs : s.size ≤ 1048576) (h1 : 1 ≤ s.size) (hat : a < L.length) (hsc : x.sc.length ≤ 131072) :
    Calls Try.prog 28 #[.pointer (some ⟨g, 0, none⟩), .string s] W (RlP w0 n0 g al cl L vn (Ar.lettersF L (s.data.toList.drop 1) a x)) := by
  obtain ⟨Y, hY⟩ : ∃ Y, Y = Ar.lettersF L (s.data.toList.drop 1) a x := ⟨_, rfl⟩
  have HY : Hid _ := hY
  rw [← hY]
  clear hY
  have hLl := h.len
  have g1 : W.cell? ⟨g, 1, none⟩ = some (.int .i64 (a : Int)) := h.cell 1
  have f1 := h.free 1
  have hw : IntKind.i64.wrap ((a : Int) + 1) = (a : Int) + 1 := by rw [IntKind.wrap_i64]; omega
  have HH : Hid (RfM w0 n0 g al cl L (a + 1) (-1) x vs vn (W.setCell ⟨g, 1, none⟩ (.int .i64 ((a : Int) + 1)))) := h.set 1 _ (at2 := a + 1) rfl rfl rfl
  clear h
  go_enter Try.func28, Try.ntmps28
  go_wp2_with fail
  go_loopw [5] (fun iv wr => ∃ (k : Nat) (b1 : Int) (x1 : Ar.Av), iv = .int .i64 (k : Int) ∧ k ≤ s.size ∧ Hid (RlI w0 n0 g al cl L a x vs vn Y (s.data.toList.drop k) b1 x1 wr)) (fun iv _ => s.size - (intOf iv).toNat)
  case atStart => exact ⟨1, -1, x, rfl, h1, ⟨HH.out, rfl, .inl ⟨rfl, HY.out⟩⟩⟩
  case round =>
    clear HY HH g1 f1
    obtain ⟨k, b1, x1, rfl, hk, HI⟩ := hrel
    have g2 : wr.cell? ⟨g, 2, none⟩ = some (.int .i64 b1) := HI.out.m.cell 2
    rcases HI.out.y with ⟨rfl, hy⟩ | ⟨rfl, hy1, hy2⟩
    · have HE : Hid _ := hy
      clear hy
      cases hd : s.data.toList.drop k with
      | nil =>
        have hks : ¬ k < s.size := by
          intro hlt
          have := congrArg List.length hd
          rw [List.length_drop, Ar.szL] at this
          simp at this
          omega
        have hks2 : ¬ (k : Int) < (s.size : Int) := by omega
        have HY2 : Hid (Y = (true, a, x1)) := by have := HE.out; rw [hd] at this; exact this
        clear hd HE
        go_wp2_with fail
        go_end0
        exact ⟨rfl, _, _, _, _, HI.out.m, .inl ⟨by rw [HY2.out], by rw [HY2.out], rfl, by rw [HY2.out]⟩⟩
      | cons c r =>
        obtain ⟨e1, e2, hks⟩ := Ar.drop_ext hd
        have hsl := fun wx => slice_at s k (by omega) hs wx
        rw [e1] at hsl
        have hrz : (Ar.bs r).size = r.length := Ar.bs_size r
        have hrk : r.length = s.size - k - 1 := by rw [← e2, List.length_drop, Ar.szL]; omega
        have hck : s[k] = c := by
          have := List.drop_eq_getElem_cons (by rw [Ar.szL]; exact hks : k < s.data.toList.length)
          rw [this] at hd
          exact (List.cons.inj hd).1
        have hks2 : (k : Int) < (s.size : Int) := by omega
        have HL : Hid (Y = Ar.lettersF L (c :: r) a x1) := by rw [← hd]; exact HE.out
        have E2 : Hid (s.data.toList.drop (k + 1) = r) := e2
        have hsc1 : x1.sc.length ≤ 131072 := by rw [HI.out.sc]; exact hsc
        have hwk : IntKind.i64.wrap ((k : Int) + 1) = (k : Int) + 1 := by rw [IntKind.wrap_i64]; omega
        have HR : Hid _ := HI.out.m
        have HS : Hid _ := HI.out.sc
        clear hd HE e1 e2 HI
        rcases Ar.idxC_cases c with hc | hc | hc | hc | hc | hc | hc | hc
        · -- 110
          have e110 : ((s[k].toNat : Int) == 110) = true := by rw [hck, hc]; rfl
          have e69 : ((s[k].toNat : Int) == 69) = false := by rw [hck, hc]; rfl
          have e114 : ((s[k].toNat : Int) == 114) = false := by rw [hck, hc]; rfl
          have e115 : ((s[k].toNat : Int) == 115) = false := by rw [hck, hc]; rfl
          have e105 : ((s[k].toNat : Int) == 105) = false := by rw [hck, hc]; rfl
          have e101 : ((s[k].toNat : Int) == 101) = false := by rw [hck, hc]; rfl
          have e102 : ((s[k].toNat : Int) == 102) = false := by rw [hck, hc]; rfl
          have c3 : wr.cell? ⟨g, 3, none⟩ = some (.bool x1.q) := HR.out.cell 3
          have f3 := HR.out.free 3
          have HN : Hid (RlI w0 n0 g al cl L a x vs vn Y (s.data.toList.drop (k + 1)) (-1) { x1 with q := true } (wr.setCell ⟨g, 3, none⟩ (.bool true))) := ⟨HR.out.set 3 (.bool true) rfl rfl rfl, HS.out, .inl ⟨rfl, by rw [HL.out, hc, E2.out, Ar.lettersF_bare (by decide)]; rfl⟩⟩
          clear HL HR HS hck hc
          go_wp2_with fail
          go_roundw
          case rel => exact ⟨k + 1, -1, _, by simp, by omega, HN⟩
          case measure => simp only [intOf]; omega
        · -- 69
          have e110 : ((s[k].toNat : Int) == 110) = false := by rw [hck, hc]; rfl
          have e69 : ((s[k].toNat : Int) == 69) = true := by rw [hck, hc]; rfl
          have e114 : ((s[k].toNat : Int) == 114) = false := by rw [hck, hc]; rfl
          have e115 : ((s[k].toNat : Int) == 115) = false := by rw [hck, hc]; rfl
          have e105 : ((s[k].toNat : Int) == 105) = false := by rw [hck, hc]; rfl
          have e101 : ((s[k].toNat : Int) == 101) = false := by rw [hck, hc]; rfl
          have e102 : ((s[k].toNat : Int) == 102) = false := by rw [hck, hc]; rfl
          have c3 : wr.cell? ⟨g, 4, none⟩ = some (.bool x1.e) := HR.out.cell 4
          have f3 := HR.out.free 4
          have HN : Hid (RlI w0 n0 g al cl L a x vs vn Y (s.data.toList.drop (k + 1)) (-1) { x1 with e := true } (wr.setCell ⟨g, 4, none⟩ (.bool true))) := ⟨HR.out.set 4 (.bool true) rfl rfl rfl, HS.out, .inl ⟨rfl, by rw [HL.out, hc, E2.out, Ar.lettersF_bare (by decide)]; rfl⟩⟩
          clear HL HR HS hck hc
          go_wp2_with fail
          go_roundw
          case rel => exact ⟨k + 1, -1, _, by simp, by omega, HN⟩
          case measure => simp only [intOf]; omega
        · -- 114
          have e110 : ((s[k].toNat : Int) == 110) = false := by rw [hck, hc]; rfl
          have e69 : ((s[k].toNat : Int) == 69) = false := by rw [hck, hc]; rfl
          have e114 : ((s[k].toNat : Int) == 114) = true := by rw [hck, hc]; rfl
          have e115 : ((s[k].toNat : Int) == 115) = false := by rw [hck, hc]; rfl
          have e105 : ((s[k].toNat : Int) == 105) = false := by rw [hck, hc]; rfl
          have e101 : ((s[k].toNat : Int) == 101) = false := by rw [hck, hc]; rfl
          have e102 : ((s[k].toNat : Int) == 102) = false := by rw [hck, hc]; rfl
          have c3 : wr.cell? ⟨g, 4, none⟩ = some (.bool x1.e) := HR.out.cell 4
          have f3 := HR.out.free 4
          have HN : Hid (RlI w0 n0 g al cl L a x vs vn Y (s.data.toList.drop (k + 1)) (-1) { x1 with e := true } (wr.setCell ⟨g, 4, none⟩ (.bool true))) := ⟨HR.out.set 4 (.bool true) rfl rfl rfl, HS.out, .inl ⟨rfl, by rw [HL.out, hc, E2.out, Ar.lettersF_bare (by decide)]; rfl⟩⟩
          clear HL HR HS hck hc
          go_wp2_with fail
          go_roundw
          case rel => exact ⟨k + 1, -1, _, by simp, by omega, HN⟩
          case measure => simp only [intOf]; omega
        · -- 115
          have e110 : ((s[k].toNat : Int) == 110) = false := by rw [hck, hc]; rfl
          have e69 : ((s[k].toNat : Int) == 69) = false := by rw [hck, hc]; rfl
          have e114 : ((s[k].toNat : Int) == 114) = false := by rw [hck, hc]; rfl
          have e115 : ((s[k].toNat : Int) == 115) = true := by rw [hck, hc]; rfl
          have e105 : ((s[k].toNat : Int) == 105) = false := by rw [hck, hc]; rfl
          have e101 : ((s[k].toNat : Int) == 101) = false := by rw [hck, hc]; rfl
          have e102 : ((s[k].toNat : Int) == 102) = false := by rw [hck, hc]; rfl
          have c3 : wr.cell? ⟨g, 5, none⟩ = some (.bool x1.s) := HR.out.cell 5
          have f3 := HR.out.free 5
          have HN : Hid (RlI w0 n0 g al cl L a x vs vn Y (s.data.toList.drop (k + 1)) (-1) { x1 with s := true } (wr.setCell ⟨g, 5, none⟩ (.bool true))) := ⟨HR.out.set 5 (.bool true) rfl rfl rfl, HS.out, .inl ⟨rfl, by rw [HL.out, hc, E2.out, Ar.lettersF_bare (by decide)]; rfl⟩⟩
          clear HL HR HS hck hc
          go_wp2_with fail
          go_roundw
          case rel => exact ⟨k + 1, -1, _, by simp, by omega, HN⟩
          case measure => simp only [intOf]; omega
        · -- 101
          have e110 : ((s[k].toNat : Int) == 110) = false := by rw [hck, hc]; rfl
          have e69 : ((s[k].toNat : Int) == 69) = false := by rw [hck, hc]; rfl
          have e114 : ((s[k].toNat : Int) == 114) = false := by rw [hck, hc]; rfl
          have e115 : ((s[k].toNat : Int) == 115) = false := by rw [hck, hc]; rfl
          have e105 : ((s[k].toNat : Int) == 105) = false := by rw [hck, hc]; rfl
          have e101 : ((s[k].toNat : Int) == 101) = true := by rw [hck, hc]; rfl
          have e102 : ((s[k].toNat : Int) == 102) = false := by rw [hck, hc]; rfl
          by_cases hr : r = []
          · have hem : (Ar.bs r).toList.isEmpty = true := by rw [hr, Lib.toList_data]; rfl
            have g0 : wr.cell? ⟨g, 0, none⟩ = some (.slice al L.length cl) := HR.out.cell 0
            have g1 : wr.cell? ⟨g, 1, none⟩ = some (.int .i64 ((a + 1 : Nat) : Int)) := HR.out.cell 1
            have g1' : wr.cell? ⟨g, 1, none⟩ = some (.int .i64 ((a : Int) + 1)) := g1
            clear g1
            have f1 := HR.out.free 1
            by_cases ha : a + 1 < L.length
            · have HY2 : Hid (Y = (true, a + 1, { x1 with sc := x1.sc ++ [(false, L[a + 1]'ha)] })) := by
                show _ = _
                rw [HL.out, hc, hr, Ar.lettersF_next (by decide) (by decide) ha, List.getD_eq_getElem?_getD, List.getElem?_eq_getElem ha]; rfl
              have HRs : Hid (RfM w0 n0 g al cl L (a + 2) (-1) x1 vs vn (wr.setCell ⟨g, 1, none⟩ (.int .i64 ((a : Int) + 1 + 1)))) := HR.out.set 1 _ (at2 := a + 2) (x2 := x1) (by simp [rfA]; omega) rfl rfl
              obtain ⟨bb, off, rfl, hbb, d0⟩ := HR.out.ar.cells (a + 1) ha
              generalize L[a + 1]'ha = v at *
              have HDo : Hid (∀ V : World, RfM w0 n0 g (some ⟨bb, off, none⟩) cl L (a + 2) (-1) x1 vs vn V → Calls Try.prog 29 #[.pointer (some ⟨g, 0, none⟩), .bool false, .string v] V fun e w' => e = .returned (.tuple #[]) ∧ ∃ vs', RfM w0 n0 g (some ⟨bb, off, none⟩) cl L (a + 2) (-1) { x1 with sc := x1.sc ++ [(false, v)] } vs' vn w') := fun V hV => rpiece_any hV false v (by omega)
              have ha3 : ¬ ((L.length : Int) ≤ (a : Int) + 1) := by omega
              have ha4 : (a : Int) + 1 < (L.length : Int) := by omega
              have hw2 : IntKind.i64.wrap ((a : Int) + 1 + 1) = (a : Int) + 1 + 1 := by rw [IntKind.wrap_i64]; omega
              clear HL hr hck hc HS
              go_wp2_with fail
              go_quiet (fail)
              go_wp2_with fail
              go_quiet (fail)
              go_wp2_with fail
              refine Calls.mono (HDo.out _ (by first | exact HRs.out | exact (HRs.out.still (drewN_below _ _)))) ?_
              rintro e w2 ⟨rfl, vs2, hr2⟩
              have HR2 : Hid _ := hr2
              clear hr2
              go_wp2_with fail
              refine bodyPost_ret (results_none rfl _ _ _) rfl ?_
              exact ⟨rfl, _, _, _, _, HR2.out, .inl ⟨by rw [HY2.out], by rw [HY2.out], rfl, by rw [HY2.out]⟩⟩
            · have hLa : L.length = a + 1 := by omega
              have HY2 : Hid (Y = (false, a + 1, x1)) := by show _ = _; rw [HL.out, hc, hr, Ar.lettersF_none (by decide) (by decide) ha]
              have HF : Hid (∀ V : World, RfM w0 n0 g al cl L (a + 1) (-1) x1 vs vn V → Calls Try.prog 45 #[.pointer (some ⟨g, 0, none⟩), .int .i64 (L.length : Int)] V fun e w' => e = .returned (.tuple #[]) ∧ RfM w0 n0 g al cl L (a + 1) (L.length : Int) x1 vs vn w') := fun V hV => rfail_any hV L.length
              have HLa : Hid (L.length = a + 1) := hLa
              have ha3 : (L.length : Int) ≤ (a : Int) + 1 := by omega
              clear HL hr hck hc HS hLa
              go_wp2_with fail
              go_quiet (fail)
              go_wp2_with fail
              refine Calls.mono (HF.out _ (by first | exact HR.out | exact (HR.out.still (drewN_below _ _)))) ?_
              rintro e w2 ⟨rfl, hr2⟩
              have HR2 : Hid _ := hr2
              clear hr2
              go_wp2_with fail
              refine bodyPost_ret (results_none rfl _ _ _) rfl ?_
              exact ⟨rfl, _, _, _, _, HR2.out, .inr ⟨by rw [HY2.out], by rw [HY2.out, HLa.out]⟩⟩
          · have hem : (Ar.bs r).toList.isEmpty = false := by rw [Lib.toList_data]; show List.isEmpty r = false; simpa using hr
            have HY2 : Hid (Y = (true, a, { x1 with sc := x1.sc ++ [(false, Ar.bs r)] })) := by show _ = _; rw [HL.out, hc, Ar.lettersF_here (by decide) (by decide) (Or.inl hr)]; rfl
            have HDo : Hid (∀ V : World, RfM w0 n0 g al cl L (a + 1) (-1) x1 vs vn V → Calls Try.prog 29 #[.pointer (some ⟨g, 0, none⟩), .bool false, .string (Ar.bs r)] V fun e w' => e = .returned (.tuple #[]) ∧ ∃ vs', RfM w0 n0 g al cl L (a + 1) (-1) { x1 with sc := x1.sc ++ [(false, Ar.bs r)] } vs' vn w') := fun V hV => rpiece_any hV false (Ar.bs r) (by omega)
            clear HL hr hck hc HS
            go_wp2_with fail
            refine Calls.mono (HDo.out _ HR.out) ?_
            rintro e w2 ⟨rfl, vs2, hr2⟩
            have HR2 : Hid _ := hr2
            clear hr2
            go_wp2_with fail
            refine bodyPost_ret (results_none rfl _ _ _) rfl ?_
            exact ⟨rfl, _, _, _, _, HR2.out, .inl ⟨by rw [HY2.out], by rw [HY2.out], rfl, by rw [HY2.out]⟩⟩
        · -- 102
          have e110 : ((s[k].toNat : Int) == 110) = false := by rw [hck, hc]; rfl
          have e69 : ((s[k].toNat : Int) == 69) = false := by rw [hck, hc]; rfl
          have e114 : ((s[k].toNat : Int) == 114) = false := by rw [hck, hc]; rfl
          have e115 : ((s[k].toNat : Int) == 115) = false := by rw [hck, hc]; rfl
          have e105 : ((s[k].toNat : Int) == 105) = false := by rw [hck, hc]; rfl
          have e101 : ((s[k].toNat : Int) == 101) = false := by rw [hck, hc]; rfl
          have e102 : ((s[k].toNat : Int) == 102) = true := by rw [hck, hc]; rfl
          by_cases hr : r = []
          · have hem : (Ar.bs r).toList.isEmpty = true := by rw [hr, Lib.toList_data]; rfl
            have g0 : wr.cell? ⟨g, 0, none⟩ = some (.slice al L.length cl) := HR.out.cell 0
            have g1 : wr.cell? ⟨g, 1, none⟩ = some (.int .i64 ((a + 1 : Nat) : Int)) := HR.out.cell 1
            have g1' : wr.cell? ⟨g, 1, none⟩ = some (.int .i64 ((a : Int) + 1)) := g1
            clear g1
            have f1 := HR.out.free 1
            by_cases ha : a + 1 < L.length
            · have HY2 : Hid (Y = (true, a + 1, { x1 with sc := x1.sc ++ [(true, L[a + 1]'ha)] })) := by
                show _ = _
                rw [HL.out, hc, hr, Ar.lettersF_next (by decide) (by decide) ha, List.getD_eq_getElem?_getD, List.getElem?_eq_getElem ha]; rfl
              have HRs : Hid (RfM w0 n0 g al cl L (a + 2) (-1) x1 vs vn (wr.setCell ⟨g, 1, none⟩ (.int .i64 ((a : Int) + 1 + 1)))) := HR.out.set 1 _ (at2 := a + 2) (x2 := x1) (by simp [rfA]; omega) rfl rfl
              obtain ⟨bb, off, rfl, hbb, d0⟩ := HR.out.ar.cells (a + 1) ha
              generalize L[a + 1]'ha = v at *
              have HDo : Hid (∀ V : World, RfM w0 n0 g (some ⟨bb, off, none⟩) cl L (a + 2) (-1) x1 vs vn V → Calls Try.prog 29 #[.pointer (some ⟨g, 0, none⟩), .bool true, .string v] V fun e w' => e = .returned (.tuple #[]) ∧ ∃ vs', RfM w0 n0 g (some ⟨bb, off, none⟩) cl L (a + 2) (-1) { x1 with sc := x1.sc ++ [(true, v)] } vs' vn w') := fun V hV => rpiece_any hV true v (by omega)
              have ha3 : ¬ ((L.length : Int) ≤ (a : Int) + 1) := by omega
              have ha4 : (a : Int) + 1 < (L.length : Int) := by omega
              have hw2 : IntKind.i64.wrap ((a : Int) + 1 + 1) = (a : Int) + 1 + 1 := by rw [IntKind.wrap_i64]; omega
              clear HL hr hck hc HS
              go_wp2_with fail
              go_quiet (fail)
              go_wp2_with fail
              go_quiet (fail)
              go_wp2_with fail
              refine Calls.mono (HDo.out _ (by first | exact HRs.out | exact (HRs.out.still (drewN_below _ _)))) ?_
              rintro e w2 ⟨rfl, vs2, hr2⟩
              have HR2 : Hid _ := hr2
              clear hr2
              go_wp2_with fail
              refine bodyPost_ret (results_none rfl _ _ _) rfl ?_
              exact ⟨rfl, _, _, _, _, HR2.out, .inl ⟨by rw [HY2.out], by rw [HY2.out], rfl, by rw [HY2.out]⟩⟩
            · have hLa : L.length = a + 1 := by omega
              have HY2 : Hid (Y = (false, a + 1, x1)) := by show _ = _; rw [HL.out, hc, hr, Ar.lettersF_none (by decide) (by decide) ha]
              have HF : Hid (∀ V : World, RfM w0 n0 g al cl L (a + 1) (-1) x1 vs vn V → Calls Try.prog 45 #[.pointer (some ⟨g, 0, none⟩), .int .i64 (L.length : Int)] V fun e w' => e = .returned (.tuple #[]) ∧ RfM w0 n0 g al cl L (a + 1) (L.length : Int) x1 vs vn w') := fun V hV => rfail_any hV L.length
              have HLa : Hid (L.length = a + 1) := hLa
              have ha3 : (L.length : Int) ≤ (a : Int) + 1 := by omega
              clear HL hr hck hc HS hLa
              go_wp2_with fail
              go_quiet (fail)
              go_wp2_with fail
              refine Calls.mono (HF.out _ (by first | exact HR.out | exact (HR.out.still (drewN_below _ _)))) ?_
              rintro e w2 ⟨rfl, hr2⟩
              have HR2 : Hid _ := hr2
              clear hr2
              go_wp2_with fail
              refine bodyPost_ret (results_none rfl _ _ _) rfl ?_
              exact ⟨rfl, _, _, _, _, HR2.out, .inr ⟨by rw [HY2.out], by rw [HY2.out, HLa.out]⟩⟩
          · have hem : (Ar.bs r).toList.isEmpty = false := by rw [Lib.toList_data]; show List.isEmpty r = false; simpa using hr
            have HY2 : Hid (Y = (true, a, { x1 with sc := x1.sc ++ [(true, Ar.bs r)] })) := by show _ = _; rw [HL.out, hc, Ar.lettersF_here (by decide) (by decide) (Or.inl hr)]; rfl
            have HDo : Hid (∀ V : World, RfM w0 n0 g al cl L (a + 1) (-1) x1 vs vn V → Calls Try.prog 29 #[.pointer (some ⟨g, 0, none⟩), .bool true, .string (Ar.bs r)] V fun e w' => e = .returned (.tuple #[]) ∧ ∃ vs', RfM w0 n0 g al cl L (a + 1) (-1) { x1 with sc := x1.sc ++ [(true, Ar.bs r)] } vs' vn w') := fun V hV => rpiece_any hV true (Ar.bs r) (by omega)
            clear HL hr hck hc HS
            go_wp2_with fail
            refine Calls.mono (HDo.out _ HR.out) ?_
            rintro e w2 ⟨rfl, vs2, hr2⟩
            have HR2 : Hid _ := hr2
            clear hr2
            go_wp2_with fail
            refine bodyPost_ret (results_none rfl _ _ _) rfl ?_
            exact ⟨rfl, _, _, _, _, HR2.out, .inl ⟨by rw [HY2.out], by rw [HY2.out], rfl, by rw [HY2.out]⟩⟩
        · -- 105
          have e110 : ((s[k].toNat : Int) == 110) = false := by rw [hck, hc]; rfl
          have e69 : ((s[k].toNat : Int) == 69) = false := by rw [hck, hc]; rfl
          have e114 : ((s[k].toNat : Int) == 114) = false := by rw [hck, hc]; rfl
          have e115 : ((s[k].toNat : Int) == 115) = false := by rw [hck, hc]; rfl
          have e105 : ((s[k].toNat : Int) == 105) = true := by rw [hck, hc]; rfl
          have e101 : ((s[k].toNat : Int) == 101) = false := by rw [hck, hc]; rfl
          have e102 : ((s[k].toNat : Int) == 102) = false := by rw [hck, hc]; rfl
          have HYd : Hid (Y = (Ar.sfxB (Ar.bs r), a, { x1 with i := true, s := true, sf := Ar.bs r })) := by show _ = _; rw [HL.out, hc, Ar.lettersF_here (by decide) (by decide) (Or.inr rfl)]; rfl
          have HDo : Hid (Calls Try.prog 44 #[.pointer (some ⟨g, 0, none⟩), .string (Ar.bs r), .int .i64 (a : Int)] wr _) := rinpl_any HR.out (Ar.bs r) (by unfold maxLen; omega) a
          clear HL hck hc HS
          go_wp2_with fail
          refine Calls.mono HDo.out ?_
          rintro e w2 ⟨rfl, hr2⟩
          have HR2 : Hid _ := hr2
          clear hr2
          go_wp2_with fail
          refine bodyPost_ret (results_none rfl _ _ _) rfl ?_
          refine ⟨rfl, _, _, _, _, HR2.out, ?_⟩
          unfold Ar.badI Ar.bad2
          cases hsb : Ar.sfxB (Ar.bs r)
          · exact .inr ⟨by rw [HYd.out]; exact hsb, by rw [if_neg (by decide), if_pos (by decide), HYd.out]⟩
          · exact .inl ⟨by rw [HYd.out]; exact hsb, by rw [HYd.out], if_pos rfl, by rw [HYd.out]⟩
        · obtain ⟨n1, n2, n3, n4, n5, n6, n7⟩ := Ar.idxC_six hc
          have e110 : ((s[k].toNat : Int) == 110) = false := by rw [hck]; exact Ar.byte_no n1
          have e69 : ((s[k].toNat : Int) == 69) = false := by rw [hck]; exact Ar.byte_no n2
          have e114 : ((s[k].toNat : Int) == 114) = false := by rw [hck]; exact Ar.byte_no n3
          have e115 : ((s[k].toNat : Int) == 115) = false := by rw [hck]; exact Ar.byte_no n4
          have e105 : ((s[k].toNat : Int) == 105) = false := by rw [hck]; exact Ar.byte_no n5
          have e101 : ((s[k].toNat : Int) == 101) = false := by rw [hck]; exact Ar.byte_no n6
          have e102 : ((s[k].toNat : Int) == 102) = false := by rw [hck]; exact Ar.byte_no n7
          have HY2 : Hid (Y = (false, a, x1)) := by show _ = _; rw [HL.out, Ar.lettersF_sz hc]
          have HF : Hid (Calls Try.prog 45 #[.pointer (some ⟨g, 0, none⟩), .int .i64 (a : Int)] wr fun e w' => e = .returned (.tuple #[]) ∧ RfM w0 n0 g al cl L (a + 1) (a : Int) x1 vs vn w') := rfail_any HR.out a
          clear HL hck hc
          go_wp2_with fail
          refine Calls.mono HF.out ?_
          rintro e w2 ⟨rfl, hr2⟩
          have HN : Hid (RlI w0 n0 g al cl L a x vs vn Y (s.data.toList.drop (k + 1)) (a : Int) x1 w2) := ⟨hr2, HS.out, .inr ⟨rfl, by rw [HY2.out], by rw [HY2.out]⟩⟩
          clear hr2
          go_wp2_with fail
          go_roundw
          case rel => exact ⟨k + 1, _, _, by simp, by omega, HN⟩
          case measure => simp only [intOf]; omega
    · have HY2 : Hid _ := hy2
      have HY1 : Hid _ := hy1
      have hneg : ¬ ((a : Int) < 0) := by omega
      clear hy1 hy2
      by_cases hks : (k : Int) < (s.size : Int)
      · go_wp2_with fail
        go_end0
        exact ⟨rfl, _, _, _, _, HI.out.m, .inr ⟨HY1.out, by rw [HY2.out]⟩⟩
      · go_wp2_with fail
        go_end0
        exact ⟨rfl, _, _, _, _, HI.out.m, .inr ⟨HY1.out, by rw [HY2.out]⟩⟩
end Go.Proofs.Ytfkdnojoammlcaa
