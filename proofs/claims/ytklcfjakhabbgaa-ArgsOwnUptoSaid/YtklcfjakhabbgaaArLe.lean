/- What (*reading).letters does: options by letters, one behind the other. -/
import Derived.Test.YtklcfjakhabbgaaArIl
import Derived.Deep.DeepCutAuto
namespace Go.Proofs.Ytklcfjakhabbgaa
open Go.RowKit

theorem slice_one (S : ByteArray) (h : 1 ≤ S.size) (wx : World) : (Instr.slice 9 (.string S) none (some (.int .i64 1)) none).run Try.prog wx = .ok (.string (S.extract 0 1)) wx := by
  have h1 : (1 : Int) ≤ (S.size : Int) := by omega
  simp [Instr.slice, Instr.sliceBounds, Instr.sliceBound, asIntOf, run_underlying Try.underlying9, go_sem, h1]
theorem slice_rest (S : ByteArray) (h : 1 ≤ S.size) (wx : World) : (Instr.slice 9 (.string S) (some (.int .i64 1)) none none).run Try.prog wx = .ok (.string (S.extract 1 S.size)) wx := by
  have h1 : (1 : Int) ≤ (S.size : Int) := by omega
  simp [Instr.slice, Instr.sliceBounds, Instr.sliceBound, asIntOf, run_underlying Try.underlying9, go_sem, h1]
/-- No more has been read. -/
def SmA (a1 a : Nat) (x1 x : Ar.Av) : Prop := a1 = a ∧ x1.sc.length = x.sc.length
/-- A text's size, of a value. -/
def szV : Value → Nat
  | .string s => s.size
  | _ => 0
namespace Ar
theorem ext_one {S : ByteArray} {c : UInt8} {r : List UInt8} (h : S.data.toList = c :: r) : S.extract 0 1 = ⟨#[c]⟩ := by
  apply ba_ext
  rw [ByteArray.data_extract, Array.toList_extract, List.extract, h]
  simp
theorem ext_rest {S : ByteArray} {c : UInt8} {r : List UInt8} (h : S.data.toList = c :: r) : S.extract 1 S.size = bs r := by
  apply ba_ext
  have hl : S.size = r.length + 1 := by rw [← szL, h]; rfl
  rw [ByteArray.data_extract, Array.toList_extract, List.extract, h, hl]
  simp [bs]
theorem lettersF_sz {L : List ByteArray} {c : UInt8} {r : List UInt8} {a : Nat} {x : Av} (h : idxC c = 6) : lettersF L (c :: r) a x = (false, a, x) := by rw [lettersF, if_pos (by omega)]
theorem lettersF_bare {L : List ByteArray} {c : UInt8} {r : List UInt8} {a : Nat} {x : Av} (h : idxC c < 3) : lettersF L (c :: r) a x = lettersF L r a (dov (idxC c) (bs []) x).2 := by rw [lettersF, if_neg (by omega), if_pos h]
theorem lettersF_next {L : List ByteArray} {c : UInt8} {a : Nat} {x : Av} (h : 3 ≤ idxC c) (h5 : idxC c < 5) (ha : a + 1 < L.length) : lettersF L [c] a x = ((dov (idxC c) (L.getD (a + 1) (bs [])) x).1, a + 1, (dov (idxC c) (L.getD (a + 1) (bs [])) x).2) := by rw [lettersF, if_neg (by omega), if_neg (by omega), if_pos ⟨h5, rfl⟩, if_pos ha]
theorem lettersF_none {L : List ByteArray} {c : UInt8} {a : Nat} {x : Av} (h : 3 ≤ idxC c) (h5 : idxC c < 5) (ha : ¬ a + 1 < L.length) : lettersF L [c] a x = (false, a + 1, x) := by rw [lettersF, if_neg (by omega), if_neg (by omega), if_pos ⟨h5, rfl⟩, if_neg ha]
theorem lettersF_here {L : List ByteArray} {c : UInt8} {r : List UInt8} {a : Nat} {x : Av} (h : 3 ≤ idxC c) (h6 : idxC c < 6) (hr : r ≠ [] ∨ idxC c = 5) : lettersF L (c :: r) a x = ((dov (idxC c) (bs r) x).1, a, (dov (idxC c) (bs r) x).2) := by
  rw [lettersF, if_neg (by omega), if_neg (by omega), if_neg (by rintro ⟨q, e⟩; rcases hr with hr | hr; exact hr e; omega)]
end Ar

set_option maxRecDepth 100000 in
set_option maxHeartbeats 4000000 in
theorem letters_any {w0 W : World} {n0 g B : Nat} {al : Option Addr} {cl : Nat} {L : List ByteArray} {at' : Nat} {x : Ar.Av} {vs vn : Value} (h : RdM w0 n0 g B al cl L at' x vs vn W) (s : ByteArray) (hs : s.size ≤ 2097152) (hat : at' < L.length) (hsc : x.sc.length ≤ 131072) :
    Calls Try.prog 53 #[.pointer (some ⟨g, 0, none⟩), .string s] W fun e w' => e = .returned (.bool (Ar.lettersF L s.data.toList at' x).1) ∧ ∃ vs', RdM w0 n0 g B al cl L (Ar.lettersF L s.data.toList at' x).2.1 (Ar.lettersF L s.data.toList at' x).2.2 vs' vn w' := by
  obtain ⟨Y, hY⟩ : ∃ Y, Y = Ar.lettersF L s.data.toList at' x := ⟨_, rfl⟩
  have HY : Hid _ := hY
  rw [← hY]
  clear hY
  have hLl := h.len
  have HH : Hid _ := h
  clear h
  go_enter Try.func53, Try.ntmps53
  go_wp2_with fail
  go_loopw [1] (fun sv wr => ∃ (S : ByteArray) (a1 : Nat) (x1 : Ar.Av) (vs1 : Value), sv = .string S ∧ S.size ≤ s.size ∧ Hid (Y = Ar.lettersF L S.data.toList a1 x1) ∧ Hid (S.data.toList = [] ∨ SmA a1 at' x1 x) ∧ Hid (RdM w0 n0 g B al cl L a1 x1 vs1 vn wr)) (fun sv _ => szV sv)
  case atStart => exact ⟨s, at', x, vs, rfl, Nat.le_refl _, HY.out, Or.inr ⟨rfl, rfl⟩, HH.out⟩
  case round =>
    clear HY HH
    obtain ⟨S, a1, x1, vs1, rfl, hSs, HE, HD, HR⟩ := hrel
    cases hS : S.data.toList with
    | nil =>
      have hem : S.toList.isEmpty = true := by rw [Lib.toList_data, hS]; rfl
      have HY2 : Hid (Y = (true, a1, x1)) := by have := HE.out; rw [hS] at this; exact this
      clear hS HE
      go_wp2_with fail
      go_ret
      exact ⟨ret_bool (by rw [HY2.out]), vs1, by rw [HY2.out]; exact HR.out⟩
    | cons c r =>
      have hem : S.toList.isEmpty = false := by rw [Lib.toList_data, hS]; rfl
      have hz : S.size = r.length + 1 := by rw [← Ar.szL, hS]; rfl
      obtain ⟨ha1, hx1⟩ : a1 = at' ∧ x1.sc.length = x.sc.length := by
        rcases HD.out with q | q
        · rw [hS] at q; cases q
        · exact q
      subst ha1
      have e1 := Ar.ext_one hS
      have e2 := Ar.ext_rest hS
      have s1 := fun wx => slice_one S (by omega) wx
      have s2 := fun wx => slice_rest S (by omega) wx
      rw [e1] at s1
      rw [e2] at s2
      have hrz : (Ar.bs r).size = r.length := Ar.bs_size r
      have HL : Hid (Y = Ar.lettersF L (c :: r) a1 x1) := by rw [← hS]; exact HE.out
      have g2 : wr.cell? ⟨g, 2, none⟩ = some (.slice (some ⟨B + 11, 0, none⟩) 6 6) := HR.out.cell 2
      have hlt := HR.out.lt
      have HI : Hid (Calls Try.prog 59 #[.slice (some ⟨B + 11, 0, none⟩) 6 6, .func (.func 62) #[] #[.pointer (some ⟨wr.heap.size, 0, none⟩)]] (wr.alloc (.cells #[.string ⟨#[c]⟩] 9)) _) := ixl_any B wr.heap.size c _ (cell_of_row _ _ _ _ _ _ (heap_alloc_new _ _)) (by simp) (HR.out.kt.below (alloc_below _ _))
      have HK : Hid (ixI (fun k => (Ar.letK k).data.toList.contains c) = if Ar.idxC c < 6 then ((Ar.idxC c : Nat) : Int) else -1) := by show _ = _; rw [Ar.idxC_fst]; rfl
      clear hS e1 e2 HE HD
      rw [HK.out] at HI
      clear HK
      go_upto_region 5 with (go_at_call 59; refine Calls.mono HI.out ?_; rintro e w1 ⟨rfl, hb1⟩; have HR1 : Hid (RdM w0 n0 g B al cl L a1 x1 vs1 vn w1) := (HR.out.alloc _).still hb1; clear hb1)
      clear g2 HI HR hlt s1 s2
      have hlt := HR1.out.lt
      obtain ⟨m, hm⟩ : ∃ m, Ar.idxC c = m := ⟨_, rfl⟩
      have HM : Hid (Ar.idxC c = m) := hm
      rw [hm]
      clear hm
      have hm6 : m ≤ 6 := by rw [← HM.out, Ar.idxC_fst]; exact Ar.fst6_le _
      match m, hm6 with
      | 0, _ =>
        have c0 : w1.cell? ⟨B + 11, 0, none⟩ = some (.string (Ar.letK 0)) := HR1.out.kt.cell 0 0 (by decide) (by decide)
        have c1 : w1.cell? ⟨B + 11, 1, none⟩ = some (.slice (some ⟨B + 2 * 0, 0, none⟩) (Ar.namK 0).length (Ar.namK 0).length) := HR1.out.kt.cell 0 1 (by decide) (by decide)
        have c2 : w1.cell? ⟨B + 11, 2, none⟩ = some (.int .i64 (Ar.valK 0)) := HR1.out.kt.cell 0 2 (by decide) (by decide)
        have c3 : w1.cell? ⟨B + 11, 3, none⟩ = some (doK B 0) := HR1.out.kt.cell 0 3 (by decide) (by decide)
        have g2 : w1.cell? ⟨g, 2, none⟩ = some (.slice (some ⟨B + 11, 0, none⟩) 6 6) := HR1.out.cell 2
        simp only [doK, fnB, Ar.letK, Ar.valK, Ar.namK, List.length_cons, List.length_nil, Nat.zero_add, Nat.reduceAdd, Nat.reduceMul, Nat.add_zero] at c0 c1 c2 c3
        have HY2 : Hid (Y = Ar.lettersF L (Ar.bs r).data.toList a1 (Ar.dov 0 (Ar.bs []) x1).2) := by show _ = _; rw [HL.out, Ar.lettersF_bare (by rw [HM.out]; decide), HM.out]; rfl
        have HDo : Hid (∀ V : World, RdM w0 n0 g B al cl L a1 x1 vs1 vn V → Calls Try.prog 49 #[.pointer (some ⟨g, 3, none⟩), .string ⟨#[]⟩, .pointer (some ⟨B + 1, 0, none⟩)] V fun e w' => e = .returned (.bool true) ∧ ∃ vs', RdM w0 n0 g B al cl L a1 (Ar.dov 0 (Ar.bs []) x1).2 vs' vn w') := fun V hV => does0 hV (Ar.bs [])
        have hor : Hid ((Ar.bs r).data.toList = [] ∨ SmA a1 a1 (Ar.dov 0 (Ar.bs []) x1).2 x) := Or.inr ⟨rfl, hx1⟩
        clear HL
        go_wp2_with fail
        go_region_with (go_at_call 49; refine Calls.mono (HDo.out _ ((HR1.out.alloc _).still (drewN_below _ 1))) ?_; rintro e w2 ⟨rfl, vs2, hr2⟩; have HR2 : Hid _ := hr2; clear hr2)
        all_goals
          go_simp
          go_wp2_with fail
          go_roundw
          case rel => exact ⟨Ar.bs r, a1, _, vs2, rfl, by omega, HY2, hor, HR2⟩
          case measure => show (Ar.bs r).size < S.size; omega
      | 1, _ =>
        have c0 : w1.cell? ⟨B + 11, 4, none⟩ = some (.string (Ar.letK 1)) := HR1.out.kt.cell 1 0 (by decide) (by decide)
        have c1 : w1.cell? ⟨B + 11, 5, none⟩ = some (.slice (some ⟨B + 2 * 1, 0, none⟩) (Ar.namK 1).length (Ar.namK 1).length) := HR1.out.kt.cell 1 1 (by decide) (by decide)
        have c2 : w1.cell? ⟨B + 11, 6, none⟩ = some (.int .i64 (Ar.valK 1)) := HR1.out.kt.cell 1 2 (by decide) (by decide)
        have c3 : w1.cell? ⟨B + 11, 7, none⟩ = some (doK B 1) := HR1.out.kt.cell 1 3 (by decide) (by decide)
        have g2 : w1.cell? ⟨g, 2, none⟩ = some (.slice (some ⟨B + 11, 0, none⟩) 6 6) := HR1.out.cell 2
        simp only [doK, fnB, Ar.letK, Ar.valK, Ar.namK, List.length_cons, List.length_nil, Nat.zero_add, Nat.reduceMul] at c0 c1 c2 c3
        have HY2 : Hid (Y = Ar.lettersF L (Ar.bs r).data.toList a1 (Ar.dov 1 (Ar.bs []) x1).2) := by show _ = _; rw [HL.out, Ar.lettersF_bare (by rw [HM.out]; decide), HM.out]; rfl
        have HDo : Hid (∀ V : World, RdM w0 n0 g B al cl L a1 x1 vs1 vn V → Calls Try.prog 49 #[.pointer (some ⟨g, 3, none⟩), .string ⟨#[]⟩, .pointer (some ⟨B + 3, 0, none⟩)] V fun e w' => e = .returned (.bool true) ∧ ∃ vs', RdM w0 n0 g B al cl L a1 (Ar.dov 1 (Ar.bs []) x1).2 vs' vn w') := fun V hV => does1 hV (Ar.bs [])
        have hor : Hid ((Ar.bs r).data.toList = [] ∨ SmA a1 a1 (Ar.dov 1 (Ar.bs []) x1).2 x) := Or.inr ⟨rfl, hx1⟩
        clear HL
        go_wp2_with fail
        go_region_with (go_at_call 49; refine Calls.mono (HDo.out _ ((HR1.out.alloc _).still (drewN_below _ 1))) ?_; rintro e w2 ⟨rfl, vs2, hr2⟩; have HR2 : Hid _ := hr2; clear hr2)
        all_goals
          go_simp
          go_wp2_with fail
          go_roundw
          case rel => exact ⟨Ar.bs r, a1, _, vs2, rfl, by omega, HY2, hor, HR2⟩
          case measure => show (Ar.bs r).size < S.size; omega
      | 2, _ =>
        have c0 : w1.cell? ⟨B + 11, 8, none⟩ = some (.string (Ar.letK 2)) := HR1.out.kt.cell 2 0 (by decide) (by decide)
        have c1 : w1.cell? ⟨B + 11, 9, none⟩ = some (.slice (some ⟨B + 2 * 2, 0, none⟩) (Ar.namK 2).length (Ar.namK 2).length) := HR1.out.kt.cell 2 1 (by decide) (by decide)
        have c2 : w1.cell? ⟨B + 11, 10, none⟩ = some (.int .i64 (Ar.valK 2)) := HR1.out.kt.cell 2 2 (by decide) (by decide)
        have c3 : w1.cell? ⟨B + 11, 11, none⟩ = some (doK B 2) := HR1.out.kt.cell 2 3 (by decide) (by decide)
        have g2 : w1.cell? ⟨g, 2, none⟩ = some (.slice (some ⟨B + 11, 0, none⟩) 6 6) := HR1.out.cell 2
        simp only [doK, fnB, Ar.letK, Ar.valK, Ar.namK, List.length_cons, List.length_nil, Nat.zero_add, Nat.reduceMul] at c0 c1 c2 c3
        have HY2 : Hid (Y = Ar.lettersF L (Ar.bs r).data.toList a1 (Ar.dov 2 (Ar.bs []) x1).2) := by show _ = _; rw [HL.out, Ar.lettersF_bare (by rw [HM.out]; decide), HM.out]; rfl
        have HDo : Hid (∀ V : World, RdM w0 n0 g B al cl L a1 x1 vs1 vn V → Calls Try.prog 49 #[.pointer (some ⟨g, 3, none⟩), .string ⟨#[]⟩, .pointer (some ⟨B + 5, 0, none⟩)] V fun e w' => e = .returned (.bool true) ∧ ∃ vs', RdM w0 n0 g B al cl L a1 (Ar.dov 2 (Ar.bs []) x1).2 vs' vn w') := fun V hV => does2 hV (Ar.bs [])
        have hor : Hid ((Ar.bs r).data.toList = [] ∨ SmA a1 a1 (Ar.dov 2 (Ar.bs []) x1).2 x) := Or.inr ⟨rfl, hx1⟩
        clear HL
        go_wp2_with fail
        go_region_with (go_at_call 49; refine Calls.mono (HDo.out _ ((HR1.out.alloc _).still (drewN_below _ 1))) ?_; rintro e w2 ⟨rfl, vs2, hr2⟩; have HR2 : Hid _ := hr2; clear hr2)
        all_goals
          go_simp
          go_wp2_with fail
          go_roundw
          case rel => exact ⟨Ar.bs r, a1, _, vs2, rfl, by omega, HY2, hor, HR2⟩
          case measure => show (Ar.bs r).size < S.size; omega
      | 3, _ =>
        have c0 : w1.cell? ⟨B + 11, 12, none⟩ = some (.string (Ar.letK 3)) := HR1.out.kt.cell 3 0 (by decide) (by decide)
        have c1 : w1.cell? ⟨B + 11, 13, none⟩ = some (.slice (some ⟨B + 2 * 3, 0, none⟩) (Ar.namK 3).length (Ar.namK 3).length) := HR1.out.kt.cell 3 1 (by decide) (by decide)
        have c2 : w1.cell? ⟨B + 11, 14, none⟩ = some (.int .i64 (Ar.valK 3)) := HR1.out.kt.cell 3 2 (by decide) (by decide)
        have c3 : w1.cell? ⟨B + 11, 15, none⟩ = some (doK B 3) := HR1.out.kt.cell 3 3 (by decide) (by decide)
        have g2 : w1.cell? ⟨g, 2, none⟩ = some (.slice (some ⟨B + 11, 0, none⟩) 6 6) := HR1.out.cell 2
        simp only [doK, fnB, Ar.letK, Ar.valK, Ar.namK, List.length_cons, List.length_nil, Nat.zero_add, Nat.reduceMul] at c0 c1 c2 c3
        by_cases hr : r = []
        · have hem2 : (Ar.bs r).toList.isEmpty = true := by rw [hr, Lib.toList_data]; rfl
          have g0 : w1.cell? ⟨g, 0, none⟩ = some (.slice al L.length cl) := HR1.out.cell 0
          have g1 : w1.cell? ⟨g, 1, none⟩ = some (.int .i64 (a1 : Int)) := HR1.out.cell 1
          have f1 := HR1.out.free 1
          have HRs : Hid (RdM w0 n0 g B al cl L (a1 + 1) x1 vs1 vn (w1.setCell ⟨g, 1, none⟩ (.int .i64 ((a1 : Int) + 1)))) := HR1.out.set 1 _ (at2 := a1 + 1) (x2 := x1) rfl rfl rfl
          by_cases ha : a1 + 1 < L.length
          · have HY3 : Hid (Y = Ar.lettersF L (Ar.bs []).data.toList (a1 + 1) (Ar.dov 3 (L[a1 + 1]'ha) x1).2) := by
              show _ = _
              rw [HL.out, hr, Ar.lettersF_next (by rw [HM.out]; decide) (by rw [HM.out]; decide) ha, HM.out, List.getD_eq_getElem?_getD, List.getElem?_eq_getElem ha]; rfl
            obtain ⟨bb, off, rfl, hbb, d0⟩ := HR1.out.ar.cells (a1 + 1) ha
            have hbn : bb < g := by have := HR1.out.af _ rfl; have := HR1.out.lo; have := HR1.out.bg; simp only at *; omega
            have hes : (L[a1 + 1]'ha).size ≤ 1099511627776 := HR1.out.ar.size _ ha
            generalize L[a1 + 1]'ha = v at *
            have HDo : Hid (∀ V : World, RdM w0 n0 g B (some ⟨bb, off, none⟩) cl L (a1 + 1) x1 vs1 vn V → Calls Try.prog 50 #[.pointer (some ⟨g, 3, none⟩), .string v, .pointer (some ⟨B + 7, 0, none⟩)] V fun e w' => e = .returned (.bool true) ∧ ∃ vs', RdM w0 n0 g B (some ⟨bb, off, none⟩) cl L (a1 + 1) (Ar.dov 3 v x1).2 vs' vn w') := fun V hV => doesP hV v false (B + 7) (cell_of_row _ _ _ _ _ _ hV.kt.p0) (by omega)
            have ha2 : ((a1 : Int) + 1 == (L.length : Int)) = false := beq_eq_false_iff_ne.2 (by omega)
            have ha3 : (a1 : Int) + 1 < (L.length : Int) := by omega
            have hw : IntKind.i64.wrap ((a1 : Int) + 1) = (a1 : Int) + 1 := by rw [IntKind.wrap_i64]; omega
            clear HL hr
            go_wp2_with fail
            go_quiet (fail)
            go_wp2_with fail
            go_quiet (fail)
            go_wp2_with fail
            go_region_with (go_at_call 50; refine Calls.mono (HDo.out _ (by first | exact ((HRs.out.alloc _).still (drewN_below _ _)) | exact (((HRs.out.alloc _).still (drewN_below _ _)).still (drewN_below _ _)) | exact ((((HRs.out.alloc _).still (drewN_below _ _)).still (drewN_below _ _)).still (drewN_below _ _)))) ?_; rintro e w2 ⟨rfl, vs2, hr2⟩; have HR2 : Hid _ := hr2; clear hr2)
            all_goals
              go_simp
              go_wp2_with fail
              go_roundw
              case rel => exact ⟨Ar.bs [], a1 + 1, _, vs2, rfl, by show (0 : Nat) ≤ _; omega, HY3, Or.inl rfl, HR2⟩
              case measure => show (0 : Nat) < S.size; omega
          · have HY2 : Hid (Y = (false, a1 + 1, x1)) := by show _ = _; rw [HL.out, hr, Ar.lettersF_none (by rw [HM.out]; decide) (by rw [HM.out]; decide) ha]
            have ha2 : ((a1 : Int) + 1 == (L.length : Int)) = true := beq_iff_eq.2 (by omega)
            clear HL hr
            go_wp2_with fail
            go_quiet (fail)
            go_wp2_with fail
            go_ret
            exact ⟨ret_bool (by rw [HY2.out]), vs1, by rw [HY2.out]; exact (HRs.out.alloc _).still (drewN_below _ _)⟩
        · have hem2 : (Ar.bs r).toList.isEmpty = false := by rw [Lib.toList_data]; show List.isEmpty r = false; simpa using hr
          have HY3 : Hid (Y = Ar.lettersF L (Ar.bs []).data.toList a1 (Ar.dov 3 (Ar.bs r) x1).2) := by show _ = _; rw [HL.out, Ar.lettersF_here (by rw [HM.out]; decide) (by rw [HM.out]; decide) (Or.inl hr), HM.out]; rfl
          have HDo : Hid (∀ V : World, RdM w0 n0 g B al cl L a1 x1 vs1 vn V → Calls Try.prog 50 #[.pointer (some ⟨g, 3, none⟩), .string (Ar.bs r), .pointer (some ⟨B + 7, 0, none⟩)] V fun e w' => e = .returned (.bool true) ∧ ∃ vs', RdM w0 n0 g B al cl L a1 (Ar.dov 3 (Ar.bs r) x1).2 vs' vn w') := fun V hV => doesP hV (Ar.bs r) false (B + 7) (cell_of_row _ _ _ _ _ _ hV.kt.p0) (by omega)
          clear HL hr
          go_wp2_with fail
          go_region_with (go_at_call 50; refine Calls.mono (HDo.out _ ((HR1.out.alloc _).still (drewN_below _ 1))) ?_; rintro e w2 ⟨rfl, vs2, hr2⟩; have HR2 : Hid _ := hr2; clear hr2)
          all_goals
            go_simp
            go_wp2_with fail
            go_roundw
            case rel => exact ⟨Ar.bs [], a1, _, vs2, rfl, by show (0 : Nat) ≤ _; omega, HY3, Or.inl rfl, HR2⟩
            case measure => show (0 : Nat) < S.size; omega
      | 4, _ =>
        have c0 : w1.cell? ⟨B + 11, 16, none⟩ = some (.string (Ar.letK 4)) := HR1.out.kt.cell 4 0 (by decide) (by decide)
        have c1 : w1.cell? ⟨B + 11, 17, none⟩ = some (.slice (some ⟨B + 2 * 4, 0, none⟩) (Ar.namK 4).length (Ar.namK 4).length) := HR1.out.kt.cell 4 1 (by decide) (by decide)
        have c2 : w1.cell? ⟨B + 11, 18, none⟩ = some (.int .i64 (Ar.valK 4)) := HR1.out.kt.cell 4 2 (by decide) (by decide)
        have c3 : w1.cell? ⟨B + 11, 19, none⟩ = some (doK B 4) := HR1.out.kt.cell 4 3 (by decide) (by decide)
        have g2 : w1.cell? ⟨g, 2, none⟩ = some (.slice (some ⟨B + 11, 0, none⟩) 6 6) := HR1.out.cell 2
        simp only [doK, fnB, Ar.letK, Ar.valK, Ar.namK, List.length_cons, List.length_nil, Nat.zero_add, Nat.reduceMul] at c0 c1 c2 c3
        by_cases hr : r = []
        · have hem2 : (Ar.bs r).toList.isEmpty = true := by rw [hr, Lib.toList_data]; rfl
          have g0 : w1.cell? ⟨g, 0, none⟩ = some (.slice al L.length cl) := HR1.out.cell 0
          have g1 : w1.cell? ⟨g, 1, none⟩ = some (.int .i64 (a1 : Int)) := HR1.out.cell 1
          have f1 := HR1.out.free 1
          have HRs : Hid (RdM w0 n0 g B al cl L (a1 + 1) x1 vs1 vn (w1.setCell ⟨g, 1, none⟩ (.int .i64 ((a1 : Int) + 1)))) := HR1.out.set 1 _ (at2 := a1 + 1) (x2 := x1) rfl rfl rfl
          by_cases ha : a1 + 1 < L.length
          · have HY3 : Hid (Y = Ar.lettersF L (Ar.bs []).data.toList (a1 + 1) (Ar.dov 4 (L[a1 + 1]'ha) x1).2) := by
              show _ = _
              rw [HL.out, hr, Ar.lettersF_next (by rw [HM.out]; decide) (by rw [HM.out]; decide) ha, HM.out, List.getD_eq_getElem?_getD, List.getElem?_eq_getElem ha]; rfl
            obtain ⟨bb, off, rfl, hbb, d0⟩ := HR1.out.ar.cells (a1 + 1) ha
            have hbn : bb < g := by have := HR1.out.af _ rfl; have := HR1.out.lo; have := HR1.out.bg; simp only at *; omega
            have hes : (L[a1 + 1]'ha).size ≤ 1099511627776 := HR1.out.ar.size _ ha
            generalize L[a1 + 1]'ha = v at *
            have HDo : Hid (∀ V : World, RdM w0 n0 g B (some ⟨bb, off, none⟩) cl L (a1 + 1) x1 vs1 vn V → Calls Try.prog 50 #[.pointer (some ⟨g, 3, none⟩), .string v, .pointer (some ⟨B + 9, 0, none⟩)] V fun e w' => e = .returned (.bool true) ∧ ∃ vs', RdM w0 n0 g B (some ⟨bb, off, none⟩) cl L (a1 + 1) (Ar.dov 4 v x1).2 vs' vn w') := fun V hV => doesP hV v true (B + 9) (cell_of_row _ _ _ _ _ _ hV.kt.p1) (by omega)
            have ha2 : ((a1 : Int) + 1 == (L.length : Int)) = false := beq_eq_false_iff_ne.2 (by omega)
            have ha3 : (a1 : Int) + 1 < (L.length : Int) := by omega
            have hw : IntKind.i64.wrap ((a1 : Int) + 1) = (a1 : Int) + 1 := by rw [IntKind.wrap_i64]; omega
            clear HL hr
            go_wp2_with fail
            go_quiet (fail)
            go_wp2_with fail
            go_quiet (fail)
            go_wp2_with fail
            go_region_with (go_at_call 50; refine Calls.mono (HDo.out _ (by first | exact ((HRs.out.alloc _).still (drewN_below _ _)) | exact (((HRs.out.alloc _).still (drewN_below _ _)).still (drewN_below _ _)) | exact ((((HRs.out.alloc _).still (drewN_below _ _)).still (drewN_below _ _)).still (drewN_below _ _)))) ?_; rintro e w2 ⟨rfl, vs2, hr2⟩; have HR2 : Hid _ := hr2; clear hr2)
            all_goals
              go_simp
              go_wp2_with fail
              go_roundw
              case rel => exact ⟨Ar.bs [], a1 + 1, _, vs2, rfl, by show (0 : Nat) ≤ _; omega, HY3, Or.inl rfl, HR2⟩
              case measure => show (0 : Nat) < S.size; omega
          · have HY2 : Hid (Y = (false, a1 + 1, x1)) := by show _ = _; rw [HL.out, hr, Ar.lettersF_none (by rw [HM.out]; decide) (by rw [HM.out]; decide) ha]
            have ha2 : ((a1 : Int) + 1 == (L.length : Int)) = true := beq_iff_eq.2 (by omega)
            clear HL hr
            go_wp2_with fail
            go_quiet (fail)
            go_wp2_with fail
            go_ret
            exact ⟨ret_bool (by rw [HY2.out]), vs1, by rw [HY2.out]; exact (HRs.out.alloc _).still (drewN_below _ _)⟩
        · have hem2 : (Ar.bs r).toList.isEmpty = false := by rw [Lib.toList_data]; show List.isEmpty r = false; simpa using hr
          have HY3 : Hid (Y = Ar.lettersF L (Ar.bs []).data.toList a1 (Ar.dov 4 (Ar.bs r) x1).2) := by show _ = _; rw [HL.out, Ar.lettersF_here (by rw [HM.out]; decide) (by rw [HM.out]; decide) (Or.inl hr), HM.out]; rfl
          have HDo : Hid (∀ V : World, RdM w0 n0 g B al cl L a1 x1 vs1 vn V → Calls Try.prog 50 #[.pointer (some ⟨g, 3, none⟩), .string (Ar.bs r), .pointer (some ⟨B + 9, 0, none⟩)] V fun e w' => e = .returned (.bool true) ∧ ∃ vs', RdM w0 n0 g B al cl L a1 (Ar.dov 4 (Ar.bs r) x1).2 vs' vn w') := fun V hV => doesP hV (Ar.bs r) true (B + 9) (cell_of_row _ _ _ _ _ _ hV.kt.p1) (by omega)
          clear HL hr
          go_wp2_with fail
          go_region_with (go_at_call 50; refine Calls.mono (HDo.out _ ((HR1.out.alloc _).still (drewN_below _ 1))) ?_; rintro e w2 ⟨rfl, vs2, hr2⟩; have HR2 : Hid _ := hr2; clear hr2)
          all_goals
            go_simp
            go_wp2_with fail
            go_roundw
            case rel => exact ⟨Ar.bs [], a1, _, vs2, rfl, by show (0 : Nat) ≤ _; omega, HY3, Or.inl rfl, HR2⟩
            case measure => show (0 : Nat) < S.size; omega
      | 5, _ =>
        have c0 : w1.cell? ⟨B + 11, 20, none⟩ = some (.string (Ar.letK 5)) := HR1.out.kt.cell 5 0 (by decide) (by decide)
        have c1 : w1.cell? ⟨B + 11, 21, none⟩ = some (.slice (some ⟨B + 2 * 5, 0, none⟩) (Ar.namK 5).length (Ar.namK 5).length) := HR1.out.kt.cell 5 1 (by decide) (by decide)
        have c2 : w1.cell? ⟨B + 11, 22, none⟩ = some (.int .i64 (Ar.valK 5)) := HR1.out.kt.cell 5 2 (by decide) (by decide)
        have c3 : w1.cell? ⟨B + 11, 23, none⟩ = some (doK B 5) := HR1.out.kt.cell 5 3 (by decide) (by decide)
        have g2 : w1.cell? ⟨g, 2, none⟩ = some (.slice (some ⟨B + 11, 0, none⟩) 6 6) := HR1.out.cell 2
        simp only [doK, fnV, Ar.letK, Ar.valK, Ar.namK, List.length_cons, List.length_nil, Nat.zero_add, Nat.reduceMul] at c0 c1 c2 c3
        have HYd : Hid (Y = ((Ar.dov 5 (Ar.bs r) x1).1, a1, (Ar.dov 5 (Ar.bs r) x1).2)) := by show _ = _; rw [HL.out, Ar.lettersF_here (by rw [HM.out]; decide) (by rw [HM.out]; decide) (Or.inr HM.out), HM.out]
        have HDo : Hid (∀ V : World, RdM w0 n0 g B al cl L a1 x1 vs1 vn V → Calls Try.prog 40 #[.pointer (some ⟨g, 3, none⟩), .string (Ar.bs r)] V fun e w' => e = .returned (.bool (Ar.sfxB (Ar.bs r))) ∧ ∃ vs', RdM w0 n0 g B al cl L a1 (Ar.dov 5 (Ar.bs r) x1).2 vs' vn w') := fun V hV => does5 hV (Ar.bs r) (by unfold maxLen; omega)
        cases hsb : Ar.sfxB (Ar.bs r)
        · have HY2 : Hid (Y = (false, a1, (Ar.dov 5 (Ar.bs r) x1).2)) := by show _ = _; rw [HYd.out]; exact Prod.ext hsb rfl
          rw [hsb] at HDo
          clear HL HYd hsb
          go_wp2_with fail
          go_region_with (go_at_call 40; refine Calls.mono (HDo.out _ ((HR1.out.alloc _).still (drewN_below _ 1))) ?_; rintro e w2 ⟨rfl, vs2, hr2⟩; have HR2 : Hid _ := hr2; clear hr2)
          all_goals
            go_simp
            go_wp2_with fail
            go_ret
            exact ⟨ret_bool (by rw [HY2.out]), vs2, by rw [HY2.out]; exact HR2.out⟩
        · have HY3 : Hid (Y = Ar.lettersF L (Ar.bs []).data.toList a1 (Ar.dov 5 (Ar.bs r) x1).2) := by show _ = _; rw [HYd.out]; exact Prod.ext hsb rfl
          rw [hsb] at HDo
          clear HL HYd hsb
          go_wp2_with fail
          go_region_with (go_at_call 40; refine Calls.mono (HDo.out _ ((HR1.out.alloc _).still (drewN_below _ 1))) ?_; rintro e w2 ⟨rfl, vs2, hr2⟩; have HR2 : Hid _ := hr2; clear hr2)
          all_goals
            go_simp
            go_wp2_with fail
            go_roundw
            case rel => exact ⟨Ar.bs [], a1, _, vs2, rfl, by show (0 : Nat) ≤ _; omega, HY3, Or.inl rfl, HR2⟩
            case measure => show (0 : Nat) < S.size; omega
      | 6, _ =>
        have HY2 : Hid (Y = (false, a1, x1)) := by show _ = _; rw [HL.out, Ar.lettersF_sz HM.out]
        clear HL
        go_wp2_with fail
        go_ret
        exact ⟨ret_bool (by rw [HY2.out]), vs1, by rw [HY2.out]; exact HR1.out⟩
end Go.Proofs.Ytklcfjakhabbgaa
