/- What slices.Grow answers of no files. What trees.look answers in a right tree, the tree's blocks told by a predicate. What slices.Concat answers of rows of files. What trees.swap answers. -/
import Derived.Test.YtfbhofomcenabaaGreatDoorTE
import Derived.Lib.SliceRun
import Derived.Lib.AppendZerosOnto
import Derived.Test.YtfbhofomcenabaaGreatDoorTF
import Derived.Deep.DeepCutAuto
import Derived.Deep.SlicePairs
namespace Go.Proofs.YtfbhofomcenabaaGreatDoor
open Go.RowKit

set_option maxRecDepth 100000 in
set_option maxHeartbeats 1000000 in
theorem fgrow_zero (w : World) :
    Calls Tryz.prog 121 #[.slice none 0 0, .int .i64 0] w fun e w' => e = .returned (.slice none 0 0) ∧ w' = w := by
  go_enter Tryz.func121, Tryz.ntmps121
  go_wp2
  go_ret
  exact ⟨rfl, rfl⟩
set_option maxRecDepth 100000 in
set_option maxHeartbeats 1000000 in
theorem fgrow_any (n : Nat) (w : World) (h1 : 1 ≤ n) (hn : n ≤ 4194304) :
    Calls Tryz.prog 121 #[.slice none 0 0, .int .i64 n] w fun e w' => ∃ v, e = .returned v ∧ w'.ownsRow w.heap.size 25 4 v 0 [] ∧ Below w.heap.size w w' := by
  obtain ⟨i0, hi, hz0, hz1, hz2⟩ := info_parts Tryz.infoFile
  have hcf : (Builtin.firstCells i0.size 0 (.slice none 0 0)).run Tryz.prog w.drew = .ok ([] : List Value).toArray w.drew := run_firstCells_none w.drew i0.size 0 0 0
  have hr := fun ty => Lib.run_append_grow_zeros w 23 3 ty 25 i0 (.agg #[.string ⟨#[]⟩, .int .u8 0, .string ⟨#[]⟩, .slice none 0 0]) .i64 .i64 Tryz.underlying23 Tryz.underlying3 hi hz0 none 0 0 [] hcf n (by omega) (by rw [hz1]; simp) (by omega) (by omega) (by rw [hz2]; omega) (growslice_fits (by omega) (by rw [hz2]; omega))
  have hge := grownCap_ge w (0 + n) 0 25
  have hle := grownCap_le_maxLen w (0 + n) 0 25 (by unfold maxLen; omega)
  generalize grownCap w (0 + n) 0 25 = gc at *
  obtain ⟨CZ, hCZ⟩ : ∃ CZ, CZ = ([] : List Value).toArray ++ Builtin.zeroCells (Value.agg #[.string ⟨#[]⟩, .int .u8 0, .string ⟨#[]⟩, .slice none 0 0]).cells n ++ Builtin.zeroCells (Value.agg #[.string ⟨#[]⟩, .int .u8 0, .string ⟨#[]⟩, .slice none 0 0]).cells (gc - (0 + n)) := ⟨_, rfl⟩
  have hsz : CZ.size = gc * 4 := by
    rw [hCZ]
    simp only [Array.size_append, size_zeroCells]
    simp [Value.cells]
    omega
  rw [← hCZ] at hr
  have HB : Hid ((w.drew.alloc (.cells CZ 25)).ownsRow w.heap.size 25 4 (.slice (some ⟨w.heap.size, 0, none⟩) 0 gc) 0 []) :=
    ⟨rfl, .inr ⟨w.heap.size, gc, CZ, rfl, Nat.le_refl _, heap_alloc_new w.drew _, Nat.zero_le _, hle, hsz, by simp⟩⟩
  have HW : Hid (Below w.heap.size w (w.drew.alloc (.cells CZ 25))) := (Below.refl _ _).drew.alloc (Nat.le_refl _) _
  rw [Nat.zero_add] at hr
  clear hcf hCZ hsz
  unfold maxLen at hle
  have k1 : ¬ ((n : Int) < 0) := by omega
  have k3 : wrap64 (n : Int) = (n : Int) := by unfold wrap64; omega
  have k4 : (n : Int) > 0 := by omega
  go_enter Tryz.func121, Tryz.ntmps121
  go_wp2_with (at_builtin; refine Lib.wpList_append_run _ rfl _ _ _ _ rfl _ _ rfl rfl _ _ (hr _) ?_)
  all_goals (go_ret; exact ⟨_, rfl, HB.out, HW.out⟩)
end Go.Proofs.YtfbhofomcenabaaGreatDoor
namespace Go.Proofs.YtfbhofomcenabaaGreatDoor
open Go.RowKit

namespace Ft
theorem Fd.underP {w w' : World} {B : Nat} {P : Nat → Prop} {T : FT} {a : Option Addr} {cap : Nat} (h : Fd w P T a cap) (hP : ∀ b, P b → b < B) (hb : Below B w w') : Fd w' P T a cap := h.same (fun b q => hb.block b (hP b q)) (fun _ h => h)
/-- As FnAt, the tree's blocks told by P. -/
def FnP (P : Nat → Prop) (w : World) (U : FT) (a : Option Addr) (c : Nat) (wx : World) : Prop := FileAt wx w.heap.size U a c ∧ Fd wx P U a c ∧ FileAt wx (w.heap.size + 1) zF none 0 ∧ Below w.heap.size w wx
theorem FnP.put {P : Nat → Prop} {w : World} {U U' : FT} {a a' : Option Addr} {c c' : Nat} {wx : World} (h : FnP P w U a c wx) (hP : ∀ b, P b → b < w.heap.size) (h' : Fd wx P U' a' c') : FnP P w U' a' c' (putF wx w.heap.size U' a' c') :=
  ⟨h.1.putF U' a' c', h'.underP hP (putF_below (Below.refl _ wx) (Nat.le_refl _)), (putF_other (by omega)).trans h.2.2.1, putF_below h.2.2.2 (Nat.le_refl _)⟩
def FndP (P : Nat → Prop) (w : World) (r : Sum Nat FT) (e : Ending) (w' : World) : Prop := ∃ U a c code, e = .returned (.tuple #[fdV U a c, .int .i64 code]) ∧ Hid (FindIs r U code ∧ Fd w' P U a c ∧ Below w.heap.size w w')
theorem fnp_end {P : Nat → Prop} {w : World} {U V : FT} {a b : Option Addr} {c d : Nat} {wx : World} (hP : ∀ b, P b → b < w.heap.size) (h : FnP P w U a c wx) (hV : Fd wx P V b d) : FileAt (putF wx (w.heap.size + 1) V b d) (w.heap.size + 1) V b d ∧ Fd (putF wx (w.heap.size + 1) V b d) P V b d ∧ Below w.heap.size w (putF wx (w.heap.size + 1) V b d) :=
  ⟨h.2.2.1.putF V b d, hV.underP hP (putF_below (Below.refl _ wx) (by omega)), putF_below h.2.2.2 (by omega)⟩
end Ft

set_option maxRecDepth 100000 in
set_option maxHeartbeats 4000000 in
theorem tlookP_any (P : Nat → Prop) (T : Ft.FT) (p : List ByteArray) (a ap : Option Addr) (cap cp : Nat) (w : World) (hPP : ∀ b, P b → b < w.heap.size) (hN : Ft.Fd w P T a cap) (hP : Strs w ap cp p) (q0 : List ByteArray) (hb0 : Ft.belT T q0 = none) :
    Calls Tryz.prog 57 #[Ft.fdV T a cap, .slice ap p.length cp] w (Ft.FndP P w (Ft.lookR T p)) := by
  obtain ⟨W, hW⟩ : ∃ W, W = (w.alloc (.cells (Ft.fdA T a cap) 25)).alloc (.cells #[.string ⟨#[]⟩, .int .u8 0, .string ⟨#[]⟩, .slice none 0 0] 25) := ⟨_, rfl⟩
  have hB : Below w.heap.size w W := by rw [hW]; exact ((Below.refl _ _).alloc (Nat.le_refl _) _).alloc (by simp) _
  have hF : Ft.FnP P w T a cap W := by
    refine ⟨?_, hN.underP hPP hB, ?_, hB⟩
    · rw [hW]; exact (Ft.file_new w T a cap).alloc _
    · rw [hW]
      have := Ft.file_zero (w.alloc (.cells (Ft.fdA T a cap) 25))
      simpa using this
  have HW : Hid (W = (w.alloc (.cells (Ft.fdA T a cap) 25)).alloc (.cells #[.string ⟨#[]⟩, .int .u8 0, .string ⟨#[]⟩, .slice none 0 0] 25)) := hW
  have HF : Hid (Ft.FnP P w T a cap W) := hF
  have HP : Hid (Strs w ap cp p) := hP
  have HQ0 : Hid (∃ q, Ft.belT T q = none) := ⟨q0, hb0⟩
  have HPP : Hid (∀ b, P b → b < w.heap.size) := hPP
  have hpl := hP.len
  have hTl := hN.room.1
  clear hW hB hF hN hP hb0 hPP
  simp only [Ft.fdA] at HW
  simp only [Ft.fdV, Ft.fdA]
  go_enter Tryz.func57, Tryz.ntmps57
  go_upto_region 1 with fail
  rw [← HW.out]
  clear HW
  go_wp2_with fail
  go_loopw [12] (fun iv wr => ∃ (k : Nat) (U : Ft.FT) (b : Option Addr) (c : Nat), k ≤ p.length ∧ iv = .int .i64 (k : Int) ∧ Hid (Ft.FnP P w U b c wr) ∧ Hid (Ft.lookR T p = Ft.lookR U (p.drop k)) ∧ Hid (∃ q, Ft.belT U q = none)) (fun iv _ => p.length - (intOf iv).toNat)
  case atStart => exact ⟨0, T, a, cap, Nat.zero_le _, rfl, HF, rfl, HQ0⟩
  case round =>
    clear HF HQ0
    obtain ⟨k, U, b, c, hk, rfl, HF, HL, HQ⟩ := hrel
    obtain ⟨u0, u1, u2, u3⟩ := HF.out.1.four
    have uf := HF.out.1.frozen
    have z0 : wr.cell? ⟨w.heap.size + 1, 0, none⟩ = some (.string ⟨#[]⟩) := HF.out.2.2.1.four.c0
    have z1 : wr.cell? ⟨w.heap.size + 1, 1, none⟩ = some (.int .u8 0) := HF.out.2.2.1.four.c1
    have z2 : wr.cell? ⟨w.heap.size + 1, 2, none⟩ = some (.string ⟨#[]⟩) := HF.out.2.2.1.four.c2
    have z3 : wr.cell? ⟨w.heap.size + 1, 3, none⟩ = some (.slice none 0 0) := HF.out.2.2.1.four.c3
    have zf := HF.out.2.2.1.frozen
    have hsz := HF.out.2.2.2.size
    have hsz2 : w.heap.size + 1 < wr.heap.size := HF.out.2.2.1.lt
    have hUl := HF.out.2.1.room.1
    by_cases hlt : k < p.length
    · obtain ⟨bp, op, rfl, hbp, hcp⟩ := (HP.out.below HF.out.2.2.2).cells k hlt
      have i1 : (k : Int) < (p.length : Int) := by omega
      have HN0 : Hid (U.k ≠ 1 → Ft.lookR T p = .inl 32) := fun q => HL.out.trans (Ft.look_nodir hlt q)
      have HN1 : Hid (U.k = 1 → Ft.kidN U.kids (p[k]) = none → Ft.lookR T p = .inl 31) := fun q r => HL.out.trans (Ft.look_none hlt q r)
      have HN2 : Hid (∀ V, U.k = 1 → Ft.kidN U.kids (p[k]) = some V → Ft.lookR T p = Ft.lookR V (p.drop (k + 1))) := fun V q r => HL.out.trans (Ft.look_on hlt q r)
      clear HL
      generalize p[k] = x at *
      cases hd : ((U.k : Int) != 1)
      · have hd1 : U.k = 1 := by simp at hd; omega
        have HD1 : Hid (U.k = 1) := hd1
        clear hd1
        have HRs : Hid (Ft.RisN U.kids) := by
          obtain ⟨q, hq⟩ := HQ.out
          exact Ft.bel_ris hq
        have C := tfind_any U x b c wr (HF.out.2.1.mono (fun y hy => by have := HPP.out y hy; omega)) HRs.out
        clear z0 z1 z2 z3 zf
        go_wp2_with fail
        refine C.mono ?_
        rintro e w1 ⟨q, rfl, hp, b1⟩
        have HKp : Hid (Ft.kidN U.kids x = if Ft.atN U.kids x q = true then U.kids[q]? else none) := Ft.kid_pos HRs.out hp
        have HF1 : Hid (Ft.FnP P w U b c w1) := ⟨HF.out.1.under b1, HF.out.2.1.underP HPP.out (b1.mono hsz), HF.out.2.2.1.under b1, HF.out.2.2.2.trans (b1.mono hsz)⟩
        have hq0 := hp.1
        clear hp b1 C u0 u1 u2 u3 uf HF
        cases ha : Ft.atN U.kids x q
        · have HE : Hid (Ft.lookR T p = .inl 31) := HN1.out HD1.out (by rw [HKp.out, ha, if_neg (by simp)])
          have z0 : w1.cell? ⟨w.heap.size + 1, 0, none⟩ = some (.string ⟨#[]⟩) := HF1.out.2.2.1.four.c0
          have z1 : w1.cell? ⟨w.heap.size + 1, 1, none⟩ = some (.int .u8 0) := HF1.out.2.2.1.four.c1
          have z2 : w1.cell? ⟨w.heap.size + 1, 2, none⟩ = some (.string ⟨#[]⟩) := HF1.out.2.2.1.four.c2
          have z3 : w1.cell? ⟨w.heap.size + 1, 3, none⟩ = some (.slice none 0 0) := HF1.out.2.2.1.four.c3
          have zf := HF1.out.2.2.1.frozen
          clear HN0 HN1 HN2 HKp
          go_wp2_with fail
          have K := Ft.fnp_end HPP.out HF1.out (Ft.fd_zero w1 _)
          refine bodyPost_ret (Ft.results_fil rfl _ _ (w.heap.size + 1) Ft.zF none 0 rfl K.1) rfl ?_
          rw [HE.out]
          exact ⟨Ft.zF, none, 0, 31, rfl, ⟨⟨rfl, rfl⟩, K.2.1, K.2.2⟩⟩
        · have hql : q < U.kids.length := by
            rcases Nat.lt_or_ge q U.kids.length with g | g
            · exact g
            · unfold Ft.atN at ha; rw [List.getElem?_eq_none g] at ha; cases ha
          obtain ⟨bk, ok, a', c', rfl, hbk, h4, hsub⟩ := HF1.out.2.1.kid hql
          obtain ⟨r0, r1, r2, r3⟩ := h4
          have j1 : (q : Int) < (U.kids.length : Int) := by omega
          have HE : Hid (Ft.lookR T p = Ft.lookR (U.kids[q]) (p.drop (k + 1))) := HN2.out _ HD1.out (by rw [HKp.out, ha, if_pos rfl, List.getElem?_eq_getElem hql])
          have HQ2 : Hid (∃ y, Ft.belT (U.kids[q]) y = none) := by
            obtain ⟨y, hy⟩ := HQ.out
            exact ⟨_, (Ft.bel_kid hy hql).2⟩
          have hsl := hsub.room.1
          have HF2 : Hid (Ft.FnP P w (U.kids[q]) a' c' (Ft.putF w1 w.heap.size (U.kids[q]) a' c')) := HF1.out.put HPP.out hsub
          have hbk : bk < w.heap.size := HPP.out _ hbk
          have hne : bk ≠ w.heap.size := by omega
          obtain ⟨u0, u1, u2, u3⟩ := HF1.out.1.four
          have uf := HF1.out.1.frozen
          clear hsub HKp HN0 HN1 HN2 HQ HRs hbk
          generalize U.kids[q] = V at *
          go_wp2_with fail
          go_roundw
          case rel => exact ⟨k + 1, V, a', c', by omega, by go_num, HF2, HE, HQ2⟩
          case measure => simp [intOf]; omega
      · have HE : Hid (Ft.lookR T p = .inl 32) := HN0.out (by simp at hd; omega)
        clear HN0 HN1 HN2
        go_wp2_with fail
        have K := Ft.fnp_end HPP.out HF.out (Ft.fd_zero wr _)
        refine bodyPost_ret (Ft.results_fil rfl _ _ (w.heap.size + 1) Ft.zF none 0 rfl K.1) rfl ?_
        rw [HE.out]
        exact ⟨Ft.zF, none, 0, 32, rfl, ⟨⟨rfl, rfl⟩, K.2.1, K.2.2⟩⟩
    · have HE : Hid (Ft.lookR T p = .inr U) := HL.out.trans (Ft.look_end (by omega))
      have i1 : ¬ (k : Int) < (p.length : Int) := by omega
      go_wp2_with fail
      have K := Ft.fnp_end HPP.out HF.out HF.out.2.1
      refine bodyPost_ret (Ft.results_fil rfl _ _ (w.heap.size + 1) U b c rfl K.1) rfl ?_
      rw [HE.out]
      exact ⟨U, b, c, 0, rfl, ⟨⟨rfl, rfl⟩, K.2.1, K.2.2⟩⟩
end Go.Proofs.YtfbhofomcenabaaGreatDoor
namespace Go.Proofs.YtfbhofomcenabaaGreatDoor
open Go Go.RowKit

namespace Ft
/-- A slice of files. -/
abbrev FS := List FT × Option Addr × Nat
/-- The files of a slice lie in blocks of which P is true. -/
def FdL (w : World) (P : Nat → Prop) (x : FS) : Prop := Fd w P (.mk ⟨#[]⟩ 0 ⟨#[]⟩ x.1) x.2.1 x.2.2
def FdL.v (x : FS) : Value := .slice x.2.1 x.1.length x.2.2
theorem FdL.underP {w w' : World} {B : Nat} {P : Nat → Prop} {x : FS} (h : FdL w P x) (hP : ∀ b, P b → b < B) (hb : Below B w w') : FdL w' P x := Fd.underP h hP hb
theorem add_off (b off j : Nat) : (⟨b, off, none⟩ : Addr).add j = ⟨b, off + j, none⟩ := by unfold Addr.add; split <;> simp_all
theorem fcells_len (L : List (FT × Option Addr × Nat)) : (fcells L).length = L.length * 4 := by
  induction L with
  | nil => rfl
  | cons x r ih => simp only [fcells, List.flatMap_cons, List.length_append, List.length_cons] at ih ⊢; rw [ih]; simp [fourL]; omega
theorem fcells_one (L : List (FT × Option Addr × Nat)) : ∀ u ∈ fcells L, u.oneCell' = true := by
  intro u hu
  obtain ⟨y, _, hy⟩ := List.mem_flatMap.1 hu
  simp only [fourL, List.mem_cons, List.not_mem_nil, or_false] at hy
  rcases hy with rfl | rfl | rfl | rfl <;> rfl
theorem fcells_app (L M : List (FT × Option Addr × Nat)) : fcells (L ++ M) = fcells L ++ fcells M := by simp [fcells]
theorem Fd.nilc {w : World} {P : Nat → Prop} {T : FT} {cap : Nat} (h : Fd w P T none cap) : cap = 0 := by
  cases h with | mk vs len nil room most lies sub => exact nil rfl
/-- Its cells. -/
theorem FdL.cells {w : World} {P : Nat → Prop} {x : FS} (h : FdL w P x) : ∃ L : List (FT × Option Addr × Nat), L.map (·.1) = x.1 ∧ (∀ y ∈ L, Fd w P y.1 y.2.1 y.2.2) ∧ (x.1 ≠ [] → ∃ b off, x.2.1 = some ⟨b, off, none⟩ ∧ P b) ∧ (∀ ad, x.2.1 = some ad → ∀ j u, (fcells L)[j]? = some u → w.cell? (ad.add j) = some u) ∧ (fcells L).length = x.1.length * 4 := by
  obtain ⟨l, a, cap⟩ := x
  cases h with
  | mk vs len nil room most lies sub =>
    have hl : (FT.mk ⟨#[]⟩ 0 ⟨#[]⟩ l).kids = l := rfl
    refine ⟨(List.range l.length).map fun i => (l.getD i (.mk ⟨#[]⟩ 0 ⟨#[]⟩ []), vs i), ?_, fun y hy => ?_, fun hne => ?_, fun ad e j u hu => ?_, ?_⟩
    · apply List.ext_getElem
      · simp
      · intro i h1 h2
        simp at h1
        simp [h1]
    · obtain ⟨i, hi, rfl⟩ := List.mem_map.1 hy
      have hi := List.mem_range.1 hi
      have := sub i hi
      simpa [FT.kids, hi] using this
    · obtain ⟨b, off, e, hp, _⟩ := lies 0 (by rw [hl]; exact List.length_pos_iff.2 hne)
      exact ⟨b, off, e, hp⟩
    · have hlen : ((List.range l.length).map fun i => ((l.getD i (.mk ⟨#[]⟩ 0 ⟨#[]⟩ []), vs i) : FT × Option Addr × Nat)).length = l.length := by simp
      have hj : j < l.length * 4 := by
        have := (List.getElem?_eq_some_iff.1 hu).1
        rw [fcells_len, hlen] at this
        exact this
      have hq : j / 4 < l.length := by omega
      have h1 := fcells_at ((List.range l.length).map fun i => ((l.getD i (.mk ⟨#[]⟩ 0 ⟨#[]⟩ []), vs i) : FT × Option Addr × Nat)) (j / 4) (by simpa using hq) (j % 4) (by omega)
      rw [show j / 4 * 4 + j % 4 = j by omega, hu] at h1
      obtain ⟨b, off, e2, _, h4⟩ := lies (j / 4) hq
      have e2 : a = some ⟨b, off, none⟩ := e2
      have e : a = some ad := e
      rw [e] at e2
      cases e2
      rw [add_off]
      simp only [List.getElem_map, List.getElem_range] at h1
      have hk : (FT.mk ⟨#[]⟩ 0 ⟨#[]⟩ l).kids[j / 4]'hq = l.getD (j / 4) (.mk ⟨#[]⟩ 0 ⟨#[]⟩ []) := by simp [FT.kids, hq]
      rw [hk] at h4
      obtain ⟨f0, f1, f2, f3⟩ := h4
      rcases (show j % 4 = 0 ∨ j % 4 = 1 ∨ j % 4 = 2 ∨ j % 4 = 3 by omega) with m | m | m | m
      · rw [m] at h1; rw [show off + j = off + j / 4 * 4 by omega, f0]; exact h1.symm
      · rw [m] at h1; rw [show off + j = off + j / 4 * 4 + 1 by omega, f1]; exact h1.symm
      · rw [m] at h1; rw [show off + j = off + j / 4 * 4 + 2 by omega, f2]; exact h1.symm
      · rw [m] at h1; rw [show off + j = off + j / 4 * 4 + 3 by omega, f3]; exact h1.symm
    · rw [fcells_len]; simp
/-- The first k slices' files. -/
def upto (ss : List FS) (k : Nat) : List FT := (ss.take k).flatMap (·.1)
theorem upto_next {ss : List FS} {k : Nat} (h : k < ss.length) : upto ss (k + 1) = upto ss k ++ (ss[k]).1 := by
  unfold upto
  rw [List.take_succ_eq_append_getElem h, List.flatMap_append]
  simp
theorem upto_le (ss : List FS) (k : Nat) : (upto ss k).length ≤ (upto ss ss.length).length := by
  unfold upto
  rw [List.take_length]
  conv => rhs; rw [← List.take_append_drop k ss, List.flatMap_append, List.length_append]
  omega
end Ft
/-- A row of the call's own that reads as the files l, whose own files lie in P. -/
def Ft.CRow (w0 : World) (P : Nat → Prop) (v : Value) (l : List Ft.FT) (w : World) : Prop :=
  (∃ L : List (Ft.FT × Option Addr × Nat), L.map (·.1) = l ∧ w.ownsRow w0.heap.size 25 4 v L.length (Ft.fcells L) ∧ ∀ y ∈ L, Ft.Fd w P y.1 y.2.1 y.2.2) ∧ Below w0.heap.size w0 w
theorem run_append_nothing {P : Program} (w : World) (t e ty : TypeId) (i : TypeInfo) (ht : P.underlying t = some (.slice e)) (hi : P.info? e = some i) (a : Option Addr) (n c : Nat) (h : n ≤ c) :
    (Builtin.append_ #[t, t] ty #[.slice a n c, .slice none 0 0]).run P w = .ok (.slice a n c) w := by
  have h0 : n + 0 ≤ c := h
  cases a with
  | none => simp [Builtin.append_, run_underlying ht, sizeOf, typeInfo, hi, Builtin.lenOf, h, run_firstCells_none]
  | some a => simp [Builtin.append_, run_underlying ht, sizeOf, typeInfo, hi, Builtin.lenOf, h, run_firstCells_none, storeCells]

set_option maxRecDepth 100000 in
set_option maxHeartbeats 4000000 in
theorem fconc_any (ss : List Ft.FS) (P : Nat → Prop) (ad : Addr) (cp : Nat) (w : World) (hP : ∀ b, P b → b < w.heap.size) (hn : ss.length ≤ 3)
    (hc : ∀ i (h : i < ss.length), w.cell? (ad.add i) = some (.slice (ss[i]).2.1 (ss[i]).1.length (ss[i]).2.2)) (hF : ∀ x ∈ ss, Ft.FdL w P x) (hs : ad.spot = none) :
    Calls Tryz.prog 91 #[.slice (some ad) ss.length cp] w fun e w' => ∃ v, e = .returned v ∧ Ft.CRow w P v (Ft.upto ss ss.length) w' := by
  have hlen : ∀ i (h : i < ss.length), (ss[i]).1.length ≤ 1048576 := fun i h => (hF _ (List.getElem_mem h)).room.1
  have hu : ∀ k, k ≤ ss.length → (Ft.upto ss k).length ≤ k * 1048576 := by
    intro k
    induction k with
    | zero => intro _; simp [Ft.upto]
    | succ k ih =>
      intro h
      have h1 := ih (by omega)
      have h2 := hlen k (by omega)
      rw [Ft.upto_next (by omega), List.length_append]
      omega
  obtain ⟨i0, hi0, hz0, hz1, hz2⟩ := info_parts Tryz.infoFile
  obtain ⟨ab, ao, asp⟩ := ad
  obtain rfl : asp = none := hs
  have HC : Hid (∀ i (h : i < ss.length), w.cell? ⟨ab, ao + i, none⟩ = some (.slice (ss[i]).2.1 (ss[i]).1.length (ss[i]).2.2)) := fun i h => by
    have := hc i h
    rw [Ft.add_off] at this
    exact this
  have HF : Hid _ := hF
  have HU : Hid _ := hu
  have HLn : Hid _ := hlen
  have HP : Hid _ := hP
  clear hc hF hu hlen hP
  go_enter Tryz.func91, Tryz.ntmps91
  go_wp2_with fail
  go_loopw [3, 5, 11] (fun v3 _ iv wr => ∃ i : Nat, i ≤ ss.length ∧ iv = .int .i64 (i : Int) ∧ v3 = .int .i64 ((Ft.upto ss i).length : Int) ∧ wr = w) (fun _ _ iv _ => ss.length - (intOf iv).toNat)
  case atStart => exact ⟨0, Nat.zero_le _, rfl, rfl, rfl⟩
  case round =>
    obtain ⟨i, hi, rfl, rfl, hw⟩ := hrel
    obtain rfl : w = wr := hw.symm
    by_cases hlt : i < ss.length
    · have i1 : (i : Int) < (ss.length : Int) := by omega
      have c1 := HC.out i hlt
      have u1 := HU.out (i + 1) (by omega)
      have HE : Hid ((Ft.upto ss (i + 1)).length = (Ft.upto ss i).length + (ss[i]).1.length) := by show _ = _; rw [Ft.upto_next hlt, List.length_append]
      have hb : (Ft.upto ss i).length + (ss[i]).1.length ≤ 3145728 := by have := HE.out; omega
      clear u1
      generalize ss[i] = x at *
      generalize hUi : (Ft.upto ss i).length = n at *
      clear hUi
      go_wp2_with fail
      refine ⟨⟨i + 1, by omega, by go_num, ?_, trivial⟩, by simp [intOf]; omega⟩
      rw [HE.out]
      simp
    · obtain rfl : i = ss.length := by omega
      have i1 : ¬ (ss.length : Int) < (ss.length : Int) := by omega
      have hb : (Ft.upto ss ss.length).length ≤ 3145728 := by have := HU.out ss.length (Nat.le_refl _); omega
      have HG : Hid (Calls Tryz.prog 121 #[.slice none 0 0, .int .i64 ((Ft.upto ss ss.length).length : Int)] w fun e w' => ∃ v, e = .returned v ∧ Ft.CRow w P v [] w') := by
        by_cases h0 : (Ft.upto ss ss.length).length = 0
        · show Calls _ _ _ _ _
          rw [h0]
          refine (fgrow_zero w).mono ?_
          rintro e w' ⟨rfl, rfl⟩
          exact ⟨_, rfl, ⟨[], rfl, World.ownsRow_nil _ _ _ _, fun y h => (by cases h)⟩, Below.refl _ _⟩
        · refine (fgrow_any _ w (by omega) (by omega)).mono ?_
          rintro e w' ⟨v, rfl, ho, hb⟩
          exact ⟨v, rfl, ⟨[], rfl, ho, fun y h => (by cases h)⟩, hb⟩
      have HLm : Hid (∀ i, i ≤ ss.length → (Ft.upto ss i).length ≤ 3145728) := fun i h => by have := HU.out i h; have := Nat.mul_le_mul_right 1048576 (show i ≤ 3 by omega); omega
      clear HU HLn
      generalize hN : (Ft.upto ss ss.length).length = N at *
      go_wp2_with fail
      refine Calls.mono HG.out ?_
      clear HG
      rintro e w2 ⟨v6, rfl, hR⟩
      have HR : Hid _ := hR
      clear hR
      go_wp2_with fail
      go_loopw [6, 8, 27] (fun v6 _ iv w3 => ∃ i : Nat, i ≤ ss.length ∧ iv = .int .i64 (i : Int) ∧ Hid (Ft.CRow w P v6 (Ft.upto ss i) w3)) (fun _ _ iv _ => ss.length - (intOf iv).toNat)
      case atStart => exact ⟨0, Nat.zero_le _, rfl, HR⟩
      case round =>
        obtain ⟨i, hi, rfl, HK⟩ := hrel
        obtain ⟨⟨L, h1, h2, h3⟩, hB⟩ := HK.out
        have hLn : L.length = (Ft.upto ss i).length := by rw [← h1]; simp
        have hLm := HLm.out i hi
        have hsz := hB.size
        obtain ⟨a6, n6, c6, rfl, hn6⟩ : ∃ a6 n6 c6, u6 = .slice a6 n6 c6 ∧ n6 ≤ c6 := by
          rcases h2.2 with ⟨hv, hz⟩ | ⟨g, cap, cur, hv, _, _, hcap, _⟩
          · exact ⟨_, _, _, hv, Nat.le_refl _⟩
          · exact ⟨_, _, _, hv, hcap⟩
        by_cases hlt : i < ss.length
        · have i1 : (i : Int) < (ss.length : Int) := by omega
          have hxb : ab < w.heap.size := World.block_lt_of_cell? w _ (HC.out i hlt)
          have c1 := (hB.cell (p := ⟨ab, ao + i, none⟩) hxb).trans (HC.out i hlt)
          have hFx := (HF.out _ (List.getElem_mem hlt)).underP HP.out hB
          have hm1 := HLm.out (i + 1) (by omega)
          have HE : Hid (Ft.upto ss (i + 1) = Ft.upto ss i ++ (ss[i]).1) := Ft.upto_next hlt
          rw [HE.out, List.length_append] at hm1
          generalize ss[i] = x at *
          obtain ⟨xl, xa, xc⟩ := x
          obtain ⟨M, m1, m2, m3, m4, m5⟩ := hFx.cells
          have m1 : M.map (·.1) = xl := m1
          have hMl : M.length = xl.length := by rw [← m1]; simp
          have hm1 : (Ft.upto ss i).length + xl.length ≤ 3145728 := hm1
          have hb7 : L.length + xl.length ≤ maxLen := by unfold maxLen; omega
          have hb8 : ((L.length + xl.length) + (L.length + xl.length) / 4 + 192) * 64 ≤ 281474976710656 := by omega
          have HK1 : Hid (∀ (v' : Value) (w' : World), w'.ownsRow w.heap.size 25 4 v' (L.length + M.length) (Ft.fcells L ++ Ft.fcells M) → Below w.heap.size w w' → wr.heap.size ≤ w'.heap.size → (∀ k, P k → w'.heap[k]? = wr.heap[k]?) → Ft.CRow w P v' (Ft.upto ss (i + 1)) w') := fun v' w' ho hb _ hk => by
            refine ⟨⟨L ++ M, ?_, by rw [Ft.fcells_app, List.length_append]; exact ho, fun y hy => ?_⟩, hb⟩
            · rw [HE.out, List.map_append, h1, m1]
            · rcases List.mem_append.1 hy with h | h
              · exact (h3 y h).same hk (fun _ h => h)
              · exact (m2 y h).same hk (fun _ h => h)
          cases xa with
          | none =>
            have hx0 : xl = [] := Classical.byContradiction fun hne => by
              obtain ⟨_, _, e, _⟩ := m3 hne
              cases e
            have hc0 : xc = 0 := Ft.Fd.nilc hFx
            subst hx0
            subst hc0
            have hM0 : M = [] := List.eq_nil_of_length_eq_zero (by rw [hMl]; rfl)
            subst hM0
            have HR1 : Hid (Ft.CRow w P (.slice a6 n6 c6) (Ft.upto ss (i + 1)) wr) := HK1.out _ _ (by simpa [Ft.fcells] using h2) hB (Nat.le_refl _) (fun _ _ => rfl)
            clear HK HK1 HE hFx m1 m2 m3 m4 m5 hMl h1 h2 h3 hB hm1 hLn hb7 hb8
            go_wp2_with (at_builtin; refine Lib.wpList_append_run _ rfl _ _ _ _ rfl _ _ rfl rfl _ _ (run_append_nothing _ _ _ _ i0 Tryz.underlying23 hi0 _ _ _ hn6) ?_)
            go_roundw
            case rel => exact ⟨i + 1, by omega, by go_num, HR1⟩
            case measure => simp [intOf]; omega
          | some ad =>
            have HM : Hid (∀ j u, (Ft.fcells M)[j]? = some u → wr.cell? (ad.add j) = some u) := m4 ad rfl
            have HO : Hid _ := h2
            have hlen5 : (Ft.fcells M).length = xl.length * 4 := m5
            have HB : Hid (Below w.heap.size w wr) := hB
            have HMl : Hid (M.length = xl.length) := hMl
            clear HK HE hFx m1 m2 m3 m4 m5 hMl h1 h2 h3 hB hLn
            go_wp2_with (at_builtin; refine Ft.wpList_append_far _ rfl _ _ 23 rfl w.heap.size 25 i0 (.agg #[.string ⟨#[]⟩, .int .u8 0, .string ⟨#[]⟩, .slice none 0 0]) 4 64 Tryz.underlying23 hi0 hz0 hz1 hz2 rfl (by decide) _ _ _ rfl HO.out ad xl.length xc (Ft.fcells M) rfl hlen5 HM.out (Ft.fcells_one M) hb7 hb8 hsz ?_)
            intro v' w' own gr _ hat
            rw [← HMl.out] at own
            have hs' : wr.heap.size ≤ w'.heap.size := gr.size
            have hob : ∀ k, (Value.slice a6 n6 c6).ownBlock = some k → w.heap.size ≤ k := fun k e => (World.ownsRow.lt HO.out k e).1
            have hB' : Below w.heap.size w w' := HB.out.grown gr hsz (fun k e => hob k e)
            have HR1 : Hid (Ft.CRow w P v' (Ft.upto ss (i + 1)) w') := HK1.out _ _ own hB' hs' (fun k hk => gr.block k (by have := HP.out k hk; omega) (fun e => by have := hob k e.symm; have := HP.out k hk; omega))
            clear own gr hat hob hB' HK1 HM HO HB HMl
            go_wp2_with fail
            go_roundw
            case rel => exact ⟨i + 1, by omega, by go_num, HR1⟩
            case measure => simp [intOf]; omega
        · obtain rfl : i = ss.length := by omega
          have i1 : ¬ (ss.length : Int) < (ss.length : Int) := by omega
          have HR1 : Hid (Ft.CRow w P (.slice a6 n6 c6) (Ft.upto ss ss.length) wr) := HK.out
          clear HK h1 h2 h3 hB
          go_wp2_with fail
          go_ret
          exact ⟨.slice a6 n6 c6, rfl, HR1.out⟩
end Go.Proofs.YtfbhofomcenabaaGreatDoor
namespace Go.Proofs.YtfbhofomcenabaaGreatDoor
open Go Go.RowKit

namespace Ft
theorem FdL.take {w : World} {P : Nat → Prop} {l : List FT} {a : Option Addr} {cap : Nat} (h : FdL w P (l, a, cap)) (k : Nat) : FdL w P (l.take k, a, cap) := by
  cases h with
  | mk vs len nil room most lies sub =>
    have len : l.length ≤ 1048576 := len
    have room : l.length ≤ cap := room
    have ht : (l.take k).length ≤ l.length := by rw [List.length_take]; omega
    refine .mk vs (by show (l.take k).length ≤ _; omega) nil (by show (l.take k).length ≤ cap; omega) most (fun i hi => ?_) (fun i hi => ?_)
    · have hi' : i < l.length := by have : i < (l.take k).length := hi; omega
      obtain ⟨b, off, e, hp, h4⟩ := lies i hi'
      refine ⟨b, off, e, hp, ?_⟩
      have e : (FT.mk ⟨#[]⟩ 0 ⟨#[]⟩ (l.take k)).kids[i]'hi = (FT.mk ⟨#[]⟩ 0 ⟨#[]⟩ l).kids[i]'hi' := by simp [FT.kids]
      exact e ▸ h4
    · have hi' : i < l.length := by have : i < (l.take k).length := hi; omega
      have e : (FT.mk ⟨#[]⟩ 0 ⟨#[]⟩ (l.take k)).kids[i]'hi = (FT.mk ⟨#[]⟩ 0 ⟨#[]⟩ l).kids[i]'hi' := by simp [FT.kids]
      exact e ▸ sub i hi'
theorem FdL.drop {w : World} {P : Nat → Prop} {l : List FT} {ad ad' : Addr} {cap : Nat} (h : FdL w P (l, some ad, cap)) (k : Nat) (hk : k ≤ l.length) (h' : k < cap → ad' = ad.add (k * 4)) : FdL w P (l.drop k, some ad', cap - k) := by
  cases h with
  | mk vs len nil room most lies sub =>
    have len : l.length ≤ 1048576 := len
    have room : l.length ≤ cap := room
    have most : cap ≤ maxLen := most
    have hd : (l.drop k).length = l.length - k := List.length_drop
    refine .mk (fun i => vs (k + i)) (by show (l.drop k).length ≤ _; omega) (fun e => by cases e) (by show (l.drop k).length ≤ cap - k; omega) (by show cap - k ≤ _; omega) (fun i hi => ?_) (fun i hi => ?_)
    · have hi0 : i < (l.drop k).length := hi
      have hi' : k + i < l.length := by omega
      obtain ⟨b2, off2, e, hp, h4⟩ := lies (k + i) hi'
      have e : some ad = some ⟨b2, off2, none⟩ := e
      cases e
      refine ⟨b2, off2 + k * 4, by rw [h' (by omega), add_off], hp, ?_⟩
      have e : (FT.mk ⟨#[]⟩ 0 ⟨#[]⟩ (l.drop k)).kids[i]'hi = (FT.mk ⟨#[]⟩ 0 ⟨#[]⟩ l).kids[k + i]'hi' := by simp [FT.kids]
      rw [e, show off2 + k * 4 + i * 4 = off2 + (k + i) * 4 by omega]
      exact h4
    · have hi0 : i < (l.drop k).length := hi
      have hi' : k + i < l.length := by omega
      have e : (FT.mk ⟨#[]⟩ 0 ⟨#[]⟩ (l.drop k)).kids[i]'hi = (FT.mk ⟨#[]⟩ 0 ⟨#[]⟩ l).kids[k + i]'hi' := by simp [FT.kids]
      exact e ▸ sub (k + i) hi'
theorem FdL.none {w : World} {P : Nat → Prop} : FdL w P ([], none, 0) := fd_zero w P
theorem FdL.under {w w' : World} {P : Nat → Prop} {x : FS} (h : FdL w P x) (hP : ∀ b, P b → b < w.heap.size) (hb : Below w.heap.size w w') : FdL w' P x := FdL.underP h hP hb
end Ft

theorem conc3 (x0 x1 x2 : Ft.FS) (P : Nat → Prop) (w w1 : World) (hP : ∀ b, P b → b < w.heap.size) (hb : Below w.heap.size w w1) (h0 : Ft.FdL w P x0) (h1 : Ft.FdL w P x1) (h2 : Ft.FdL w P x2) (n0 n2 : Nat) (e0 : x0.1.length = n0) (e2 : x2.1.length = n2) :
    Calls Tryz.prog 91 #[.slice (some ⟨w1.heap.size, 0, none⟩) 3 3] (w1.alloc (.cells #[.slice x0.2.1 n0 x0.2.2, .slice x1.2.1 x1.1.length x1.2.2, .slice x2.2.1 n2 x2.2.2] 23)) fun e w' => ∃ v, e = .returned v ∧ Ft.CRow w P v (x0.1 ++ x1.1 ++ x2.1) w' := by
  subst e0
  subst e2
  obtain ⟨W, hW⟩ : ∃ W, W = w1.alloc (.cells #[.slice x0.2.1 x0.1.length x0.2.2, .slice x1.2.1 x1.1.length x1.2.2, .slice x2.2.1 x2.1.length x2.2.2] 23) := ⟨_, rfl⟩
  have hrow : W.heap[w1.heap.size]? = some (.cells #[.slice x0.2.1 x0.1.length x0.2.2, .slice x1.2.1 x1.1.length x1.2.2, .slice x2.2.1 x2.1.length x2.2.2] 23 (0, 0)) := by rw [hW]; exact heap_alloc_new _ _
  have hs := hb.size
  have hB : Below w.heap.size w W := by rw [hW]; exact hb.alloc hs _
  rw [← hW]
  refine (fconc_any [x0, x1, x2] P ⟨w1.heap.size, 0, none⟩ 3 W (fun b h => by have := hP b h; have := hB.size; omega) (by simp) (fun i hi => ?_) (fun x hx => ?_) rfl).mono ?_
  · rw [Ft.add_off, cell_of_row W _ _ _ _ _ hrow]
    match i, hi with
    | 0, _ => rfl
    | 1, _ => rfl
    | 2, _ => rfl
  · simp only [List.mem_cons, List.not_mem_nil, or_false] at hx
    rcases hx with rfl | rfl | rfl
    · exact h0.underP hP hB
    · exact h1.underP hP hB
    · exact h2.underP hP hB
  · rintro e w' ⟨v, rfl, ⟨L, l1, l2, l3⟩, hb'⟩
    refine ⟨v, rfl, ⟨L, ?_, own_mono l2 hB.size, l3⟩, hB.trans (hb'.mono hB.size)⟩
    rw [l1]
    simp [Ft.upto]

set_option maxRecDepth 100000 in
set_option maxHeartbeats 2000000 in
theorem tswap_any (T : Ft.FT) (x : ByteArray) (a : Option Addr) (cap : Nat) (o : Ft.FS) (P : Nat → Prop) (w : World) (hP : ∀ b, P b → b < w.heap.size) (hN : Ft.Fd w P T a cap) (hr : Ft.RisN T.kids) (ho : Ft.FdL w P o) :
    Calls Tryz.prog 56 #[.slice a T.kids.length cap, .string x, .slice o.2.1 o.1.length o.2.2] w fun e w' => ∃ v q, e = .returned v ∧ Ft.PosN T.kids x q ∧ Ft.CRow w P v (T.kids.take q ++ o.1 ++ T.kids.drop (if Ft.atN T.kids x q = true then q + 1 else q)) w' := by
  have C := tfind_any T x a cap w (hN.mono hP) hr
  have HN : Hid (Ft.FdL w P (T.kids, a, cap)) := by
    show Ft.Fd w P _ _ _
    cases hN with
    | mk vs len nil room most lies sub => exact .mk vs len nil room most lies sub
  have HO : Hid _ := ho
  have HP : Hid _ := hP
  have hl1 := hN.room
  have hnil : a = none → cap = 0 := fun e => by subst e; exact Ft.Fd.nilc hN
  generalize T.kids = l at *
  clear hN hr ho hP
  go_enter Tryz.func56, Tryz.ntmps56
  go_wp2_with fail
  refine C.mono ?_
  rintro e w1 ⟨q, rfl, hp, b1⟩
  have hq := hp.1
  obtain ⟨hl1, hl2, hl3⟩ := hl1
  unfold maxLen at hl3
  have HPq : Hid _ := hp
  have HB : Hid _ := b1
  clear C hp b1
  have htk : (l.take q).length = q := by rw [List.length_take]; omega
  have HTk : Hid _ := htk
  clear htk
  cases a with
  | none =>
    obtain rfl := hnil rfl
    obtain rfl : l = [] := List.eq_nil_of_length_eq_zero (by omega)
    obtain rfl : q = 0 := by simpa using hq
    have hat : Ft.atN [] x 0 = false := rfl
    rw [hat]
    have C2 := conc3 ([], none, 0) o ([], none, 0) P w w1 HP.out HB.out Ft.FdL.none HO.out Ft.FdL.none 0 0 rfl rfl
    have HC2 : Hid _ := C2
    clear C2 hnil hl1 hl2 hl3 hq
    simp only [List.length_nil]
    go_wp2_with fail
    refine Calls.mono HC2.out ?_
    rintro e w2 ⟨v, rfl, hR⟩
    have HR : Hid _ := hR
    clear HC2 hR
    go_wp2_with fail
    go_ret
    exact ⟨v, 0, rfl, HPq.out, by rw [hat]; exact HR.out⟩
  | some ad =>
    cases hat : Ft.atN l x q
    · by_cases hcq : cap = q
      · obtain rfl : q = cap := hcq.symm
        have D2 := HN.out.drop (ad' := ad) q hq (fun h => by omega)
        rw [Nat.sub_self] at D2
        have C2 := conc3 (l.take q, some ad, q) o (l.drop q, some ad, 0) P w w1 HP.out HB.out (HN.out.take q) HO.out D2 q 0 HTk.out (by show (l.drop q).length = 0; rw [List.length_drop]; omega)
        have HC2 : Hid _ := C2
        have HAt : Hid _ := hat
        clear C2 D2 hnil hcq hat
        go_wp2_with fail
        refine Calls.mono HC2.out ?_
        rintro e w2 ⟨v, rfl, hR⟩
        have HR : Hid _ := hR
        clear HC2 hR
        go_wp2_with fail
        go_ret
        exact ⟨v, q, rfl, HPq.out, by rw [HAt.out]; exact HR.out⟩
      · have C2 := conc3 (l.take q, some ad, cap) o (l.drop q, some (ad.add (q * 4)), cap - q) P w w1 HP.out HB.out (HN.out.take q) HO.out (HN.out.drop q hq (fun _ => rfl)) q (l.length - q) HTk.out List.length_drop
        have HC2 : Hid _ := C2
        have HAt : Hid _ := hat
        have hne : ¬ q = cap := fun e => hcq e.symm
        clear C2 hnil hat
        go_wp2_with fail
        refine Calls.mono HC2.out ?_
        rintro e w2 ⟨v, rfl, hR⟩
        have HR : Hid _ := hR
        clear HC2 hR
        go_wp2_with fail
        go_ret
        exact ⟨v, q, rfl, HPq.out, by rw [HAt.out]; exact HR.out⟩
    · have hql : q < l.length := by
        rcases Nat.lt_or_ge q l.length with g | g
        · exact g
        · unfold Ft.atN at hat; rw [List.getElem?_eq_none g] at hat; cases hat
      have hne : ¬ cap = q := by omega
      have HAt : Hid _ := hat
      have hq1 : ((1 : Nat) : Int) ≤ ((l.length - q : Nat) : Int) := by omega
      have hq2 : ((1 : Nat) : Int) ≤ ((cap - q : Nat) : Int) := by omega
      have hne2 : ¬ q = cap := by omega
      clear hnil hat
      by_cases hc1 : cap - q = 1
      · have D2 := HN.out.drop (ad' := ad.add (q * 4)) (q + 1) (by omega) (fun h => by omega)
        rw [show cap - (q + 1) = 0 by omega] at D2
        have C2 := conc3 (l.take q, some ad, cap) o (l.drop (q + 1), some (ad.add (q * 4)), 0) P w w1 HP.out HB.out (HN.out.take q) HO.out D2 q (l.length - q - 1) HTk.out (by show (l.drop (q + 1)).length = _; rw [List.length_drop]; omega)
        have HC2 : Hid _ := C2
        clear C2 D2
        go_wp2_with fail
        refine Calls.mono HC2.out ?_
        rintro e w2 ⟨v, rfl, hR⟩
        have HR : Hid _ := hR
        clear HC2 hR
        go_wp2_with fail
        go_ret
        exact ⟨v, q, rfl, HPq.out, by rw [HAt.out, if_pos rfl]; exact HR.out⟩
      · have D2 := HN.out.drop (ad' := (ad.add (q * 4)).add 4) (q + 1) (by omega) (fun _ => by rw [Deep.add_add]; congr 1; omega)
        rw [show cap - (q + 1) = cap - q - 1 by omega] at D2
        have C2 := conc3 (l.take q, some ad, cap) o (l.drop (q + 1), some ((ad.add (q * 4)).add 4), cap - q - 1) P w w1 HP.out HB.out (HN.out.take q) HO.out D2 q (l.length - q - 1) HTk.out (by show (l.drop (q + 1)).length = _; rw [List.length_drop]; omega)
        have HC2 : Hid _ := C2
        clear C2 D2
        go_wp2_with fail
        refine Calls.mono HC2.out ?_
        rintro e w2 ⟨v, rfl, hR⟩
        have HR : Hid _ := hR
        clear HC2 hR
        go_wp2_with fail
        go_ret
        exact ⟨v, q, rfl, HPq.out, by rw [HAt.out, if_pos rfl]; exact HR.out⟩
end Go.Proofs.YtfbhofomcenabaaGreatDoor
