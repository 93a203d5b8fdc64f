/- A tree with other files in a folder: plain; and a row of files as a tree's. What trees.holder answers: what stands at a path without its last name. Trees with a file put in or taken out, plain; and what Put and Drop answer. What trees.with answers. One step of trees.with: the kid at the first name, the rest of the path, and the swap of one file. A swap that puts a file in, or takes one out. -/
import Derived.Test.YtfbhofomcenabaaGreatDoorTW
import Derived.Test.YtfbhofomcenabaaGreatDoorPlainCmp
import Derived.Test.YtfbhofomcenabaaGreatDoorTS
import Derived.Deep.RegionHeld3
namespace Go.Proofs.YtfbhofomcenabaaGreatDoor
open Go Go.RowKit

namespace Ft
/-- The first file of that name, another one in its place. -/
def setN : List FT → ByteArray → FT → List FT
  | [], _, _ => []
  | y :: r, x, V => if (y.nm.toList == x.toList) = true then V :: r else y :: setN r x V
theorem setN_len : ∀ (l : List FT) (x : ByteArray) (V : FT), (setN l x V).length = l.length
  | [], _, _ => rfl
  | y :: r, x, V => by
    rw [setN]
    split
    · rfl
    · rw [List.length_cons, setN_len r x V, List.length_cons]
/-- A tree whose folder at a path has other files. -/
def withR : FT → List ByteArray → List FT → FT
  | T, [], fs => .mk T.nm T.k T.d fs
  | T, x :: r, fs => match kidN T.kids x with
    | some V => .mk T.nm T.k T.d (setN T.kids x (withR V r fs))
    | none => T
/-- No name ahead of the place is the name. -/
theorem pos_ahead {l : List FT} {x : ByteArray} {q : Nat} (hp : PosN l x q) : ∀ i (h : i < l.length), i < q → ((l[i]).nm.toList == x.toList) = false := fun i h hi => by
  have h1 := hp.2.1 i h hi
  cases e : ((l[i]).nm.toList == x.toList)
  · rfl
  · have e2 : (l[i]).nm.toList = x.toList := by simpa using e
    unfold ltN at h1
    rw [e2] at h1
    have h2 := (Pl.less_lex x.toList x.toList).symm.trans h1
    have h3 : Pl.lex Pl.cmpB x.toList x.toList = 0 := (Pl.cmpB_cmp.lex.eq _ _).2 rfl
    rw [h3] at h2
    exact absurd h2 (by decide)
theorem setN_at : ∀ (l : List FT) (x : ByteArray) (V : FT) (q : Nat), (∀ i (h : i < l.length), i < q → ((l[i]).nm.toList == x.toList) = false) → atN l x q = true → l.take q ++ [V] ++ l.drop (q + 1) = setN l x V ∧ kidN l x = l[q]?
  | [], x, V, q, _, ha => by unfold atN at ha; simp at ha
  | y :: r, x, V, 0, _, ha => by
    have ha : (y.nm.toList == x.toList) = true := ha
    rw [setN, if_pos ha, kidN, if_pos ha]
    exact ⟨rfl, rfl⟩
  | y :: r, x, V, q + 1, h, ha => by
    have h0 : (y.nm.toList == x.toList) = false := h 0 (by simp) (by omega)
    have ha : atN r x q = true := ha
    obtain ⟨i1, i2⟩ := setN_at r x V q (fun i hi hq => h (i + 1) (by simpa using hi) (by omega)) ha
    rw [setN, if_neg (by rw [h0]; simp), kidN, if_neg (by rw [h0]; simp), ← i1, i2]
    exact ⟨rfl, rfl⟩
/-- A row of the call's own reads as a slice of files. -/
theorem CRow.fdl {w0 w : World} {P : Nat → Prop} {v : Value} {l : List FT} (h : CRow w0 P v l w) (hl : l.length ≤ 1048576) : ∃ a c, v = .slice a l.length c ∧ FdL w (fun b => P b ∨ (w0.heap.size ≤ b ∧ b < w.heap.size)) (l, a, c) := by
  obtain ⟨⟨L, h1, h2, h3⟩, _⟩ := h
  have hn : L.length = l.length := by rw [← h1]; simp
  rcases h2.2 with ⟨hv, hz⟩ | ⟨g, cap, cur, hv, hb, hg, hcap, hmax, hsize, htake⟩
  · have hl0 : l = [] := List.eq_nil_of_length_eq_zero (by omega)
    subst hl0
    exact ⟨none, 0, by rw [hv]; rfl, FdL.none⟩
  · have hk : ∀ i (hi : i < l.length), ∃ h' : i < L.length, l[i] = (L[i]).1 := fun i hi => ⟨by omega, by simp only [← h1, List.getElem_map]⟩
    refine ⟨some ⟨g, 0, none⟩, cap, by rw [hv, hn], ?_⟩
    refine .mk (fun i => ((L[i]?).map (·.2)).getD (none, 0)) hl (fun h => by cases h) (by show l.length ≤ cap; omega) hmax (fun i hi => ⟨g, 0, rfl, .inr ⟨hb, lt_of_block hg⟩, ?_⟩) (fun i hi => ?_)
    · obtain ⟨hi', e⟩ := hk i hi
      have key : ∀ j, j < 4 → w.cell? ⟨g, 0 + i * 4 + j, none⟩ = (fourL (L[i]))[j]? := fun j hj => by
        subst hv
        rw [Nat.zero_add, h2.cellAt (i * 4 + j) (by omega)]; exact fcells_at L i hi' j hj
      have e' : (FT.mk ⟨#[]⟩ 0 ⟨#[]⟩ l).kids[i]'hi = (L[i]).1 := e
      rw [e']
      simp only [List.getElem?_eq_getElem hi', Option.map_some, Option.getD_some]
      exact ⟨key 0 (by omega), key 1 (by omega), key 2 (by omega), key 3 (by omega)⟩
    · obtain ⟨hi', e⟩ := hk i hi
      have e' : (FT.mk ⟨#[]⟩ 0 ⟨#[]⟩ l).kids[i]'hi = (L[i]).1 := e
      rw [e']
      simp only [List.getElem?_eq_getElem hi', Option.map_some, Option.getD_some]
      exact (h3 _ (List.getElem_mem hi')).mono (fun b hp => .inl hp)
end Ft
end Go.Proofs.YtfbhofomcenabaaGreatDoor
namespace Go.Proofs.YtfbhofomcenabaaGreatDoor
open Go.RowKit

namespace Ft
/-- What stands at a path without its last name, or the error. -/
def holdR (T : FT) (p : List ByteArray) : Sum Nat FT := if rightT T = true then (if p.length = 0 then .inl 2 else lookR T (p.take (p.length - 1))) else .inl 30
end Ft

set_option maxRecDepth 100000 in
set_option maxHeartbeats 4000000 in
theorem tholder_any (P : Nat → Prop) (T : Ft.FT) (p : List ByteArray) (a ap : Option Addr) (cap cp : Nat) (w : World) (hPP : ∀ b, P b → b < w.heap.size) (hN : Ft.Fd w P T a cap) (hz : Ft.szT T = true) (hP : Strs w ap cp p) :
    Calls Tryz.prog 54 #[Ft.fdV T a cap, .slice ap p.length cp] w fun e w' => ∃ U b c code, e = .returned (.tuple #[Ft.fdV U b c, .int .i64 code]) ∧ Hid (Ft.FindIs (Ft.holdR T p) U code ∧ Ft.Fd w' P U b c ∧ Below w.heap.size w w') := by
  obtain ⟨W, hW⟩ : ∃ W, W = (w.alloc (.cells (Ft.fdA T a cap) 25)).alloc (.cells #[.string ⟨#[]⟩, .int .u8 0, .string ⟨#[]⟩, .slice none 0 0] 25) := ⟨_, rfl⟩
  have hB : Below w.heap.size w W := by rw [hW]; exact ((Below.refl _ _).alloc (Nat.le_refl _) _).alloc (by simp) _
  have hF : Ft.FnP P w T a cap W := by
    refine ⟨?_, hN.underP hPP hB, ?_, hB⟩
    · rw [hW]; exact (Ft.file_new w T a cap).alloc _
    · rw [hW]
      have := Ft.file_zero (w.alloc (.cells (Ft.fdA T a cap) 25))
      simpa using this
  have HW : Hid (W = (w.alloc (.cells (Ft.fdA T a cap) 25)).alloc (.cells #[.string ⟨#[]⟩, .int .u8 0, .string ⟨#[]⟩, .slice none 0 0] 25)) := hW
  have HF : Hid (Ft.FnP P w T a cap W ∧ Strs w ap cp p ∧ Ft.Fd w P T a cap ∧ (∀ b, P b → b < w.heap.size)) := ⟨hF, hP, hN, hPP⟩
  have C1 := tchk T a cap W ((hN.underP hPP hB).mono (fun b h => Nat.lt_of_lt_of_le (hPP b h) hB.size)) hz
  have hpl := hP.len
  have hpr := hP.room
  have hTl := hN.room.1
  clear hW hB hF hN hP hPP
  simp only [Ft.fdA] at HW
  simp only [Ft.fdV, Ft.fdA] at C1 ⊢
  go_enter Tryz.func54, Tryz.ntmps54
  go_wp2_with fail
  rw [← HW.out]
  clear HW
  refine C1.mono ?_
  rintro e w1 ⟨⟨v1, rfl⟩, b1⟩
  have hq1 : W.heap.size ≤ w1.heap.size := b1.size
  have hqW : w.heap.size + 1 < W.heap.size := HF.out.1.2.2.1.lt
  have hF1 : Ft.FnP P w T a cap w1 := ⟨HF.out.1.1.under b1, HF.out.1.2.1.underP HF.out.2.2.2 (b1.mono (by omega)), HF.out.1.2.2.1.under b1, HF.out.1.2.2.2.trans (b1.mono (by omega))⟩
  have HF1 : Hid (Ft.FnP P w T a cap w1 ∧ Strs w ap cp p) := ⟨hF1, HF.out.2.1⟩
  have HPP : Hid (∀ b, P b → b < w.heap.size) := HF.out.2.2.2
  obtain ⟨q0, q1, q2, q3⟩ := hF1.1.four
  have z0 : w1.cell? ⟨w.heap.size + 1, 0, none⟩ = some (.string ⟨#[]⟩) := hF1.2.2.1.four.c0
  have z1 : w1.cell? ⟨w.heap.size + 1, 1, none⟩ = some (.int .u8 0) := hF1.2.2.1.four.c1
  have z2 : w1.cell? ⟨w.heap.size + 1, 2, none⟩ = some (.string ⟨#[]⟩) := hF1.2.2.1.four.c2
  have z3 : w1.cell? ⟨w.heap.size + 1, 3, none⟩ = some (.slice none 0 0) := hF1.2.2.1.four.c3
  have zf := hF1.2.2.1.frozen
  clear hF1 HF b1 C1
  cases hr : Ft.rightT T
  · have HE : Hid (Ft.holdR T p = .inl 30) := by show _ = _; unfold Ft.holdR; rw [hr]; rfl
    have HC30 : Ft.lstC T = 30 := by unfold Ft.lstC; rw [hr]; rfl
    rw [HC30]
    clear HC30
    go_wp2_with fail
    have K := Ft.fnp_end HPP.out HF1.out.1 (Ft.fd_zero w1 _)
    refine bodyPost_ret (Ft.results_fil rfl _ _ (w.heap.size + 1) Ft.zF none 0 rfl K.1) rfl ?_
    rw [HE.out]
    exact ⟨Ft.zF, none, 0, 30, rfl, ⟨⟨rfl, rfl⟩, Ft.fd_zero _ _, K.2.2⟩⟩
  · have HC0 : Ft.lstC T = 0 := by unfold Ft.lstC; rw [hr]; rfl
    rw [HC0]
    by_cases hp0 : p.length = 0
    · have HE : Hid (Ft.holdR T p = .inl 2) := by show _ = _; unfold Ft.holdR; rw [hr, if_pos rfl, if_pos hp0]
      clear hr HC0
      rw [hp0]
      go_wp2_with fail
      have K := Ft.fnp_end HPP.out HF1.out.1 (Ft.fd_zero w1 _)
      refine bodyPost_ret (Ft.results_fil rfl _ _ (w.heap.size + 1) Ft.zF none 0 rfl K.1) rfl ?_
      rw [HE.out]
      exact ⟨Ft.zF, none, 0, 2, rfl, ⟨⟨rfl, rfl⟩, Ft.fd_zero _ _, K.2.2⟩⟩
    · obtain ⟨pb, po, rfl⟩ : ∃ pb po, ap = some ⟨pb, po, none⟩ := by obtain ⟨pb, po, e, _⟩ := HF1.out.2.cells 0 (by omega); exact ⟨pb, po, e⟩
      have HG : Hid (Ft.holdR T p = Ft.lookR T (p.take (p.length - 1))) := by show _ = _; unfold Ft.holdR; rw [hr, if_pos rfl, if_neg hp0]
      have HRb := Ft.right_bel hr
      have hlt : (p.take (p.length - 1)).length = p.length - 1 := by rw [List.length_take]; omega
      have HT : Hid (∀ V, Below w1.heap.size w1 V → Calls Tryz.prog 57 #[.agg #[.string T.nm, .int .u8 (T.k : Int), .string T.d, .slice a T.kids.length cap], .slice (some ⟨pb, po, none⟩) (p.length - 1) cp] V (Ft.FndP P V (Ft.lookR T (p.take (p.length - 1))))) := fun V hV => by
        have h := tlookP_any P T (p.take (p.length - 1)) a (some ⟨pb, po, none⟩) cap cp V (fun b q => by have := HPP.out b q; have := hV.size; omega) (HF1.out.1.2.1.underP HPP.out (hV.mono (by omega))) (((HF1.out.2.below HF1.out.1.2.2.2).take _).below hV) [] HRb
        rw [hlt] at h
        exact h
      obtain ⟨m, hm⟩ : ∃ m : Nat, p.length = m + 1 := ⟨p.length - 1, by omega⟩
      have hm1 : p.length - 1 = m := by omega
      have HTm : Hid (∀ V, Below w1.heap.size w1 V → Calls Tryz.prog 57 #[.agg #[.string T.nm, .int .u8 (T.k : Int), .string T.d, .slice a T.kids.length cap], .slice (some ⟨pb, po, none⟩) m cp] V (Ft.FndP P V (Ft.lookR T (p.take m)))) := by
        have h := HT.out
        rw [hm1] at h
        exact h
      have HGm : Hid (Ft.holdR T p = Ft.lookR T (p.take m)) := by have h := HG.out; rw [hm1] at h; exact h
      have hmc : (m : Int) ≤ (cp : Int) := by omega
      have hmn : m ≤ cp := by omega
      have hm0 : (0 : Int) ≤ (m : Int) := by omega
      have hmb : m + 1 ≤ 8796093022208 := by omega
      have hmi : ((m + 1 : Nat) : Int) - 1 = (m : Int) := by omega
      rw [hm]
      clear hr HC0 HRb hlt HT HG hm1 hm hp0 hpl hpr
      go_wp2_with fail
      have hw1 : IntKind.i64.wrap (m : Int) = (m : Int) := by rw [IntKind.wrap_i64]; omega
      go_region_law (first
        | (go_simp; go_at_call 57; refine Calls.mono (HTm.out _ (Below.refl _ w1).drew) ?_; rintro e w2 ⟨U, b, c, code, rfl, K2⟩; simp only [Ft.fdV, Ft.fdA]; (have b2 : Below w1.heap.size w1 w2 := (Below.refl _ w1).drew.trans K2.out.2.2); (have hF2 : Ft.FileAt w2 (w.heap.size + 1) Ft.zF none 0 := Ft.FileAt.under HF1.out.1.2.2.1 b2); (have y0 : w2.cell? ⟨w.heap.size + 1, 0, none⟩ = some (.string ⟨#[]⟩) := hF2.four.c0); (have y1 : w2.cell? ⟨w.heap.size + 1, 1, none⟩ = some (.int .u8 0) := hF2.four.c1); (have y2 : w2.cell? ⟨w.heap.size + 1, 2, none⟩ = some (.string ⟨#[]⟩) := hF2.four.c2); (have y3 : w2.cell? ⟨w.heap.size + 1, 3, none⟩ = some (.slice none 0 0) := hF2.four.c3); (have yf := hF2.frozen)))
      have HU : Hid (Ft.FindIs (Ft.lookR T (p.take m)) U code ∧ Ft.Fd w2 P U b c ∧ Ft.FileAt w2 (w.heap.size + 1) Ft.zF none 0 ∧ Below w.heap.size w w2) := ⟨K2.out.1, K2.out.2.1, hF2, HF1.out.1.2.2.2.trans (b2.mono (by omega))⟩
      clear K2 hF2 b2 HTm y0 y1 y2 y3 yf q0 q1 q2 q3
      go_wp2_with fail
      have y0 := HU.out.2.2.1.putF U b c
      have y1 : Below w.heap.size w (Ft.putF w2 (w.heap.size + 1) U b c) := Ft.putF_below HU.out.2.2.2 (by omega)
      refine bodyPost_ret (Ft.results_fil rfl _ _ (w.heap.size + 1) U b c rfl y0) rfl ?_
      rw [HGm.out]
      refine ⟨U, b, c, code, rfl, ⟨HU.out.1, ?_, y1⟩⟩
      exact HU.out.2.1.same (fun x hx => Ft.putF_other (by have := HPP.out x hx; omega)) (fun x hx => hx)
end Go.Proofs.YtfbhofomcenabaaGreatDoor
namespace Go.Proofs.YtfbhofomcenabaaGreatDoor
open Go Go.RowKit

namespace Ft
/-- Files with others in the place of the one of that name, or where it would stand. -/
def insN : List FT → ByteArray → List FT → List FT
  | [], _, o => o
  | y :: r, x, o => if ltN y x = true then y :: insN r x o else if (y.nm.toList == x.toList) = true then o ++ r else o ++ y :: r
theorem insN_pos : ∀ (l : List FT) (x : ByteArray) (o : List FT) (q : Nat), PosN l x q → l.take q ++ o ++ l.drop (if atN l x q = true then q + 1 else q) = insN l x o
  | [], x, o, q, h => by
    have : q = 0 := by have := h.1; simpa using this
    subst this
    simp [insN]
  | y :: r, x, o, 0, h => by
    have h0 : ltN y x = false := h.2.2 0 (by simp) (Nat.le_refl _)
    have ha : atN (y :: r) x 0 = (y.nm.toList == x.toList) := rfl
    rw [insN, h0, ha]
    cases (y.nm.toList == x.toList) <;> simp
  | y :: r, x, o, q + 1, h => by
    have h0 : ltN y x = true := h.2.1 0 (by simp) (by omega)
    have ha : atN (y :: r) x (q + 1) = atN r x q := rfl
    have ih := insN_pos r x o q ⟨by have := h.1; simp at this; omega, fun i hi hq => h.2.1 (i + 1) (by simpa using hi) (by omega), fun i hi hq => h.2.2 (i + 1) (by simpa using hi) (by omega)⟩
    rw [insN, if_pos h0, ha, ← ih]
    cases atN r x q <;> rfl
theorem insN_len : ∀ (l : List FT) (x : ByteArray) (o : List FT), (insN l x o).length ≤ l.length + o.length
  | [], x, o => by rw [insN]; simp
  | y :: r, x, o => by
    have ih := insN_len r x o
    rw [insN]
    split
    · simp only [List.length_cons]; omega
    · split
      · simp; omega
      · simp; omega
/-- The last name of a path. -/
def lastN (p : List ByteArray) : ByteArray := p.getD (p.length - 1) ⟨#[]⟩
/-- The names ahead of the last one. -/
def headsN (p : List ByteArray) : List ByteArray := p.take (p.length - 1)
theorem heads_last {p : List ByteArray} (h : p.length ≠ 0) : headsN p ++ [lastN p] = p := by
  have h1 : p.length - 1 < p.length := by omega
  have h2 := List.take_succ_eq_append_getElem h1
  have e : p.length - 1 + 1 = p.length := by omega
  have h3 : lastN p = p[p.length - 1] := by unfold lastN; rw [List.getD_eq_getElem?_getD, List.getElem?_eq_getElem h1]; rfl
  rw [h3]
  unfold headsN
  rw [← h2, e, List.take_length]
/-- A file under another name. -/
def renT (f : FT) (x : ByteArray) : FT := .mk x f.k f.d f.kids
/-- What Put answers. -/
def putR (T : FT) (p : List ByteArray) (f : FT) : Sum Nat FT := match holdR T p with
  | .inl e => .inl e
  | .inr D => if D.k = 1 then (if rightT (withR T (headsN p) (insN D.kids (lastN p) [renT f (lastN p)])) = true then .inr (withR T (headsN p) (insN D.kids (lastN p) [renT f (lastN p)])) else .inl 30) else .inl 32
/-- What Drop answers. -/
def dropR (T : FT) (p : List ByteArray) : Sum Nat FT := match holdR T p with
  | .inl e => .inl e
  | .inr D => match lookR T p with
    | .inl e => .inl e
    | .inr _ => .inr (withR T (headsN p) (insN D.kids (lastN p) []))
theorem hold_ok {T D : FT} {p : List ByteArray} (h : holdR T p = .inr D) : rightT T = true ∧ p.length ≠ 0 ∧ lookR T (headsN p) = .inr D := by
  unfold holdR at h
  split at h
  · rename_i hr
    split at h
    · cases h
    · rename_i hp
      exact ⟨hr, hp, h⟩
  · cases h
theorem hold_of {T : FT} {p : List ByteArray} (hr : rightT T = true) (hp : p.length ≠ 0) : holdR T p = lookR T (headsN p) := by
  unfold holdR
  rw [if_pos hr, if_neg hp]
  rfl
theorem look_app : ∀ (p : List ByteArray) (T : FT) (q : List ByteArray), lookR T (p ++ q) = match lookR T p with
    | .inl e => .inl e
    | .inr D => lookR D q
  | [], T, q => by rw [lookR]; rfl
  | x :: r, T, q => by
    rw [List.cons_append, lookR, lookR]
    split
    · split
      · rfl
      · rename_i V _
        exact look_app r V q
    · rfl
theorem kid_nm : ∀ {l : List FT} {x : ByteArray} {V : FT}, kidN l x = some V → V.nm.toList = x.toList
  | [], x, V, h => by rw [kidN] at h; cases h
  | y :: r, x, V, h => by
    rw [kidN] at h
    split at h
    · rename_i e
      cases h
      simpa using e
    · exact kid_nm h
theorem kid_set : ∀ {l : List FT} {x : ByteArray} {V U : FT}, kidN l x = some V → U.nm.toList = x.toList → kidN (setN l x U) x = some U
  | [], x, V, U, h, _ => by rw [kidN] at h; cases h
  | y :: r, x, V, U, h, hU => by
    rw [kidN] at h
    rw [setN]
    split at h
    · rename_i e
      rw [if_pos e, kidN, if_pos (by simpa using hU)]
    · rename_i e
      rw [if_neg e, kidN, if_neg e]
      exact kid_set h hU
theorem kid_set_other : ∀ {l : List FT} {x z : ByteArray} {U : FT}, U.nm.toList = x.toList → z.toList ≠ x.toList → kidN (setN l x U) z = kidN l z
  | [], x, z, U, _, _ => by rw [setN]
  | y :: r, x, z, U, hU, hz => by
    rw [setN]
    split
    · rename_i e
      have e1 : ¬ (U.nm.toList == z.toList) = true := by simp only [beq_iff_eq]; rw [hU]; exact fun q => hz q.symm
      have e2 : ¬ (y.nm.toList == z.toList) = true := by simp only [beq_iff_eq] at e ⊢; rw [e]; exact fun q => hz q.symm
      rw [kidN, if_neg e1, kidN, if_neg e2]
    · rw [kidN, kidN]
      split
      · rfl
      · exact kid_set_other hU hz
theorem set_set : ∀ {l : List FT} {x : ByteArray} {U V : FT}, U.nm.toList = x.toList → setN (setN l x U) x V = setN l x V
  | [], x, U, V, _ => by rw [setN]
  | y :: r, x, U, V, hU => by
    by_cases e : (y.nm.toList == x.toList) = true
    · rw [setN, if_pos e, setN, if_pos (by simpa using hU), setN, if_pos e]
    · rw [setN, if_neg e, setN, if_neg e, set_set hU, setN, if_neg e]
theorem set_same : ∀ {l : List FT} {x : ByteArray} {V : FT}, kidN l x = some V → setN l x V = l
  | [], x, V, h => by rw [setN]
  | y :: r, x, V, h => by
    rw [kidN] at h
    rw [setN]
    split at h
    · rename_i e
      cases h
      rw [if_pos e]
    · rename_i e
      rw [if_neg e, set_same h]
theorem with_head (T : FT) (p : List ByteArray) (fs : List FT) : (withR T p fs).nm = T.nm ∧ (withR T p fs).k = T.k ∧ (withR T p fs).d = T.d := by
  cases p with
  | nil => exact ⟨rfl, rfl, rfl⟩
  | cons x r =>
    rw [withR]
    split <;> exact ⟨rfl, rfl, rfl⟩
theorem look_kid {T D : FT} {x : ByteArray} {r : List ByteArray} (h : lookR T (x :: r) = .inr D) : T.k = 1 ∧ ∃ V, kidN T.kids x = some V ∧ lookR V r = .inr D := by
  rw [lookR] at h
  split at h
  · rename_i hk
    split at h
    · cases h
    · rename_i V hV
      exact ⟨hk, V, hV, h⟩
  · cases h
theorem with_kid {T V : FT} {x : ByteArray} {r : List ByteArray} {fs : List FT} (h : kidN T.kids x = some V) : withR T (x :: r) fs = .mk T.nm T.k T.d (setN T.kids x (withR V r fs)) := by
  rw [withR, h]
theorem with_nm {V : FT} {x : ByteArray} (h : V.nm.toList = x.toList) (r : List ByteArray) (fs : List FT) : (withR V r fs).nm.toList = x.toList := by rw [(with_head V r fs).1]; exact h
theorem with_look : ∀ (p : List ByteArray) (T D : FT) (fs : List FT), lookR T p = .inr D → lookR (withR T p fs) p = .inr (.mk D.nm D.k D.d fs)
  | [], T, D, fs, h => by
    rw [lookR] at h
    cases h
    rw [lookR]; rfl
  | x :: r, T, D, fs, h => by
    obtain ⟨hk, V, hV, hD⟩ := look_kid h
    rw [with_kid hV, lookR]
    have hk2 : (FT.mk T.nm T.k T.d (setN T.kids x (withR V r fs))).k = 1 := hk
    have hs : kidN (FT.mk T.nm T.k T.d (setN T.kids x (withR V r fs))).kids x = some (withR V r fs) := kid_set hV (with_nm (kid_nm hV) r fs)
    rw [if_pos hk2, hs]
    exact with_look r V D fs hD
theorem with_with : ∀ (p : List ByteArray) (T D : FT) (fs gs : List FT), lookR T p = .inr D → withR (withR T p fs) p gs = withR T p gs
  | [], T, D, fs, gs, _ => rfl
  | x :: r, T, D, fs, gs, h => by
    obtain ⟨_, V, hV, hD⟩ := look_kid h
    have hs : kidN (FT.mk T.nm T.k T.d (setN T.kids x (withR V r fs))).kids x = some (withR V r fs) := kid_set hV (with_nm (kid_nm hV) r fs)
    rw [with_kid hV, with_kid hs, with_kid hV, with_with r V D fs gs hD]
    show FT.mk T.nm T.k T.d (setN (setN T.kids x (withR V r fs)) x (withR V r gs)) = _
    rw [set_set (with_nm (kid_nm hV) r fs)]
theorem with_same : ∀ (p : List ByteArray) (T D : FT), lookR T p = .inr D → withR T p D.kids = T
  | [], T, D, h => by
    rw [lookR] at h
    cases h
    exact (FT.eta T).symm
  | x :: r, T, D, h => by
    obtain ⟨_, V, hV, hD⟩ := look_kid h
    rw [with_kid hV, with_same r V D hD, set_same hV]
    exact (FT.eta T).symm
theorem lt_self {g : FT} {x : ByteArray} (h : g.nm.toList = x.toList) : ltN g x = false := by unfold ltN; rw [h]; exact less_irrefl _
theorem kid_ins : ∀ (l : List FT) (x : ByteArray) (g : FT), g.nm.toList = x.toList → kidN (insN l x [g]) x = some g
  | [], x, g, h => by rw [insN, kidN, if_pos (by simpa using h)]
  | y :: r, x, g, h => by
    rw [insN]
    split
    · rename_i e
      rw [kidN, if_neg (by rw [ne_less e]; simp)]
      exact kid_ins r x g h
    · split
      · rw [List.singleton_append, kidN, if_pos (by simpa using h)]
      · rw [List.singleton_append, kidN, if_pos (by simpa using h)]
theorem kid_ins_other : ∀ (l : List FT) (x z : ByteArray) (g : FT), g.nm.toList = x.toList → z.toList ≠ x.toList → kidN (insN l x [g]) z = kidN l z
  | [], x, z, g, h, hz => by
    rw [insN]
    exact if_neg (by simp only [beq_iff_eq]; rw [h]; exact fun q => hz q.symm)
  | y :: r, x, z, g, h, hz => by
    have hg : ¬ (g.nm.toList == z.toList) = true := by simp only [beq_iff_eq]; rw [h]; exact fun q => hz q.symm
    rw [insN]
    split
    · rw [kidN, kidN]
      split
      · rfl
      · exact kid_ins_other r x z g h hz
    · split
      · rename_i e
        have e2 : ¬ (y.nm.toList == z.toList) = true := by simp only [beq_iff_eq] at e ⊢; rw [e]; exact fun q => hz q.symm
        rw [List.singleton_append, kidN, if_neg hg, kidN, if_neg e2]
      · rw [List.singleton_append, kidN, if_neg hg]
theorem ins_ins : ∀ (l : List FT) (x : ByteArray) (g : FT) (o : List FT), g.nm.toList = x.toList → insN (insN l x [g]) x o = insN l x o
  | [], x, g, o, h => by
    show (if ltN g x = true then g :: insN [] x o else if (g.nm.toList == x.toList) = true then o ++ [] else o ++ g :: []) = o
    rw [if_neg (by rw [lt_self h]; simp), if_pos (by simpa using h), List.append_nil]
  | y :: r, x, g, o, h => by
    by_cases e : ltN y x = true
    · rw [insN, if_pos e, insN, if_pos e, ins_ins r x g o h, insN, if_pos e]
    · by_cases e2 : (y.nm.toList == x.toList) = true
      · rw [insN, if_neg e, if_pos e2, List.singleton_append, insN, if_neg (by rw [lt_self h]; simp), if_pos (by simpa using h), insN, if_neg e, if_pos e2]
      · rw [insN, if_neg e, if_neg e2, List.singleton_append, insN, if_neg (by rw [lt_self h]; simp), if_pos (by simpa using h), insN, if_neg e, if_neg e2]
theorem ins_none : ∀ (l : List FT) (x : ByteArray), kidN l x = none → insN l x [] = l
  | [], x, _ => rfl
  | y :: r, x, h => by
    rw [kidN] at h
    split at h
    · cases h
    · rename_i e
      rw [insN, if_neg e]
      split
      · rw [ins_none r x h]
      · rfl
/-- What stands elsewhere is not turned. -/
theorem look_other : ∀ (p : List ByteArray) (T D g : FT) (x : ByteArray) (q : List ByteArray), lookR T p = .inr D → g.nm.toList = x.toList → (∀ s, (q : List ByteArray) ++ s ≠ p ++ [x]) → (∀ s, (p ++ [x]) ++ s ≠ q) → lookR (withR T p (insN D.kids x [g])) q = lookR T q
  | [], T, D, g, x, [], _, _, h1, _ => absurd rfl (h1 [x])
  | [], T, D, g, x, y :: s, h, hg, _, h2 => by
    rw [lookR] at h
    cases h
    have hy : y.toList ≠ x.toList := fun e => by
      have : y = x := by rw [Lib.toList_data, Lib.toList_data] at e; exact bytes_eq e
      exact h2 s (by rw [this]; rfl)
    show lookR (FT.mk T.nm T.k T.d (insN T.kids x [g])) (y :: s) = _
    rw [lookR, lookR]
    have hk : kidN (FT.mk T.nm T.k T.d (insN T.kids x [g])).kids y = kidN T.kids y := kid_ins_other T.kids x y g hg hy
    rw [hk]
    rfl
  | w :: p, T, D, g, x, [], _, _, h1, _ => absurd rfl (h1 (w :: p ++ [x]))
  | w :: p, T, D, g, x, y :: s, h, hg, h1, h2 => by
    obtain ⟨hk, V, hV, hD⟩ := look_kid h
    rw [with_kid hV, lookR, lookR]
    by_cases hy : y.toList = w.toList
    · have hyw : y = w := by rw [Lib.toList_data, Lib.toList_data] at hy; exact bytes_eq hy
      subst hyw
      have hs : kidN (FT.mk T.nm T.k T.d (setN T.kids y (withR V p (insN D.kids x [g])))).kids y = some (withR V p (insN D.kids x [g])) := kid_set hV (with_nm (kid_nm hV) p _)
      have ih := look_other p V D g x s hD hg (fun r e => h1 r (by rw [List.cons_append, e]; rfl)) (fun r e => h2 r (by rw [← e]; simp))
      rw [hs, hV]
      show (if T.k = 1 then lookR _ s else _) = (if T.k = 1 then lookR V s else _)
      rw [ih]
    · have hs : kidN (FT.mk T.nm T.k T.d (setN T.kids w (withR V p (insN D.kids x [g])))).kids y = kidN T.kids y := kid_set_other (with_nm (kid_nm hV) p _) hy
      rw [hs]
      rfl
theorem szL_cons (x : FT) (r : List FT) : szT.szL (x :: r) = (decide (x.nm.size ≤ 1048576) && decide (x.d.size ≤ 1048576) && szT x && szT.szL r) := by rw [szT.szL]
theorem sz_kids (T : FT) : szT T = szT.szL T.kids := by cases T; rw [szT]; rfl
theorem szL_app : ∀ (l m : List FT), szT.szL (l ++ m) = (szT.szL l && szT.szL m)
  | [], m => by rw [List.nil_append, szT.szL, Bool.true_and]
  | x :: r, m => by rw [List.cons_append, szL_cons, szL_app r m, szL_cons]; simp only [Bool.and_assoc]
theorem szL_ins : ∀ (l : List FT) (x : ByteArray) (o : List FT), szT.szL l = true → szT.szL o = true → szT.szL (insN l x o) = true
  | [], x, o, _, ho => by rw [insN]; exact ho
  | y :: r, x, o, hl, ho => by
    rw [szL_cons, Bool.and_eq_true] at hl
    rw [insN]
    split
    · rw [szL_cons, hl.1, szL_ins r x o hl.2 ho]; rfl
    · split
      · rw [szL_app, ho, hl.2]; rfl
      · rw [szL_app, szL_cons, ho, hl.1, hl.2]; rfl
theorem szL_set : ∀ (l : List FT) (x : ByteArray) (U : FT), szT.szL l = true → szT.szL [U] = true → szT.szL (setN l x U) = true
  | [], x, U, _, _ => by rw [setN, szT.szL]
  | y :: r, x, U, hl, hU => by
    rw [szL_cons, Bool.and_eq_true] at hl
    rw [setN]
    split
    · rw [← List.singleton_append, szL_app, hU, hl.2]; rfl
    · rw [szL_cons, hl.1, szL_set r x U hl.2 hU]; rfl
theorem szL_kid : ∀ {l : List FT} {x : ByteArray} {V : FT}, kidN l x = some V → szT.szL l = true → szT.szL [V] = true
  | [], x, V, h, _ => by rw [kidN] at h; cases h
  | y :: r, x, V, h, hl => by
    rw [kidN] at h
    rw [szL_cons, Bool.and_eq_true] at hl
    split at h
    · cases h
      rw [szL_cons, hl.1]; rfl
    · exact szL_kid h hl.2
theorem sz_with : ∀ (p : List ByteArray) (T : FT) (fs : List FT), szT T = true → szT.szL fs = true → szT (withR T p fs) = true
  | [], T, fs, _, hf => by rw [withR, szT]; exact hf
  | x :: r, T, fs, hT, hf => by
    rw [withR]
    split
    · rename_i V hV
      rw [sz_kids] at hT
      have hV1 := szL_kid hV hT
      have hV2 := hV1
      rw [szL_cons, Bool.and_eq_true, Bool.and_eq_true] at hV2
      have ih := sz_with r V fs hV2.1.2 hf
      rw [szT]
      refine szL_set _ _ _ hT ?_
      rw [szL_cons, (with_head V r fs).1, (with_head V r fs).2.2, hV2.1.1, ih, szT.szL]; rfl
    · exact hT
theorem sz_look : ∀ (p : List ByteArray) (T D : FT), lookR T p = .inr D → szT T = true → szT D = true
  | [], T, D, h, hT => by rw [lookR] at h; cases h; exact hT
  | x :: r, T, D, h, hT => by
    obtain ⟨_, V, hV, hD⟩ := look_kid h
    rw [sz_kids] at hT
    have hV2 := szL_kid hV hT
    rw [szL_cons, Bool.and_eq_true, Bool.and_eq_true] at hV2
    exact sz_look r V D hD hV2.1.2
/-- How many files there are in a file. -/
def cntT (T : FT) : Nat := match T with
  | .mk _ _ _ l => cntL l
where cntL (l : List FT) : Nat := match l with
  | [] => 0
  | x :: l => 1 + cntT x + cntL l
theorem cnt_eq (T : FT) : cntT T = cntT.cntL T.kids := by cases T; rw [cntT]; rfl
theorem cnt_len : ∀ l : List FT, l.length ≤ cntT.cntL l
  | [] => Nat.zero_le _
  | x :: r => by have := cnt_len r; rw [cntT.cntL, List.length_cons]; omega
theorem cnt_at : ∀ (l : List FT) (i : Nat) (h : i < l.length), cntT (l[i]) < cntT.cntL l
  | x :: r, 0, _ => by rw [cntT.cntL]; simp; omega
  | x :: r, i + 1, h => by have := cnt_at r i (by simpa using h); rw [cntT.cntL]; simp only [List.getElem_cons_succ]; omega
theorem cnt_kid {T : FT} {i : Nat} (h : i < T.kids.length) : cntT (T.kids[i]) < cntT T := by rw [cnt_eq T]; exact cnt_at T.kids i h
theorem cnt_kids (T : FT) : T.kids.length ≤ cntT T := by rw [cnt_eq]; exact cnt_len _
theorem kid_mem : ∀ {l : List FT} {x : ByteArray} {V : FT}, kidN l x = some V → ∃ i, ∃ h : i < l.length, l[i] = V
  | [], x, V, h => by rw [kidN] at h; cases h
  | y :: r, x, V, h => by
    rw [kidN] at h
    split at h
    · cases h; exact ⟨0, by simp, rfl⟩
    · obtain ⟨i, hi, e⟩ := kid_mem h
      exact ⟨i + 1, by simpa using hi, by simpa using e⟩
theorem cnt_look : ∀ (p : List ByteArray) (T D : FT), lookR T p = .inr D → cntT D ≤ cntT T
  | [], T, D, h => by rw [lookR] at h; cases h; exact Nat.le_refl _
  | x :: r, T, D, h => by
    obtain ⟨_, V, hV, hD⟩ := look_kid h
    obtain ⟨i, hi, e⟩ := kid_mem hV
    have h1 := cnt_look r V D hD
    have h2 := cnt_kid hi
    rw [e] at h2
    omega
end Ft
end Go.Proofs.YtfbhofomcenabaaGreatDoor
namespace Go.Proofs.YtfbhofomcenabaaGreatDoor
open Go Go.RowKit

theorem Ft.FdL.tree {w : World} {P : Nat → Prop} {l : List Ft.FT} {a : Option Addr} {c : Nat} (h : Ft.FdL w P (l, a, c)) (nm : ByteArray) (k : Nat) (d : ByteArray) : Ft.Fd w P (.mk nm k d l) a c := by
  cases h with
  | mk vs len nil room most lies sub => exact .mk vs len nil room most lies sub

set_option maxRecDepth 100000 in
set_option maxHeartbeats 4000000 in
/-- At the empty path: the files are put in the tree's root. -/
theorem twith_nil : ∀ (T : Ft.FT) (a ap : Option Addr) (cap cp : Nat) (fs : Ft.FS) (P : Nat → Prop) (w : World), (∀ b, P b → b < w.heap.size) → Ft.Fd w P T a cap → Ft.FdL w P fs → Strs w ap cp [] →
    Calls Tryz.prog 55 #[Ft.fdV T a cap, .slice ap ([] : List ByteArray).length cp, .slice fs.2.1 fs.1.length fs.2.2] w fun e w' => ∃ b c, e = .returned (Ft.fdV (Ft.withR T [] fs.1) b c) ∧ Hid (Ft.Fd w' (fun k => P k ∨ (w.heap.size ≤ k ∧ k < w'.heap.size)) (Ft.withR T [] fs.1) b c ∧ Below w.heap.size w w') := by
  intro T a ap cap cp fs P w hP hN hF hS
  obtain ⟨fl, fa, fc⟩ := fs
  obtain ⟨W, hW⟩ : ∃ W, W = (w.alloc (.cells (Ft.fdA T a cap) 25)).alloc (.cells #[.string ⟨#[]⟩, .int .u8 0, .string ⟨#[]⟩, .slice none 0 0] 25) := ⟨_, rfl⟩
  have hB : Below w.heap.size w W := by rw [hW]; exact ((Below.refl _ _).alloc (Nat.le_refl _) _).alloc (by simp) _
  have hF1 : Ft.FileAt W w.heap.size T a cap := by rw [hW]; exact (Ft.file_new w T a cap).alloc _
  have hF2 : Ft.FileAt W (w.heap.size + 1) Ft.zF none 0 := by
    rw [hW]
    have := Ft.file_zero (w.alloc (.cells (Ft.fdA T a cap) 25))
    simpa using this
  have HW : Hid (W = (w.alloc (.cells #[.string T.nm, .int .u8 (T.k : Int), .string T.d, .slice a T.kids.length cap] 25)).alloc (.cells #[.string ⟨#[]⟩, .int .u8 0, .string ⟨#[]⟩, .slice none 0 0] 25)) := hW
  have HF : Hid (Ft.FileAt W w.heap.size T a cap ∧ Ft.FileAt W (w.heap.size + 1) Ft.zF none 0 ∧ Below w.heap.size w W ∧ Ft.FdL w P (fl, fa, fc) ∧ (∀ b, P b → b < w.heap.size)) := ⟨hF1, hF2, hB, hF, hP⟩
  clear hW hB hF1 hF2 hF hP hN hS
  simp only [Ft.fdV, Ft.fdA]
  go_enter Tryz.func55, Tryz.ntmps55
  go_upto_region 1 with fail
  rw [← HW.out]
  clear HW
  obtain ⟨q0, q1, q2, q3⟩ := HF.out.1.four
  have qf := HF.out.1.frozen
  have z0 : W.cell? ⟨w.heap.size + 1, 0, none⟩ = some (.string ⟨#[]⟩) := HF.out.2.1.four.c0
  have z1 : W.cell? ⟨w.heap.size + 1, 1, none⟩ = some (.int .u8 0) := HF.out.2.1.four.c1
  have z2 : W.cell? ⟨w.heap.size + 1, 2, none⟩ = some (.string ⟨#[]⟩) := HF.out.2.1.four.c2
  have z3 : W.cell? ⟨w.heap.size + 1, 3, none⟩ = some (.slice none 0 0) := HF.out.2.1.four.c3
  have zf := HF.out.2.1.frozen
  go_wp2_with fail
  have hne : w.heap.size + 1 ≠ w.heap.size := by omega
  have K1 : Ft.FileAt (W.setCell ⟨w.heap.size, 3, none⟩ (.slice fa fl.length fc)) (w.heap.size + 1) Ft.zF none 0 := (heap_setCell_other W ⟨w.heap.size, 3, none⟩ (w.heap.size + 1) _ hne).trans HF.out.2.1
  have K2 : Below w.heap.size w (Ft.putF (W.setCell ⟨w.heap.size, 3, none⟩ (.slice fa fl.length fc)) (w.heap.size + 1) (.mk T.nm T.k T.d fl) fa fc) := Ft.putF_below (HF.out.2.2.1.setCell (p := ⟨w.heap.size, 3, none⟩) (Nat.le_refl _) _) (by omega)
  refine bodyPost_ret (results_cell_row rfl _ _ (w.heap.size + 1) _ _ _ _ rfl (Ft.FileAt.putF K1 (.mk T.nm T.k T.d fl) fa fc) Tryz.underlying25 rfl (by kernel_rfl)) rfl ?_
  exact ⟨fa, fc, rfl, (Ft.FdL.tree (HF.out.2.2.2.1.underP HF.out.2.2.2.2 K2) T.nm T.k T.d).mono (fun b h => Or.inl h), K2⟩
end Go.Proofs.YtfbhofomcenabaaGreatDoor
namespace Go.Proofs.YtfbhofomcenabaaGreatDoor
open Go Go.RowKit

theorem Ft.look_cons {T D : Ft.FT} {x : ByteArray} {r : List ByteArray} (h : Ft.lookR T (x :: r) = .inr D) : ∃ V, Ft.kidN T.kids x = some V ∧ Ft.lookR V r = .inr D := by
  rw [Ft.lookR] at h
  split at h
  · split at h
    · cases h
    · rename_i V hV
      exact ⟨V, hV, h⟩
  · cases h
theorem Ft.kid_here {l : List Ft.FT} {x : ByteArray} {q : Nat} {V : Ft.FT} (hr : Ft.RisN l) (hp : Ft.PosN l x q) (hV : Ft.kidN l x = some V) : Ft.atN l x q = true ∧ ∃ h : q < l.length, l[q] = V := by
  rw [Ft.kid_pos hr hp] at hV
  split at hV
  · rename_i ha
    obtain ⟨h, e⟩ := List.getElem?_eq_some_iff.1 hV
    exact ⟨ha, h, e⟩
  · cases hV
/-- What stands behind the first name of a path. -/
theorem strs_rest {w : World} {pb po cp : Nat} {x : ByteArray} {r : List ByteArray} (h : Strs w (some ⟨pb, po, none⟩) cp (x :: r)) (ad : Addr) (had : cp ≠ 1 → ad = ⟨pb, po + 1, none⟩) : Strs w (some ad) (cp - 1) r := by
  have h1 := h.len
  have h2 := h.room
  have h3 := h.most
  simp only [List.length_cons] at h1 h2
  refine ⟨by omega, fun e => (by cases e), by omega, by omega, fun i hi => h.size (i + 1) (by simp; omega), fun i hi => ?_⟩
  obtain ⟨b, off, e, hlt, hc⟩ := h.cells (i + 1) (by simp; omega)
  cases e
  refine ⟨pb, po + 1, by rw [had (by omega)], hlt, ?_⟩
  rw [show po + 1 + i = po + (i + 1) by omega]
  simpa using hc

/-- The swap of one file of a tree, in the memory of a call that began at w. -/
theorem swap_one (T V U : Ft.FT) (x : ByteArray) (ka : Addr) (cap : Nat) (b2 : Option Addr) (c2 : Nat) (P : Nat → Prop) (w w2 : World) (hP : ∀ b, P b → b < w.heap.size) (hb : Below w.heap.size w w2) (hN : Ft.Fd w P T (some ka) cap) (hr : Ft.RisN T.kids) (hV : Ft.kidN T.kids x = some V)
    (hU : Ft.Fd w2 (fun k => P k ∨ (w.heap.size ≤ k ∧ k < w2.heap.size)) U b2 c2) :
    Calls Tryz.prog 56 #[.slice (some ka) T.kids.length cap, .string x, .slice (some ⟨w2.heap.size, 0, none⟩) 1 1] (w2.alloc (.cells (Ft.fdA U b2 c2) 25)) fun e w' => ∃ a4 c4, e = .returned (.slice a4 T.kids.length c4) ∧
      Ft.FdL w' (fun k => P k ∨ (w.heap.size ≤ k ∧ k < w'.heap.size)) (Ft.setN T.kids x U, a4, c4) ∧ Below w2.heap.size w2 w' := by
  obtain ⟨W, hW⟩ : ∃ W, W = w2.alloc (.cells (Ft.fdA U b2 c2) 25) := ⟨_, rfl⟩
  have hB : Below w2.heap.size w2 W := by rw [hW]; exact (Below.refl _ _).alloc (Nat.le_refl _) _
  have hF : Ft.FileAt W w2.heap.size U b2 c2 := by rw [hW]; exact Ft.file_new w2 U b2 c2
  have hs := hb.size
  have hsW : W.heap.size = w2.heap.size + 1 := by rw [hW]; simp
  have hP2 : ∀ k, (P k ∨ (w.heap.size ≤ k ∧ k < W.heap.size)) → k < W.heap.size := fun k h => by
    rcases h with h | h
    · have := hP k h; omega
    · exact h.2
  have hU2 : Ft.Fd W (fun k => P k ∨ (w.heap.size ≤ k ∧ k < W.heap.size)) U b2 c2 := hU.same (fun k h => hB.block k (by
    rcases h with h | h
    · have := hP k h; omega
    · exact h.2)) (fun k h => h.imp id (fun q => ⟨q.1, by omega⟩))
  have ho : Ft.FdL W (fun k => P k ∨ (w.heap.size ≤ k ∧ k < W.heap.size)) ([U], some ⟨w2.heap.size, 0, none⟩, 1) := by
    refine .mk (fun _ => (b2, c2)) (by show 1 ≤ _; omega) (fun e => by cases e) (Nat.le_refl 1) (by show 1 ≤ maxLen; unfold maxLen; omega) (fun i hi => ?_) (fun i hi => ?_)
    · match i, hi with
      | 0, _ => exact ⟨w2.heap.size, 0, rfl, .inr ⟨hs, by omega⟩, hF.four⟩
      | n + 1, h => exact absurd h (by show ¬ n + 1 < 1; omega)
    · match i, hi with
      | 0, _ => exact hU2
      | n + 1, h => exact absurd h (by show ¬ n + 1 < 1; omega)
  have hT : Ft.Fd W (fun k => P k ∨ (w.heap.size ≤ k ∧ k < W.heap.size)) T (some ka) cap := (hN.underP hP (hb.trans (hB.mono hs))).mono (fun k h => .inl h)
  have hTl := hT.room.1
  rw [← hW]
  refine (tswap_any T x (some ka) cap ([U], some ⟨w2.heap.size, 0, none⟩, 1) _ W hP2 hT hr ho).mono ?_
  rintro e w' ⟨v, q, rfl, hp, hR⟩
  obtain ⟨hat, _, _⟩ := Ft.kid_here hr hp hV
  rw [hat, if_pos rfl, (Ft.setN_at T.kids x U q (Ft.pos_ahead hp) hat).1] at hR
  have hl := Ft.setN_len T.kids x U
  obtain ⟨a4, c4, rfl, h4⟩ := hR.fdl (by omega)
  have hRb := hR.2
  have hsz := hRb.size
  exact ⟨a4, c4, by rw [hl], h4.mono (fun k h => by
    rcases h with (h | h) | h
    · exact .inl h
    · exact .inr ⟨h.1, by omega⟩
    · exact .inr ⟨by omega, h.2⟩), hB.trans (hRb.mono (by omega))⟩
end Go.Proofs.YtfbhofomcenabaaGreatDoor
namespace Go.Proofs.YtfbhofomcenabaaGreatDoor
open Go Go.RowKit

/-- A file is put in. -/
theorem swap_ins (D U : Ft.FT) (x : ByteArray) (b : Option Addr) (c : Nat) (b2 : Option Addr) (c2 n : Nat) (P : Nat → Prop) (V : World) (hP : ∀ k, P k → k < V.heap.size) (hD : Ft.Fd V P D b c) (hr : Ft.RisN D.kids) (hn : Ft.FileAt V n U b2 c2) (hPn : P n) (hU : Ft.Fd V P U b2 c2) (hl : D.kids.length < 1048576) :
    Calls Tryz.prog 56 #[.slice b D.kids.length c, .string x, .slice (some ⟨n, 0, none⟩) 1 1] V fun e w' => ∃ a4 c4, e = .returned (.slice a4 (Ft.insN D.kids x [U]).length c4) ∧
      Ft.FdL w' (fun k => P k ∨ (V.heap.size ≤ k ∧ k < w'.heap.size)) (Ft.insN D.kids x [U], a4, c4) ∧ Below V.heap.size V w' := by
  have ho : Ft.FdL V P ([U], some ⟨n, 0, none⟩, 1) := by
    refine .mk (fun _ => (b2, c2)) (by show 1 ≤ _; omega) (fun e => by cases e) (Nat.le_refl 1) (by show 1 ≤ maxLen; unfold maxLen; omega) (fun i hi => ?_) (fun i hi => ?_)
    · match i, hi with
      | 0, _ => exact ⟨n, 0, rfl, hPn, hn.four⟩
      | k + 1, h => exact absurd h (by show ¬ k + 1 < 1; omega)
    · match i, hi with
      | 0, _ => exact hU
      | k + 1, h => exact absurd h (by show ¬ k + 1 < 1; omega)
  refine (tswap_any D x b c ([U], some ⟨n, 0, none⟩, 1) _ V hP hD hr ho).mono ?_
  rintro e w' ⟨v, q, rfl, hp, hR⟩
  have hR : Ft.CRow V P v (D.kids.take q ++ [U] ++ D.kids.drop (if Ft.atN D.kids x q = true then q + 1 else q)) w' := hR
  rw [Ft.insN_pos D.kids x [U] q hp] at hR
  have hln := Ft.insN_len D.kids x [U]
  simp only [List.length_singleton] at hln
  obtain ⟨a4, c4, rfl, h4⟩ := hR.fdl (by omega)
  exact ⟨a4, c4, rfl, h4, hR.2⟩
/-- A file is taken out. -/
theorem swap_out (D : Ft.FT) (x : ByteArray) (b : Option Addr) (c : Nat) (P : Nat → Prop) (V : World) (hP : ∀ k, P k → k < V.heap.size) (hD : Ft.Fd V P D b c) (hr : Ft.RisN D.kids) :
    Calls Tryz.prog 56 #[.slice b D.kids.length c, .string x, .slice none 0 0] V fun e w' => ∃ a4 c4, e = .returned (.slice a4 (Ft.insN D.kids x []).length c4) ∧
      Ft.FdL w' (fun k => P k ∨ (V.heap.size ≤ k ∧ k < w'.heap.size)) (Ft.insN D.kids x [], a4, c4) ∧ Below V.heap.size V w' := by
  refine (tswap_any D x b c ([], none, 0) _ V hP hD hr Ft.FdL.none).mono ?_
  rintro e w' ⟨v, q, rfl, hp, hR⟩
  have hR : Ft.CRow V P v (D.kids.take q ++ [] ++ D.kids.drop (if Ft.atN D.kids x q = true then q + 1 else q)) w' := hR
  rw [Ft.insN_pos D.kids x [] q hp] at hR
  have hln := Ft.insN_len D.kids x []
  have hDl := hD.room.1
  simp only [List.length_nil] at hln
  obtain ⟨a4, c4, rfl, h4⟩ := hR.fdl (by omega)
  exact ⟨a4, c4, rfl, h4, hR.2⟩
end Go.Proofs.YtfbhofomcenabaaGreatDoor
