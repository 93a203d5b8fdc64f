/- A tree and the list of what is in it, there and back: plain. What holds of each of the 256 bytes. Plain facts on quoted texts: what is written is read as it was. -/
import Derived.Test.YtfbhofomcenabaaGreatDoorTK
import Derived.Test.YtfbhofomcenabaaGreatDoorTM
import Derived.Test.YtfbhofomcenabaaGreatDoorTJ
import Derived.Test.YtfbhofomcenabaaGreatDoorTN
namespace Go.Proofs.YtfbhofomcenabaaGreatDoor
open Go.RowKit

namespace Ft
/-- What is told of a file, and of all in it. -/
def tdT (p : List ByteArray) (T : FT) : List Td := match T with
  | .mk _ k d l => (p, k, d) :: tdL p l
where
  tdL (p : List ByteArray) : List FT → List Td
  | [] => []
  | x :: r => tdT (p ++ [x.nm]) x ++ tdL p r
theorem td_eq (p : List ByteArray) (T : FT) : tdT p T = (p, T.k, T.d) :: tdT.tdL p T.kids := by cases T; rw [tdT]; rfl
def tdOf (x : It) : Td := (x.1, x.2.2.k, x.2.2.d)
theorem td_wk (T : FT) : ∀ b p, (wkT.wkL b p T.kids).map tdOf = tdT.tdL p T.kids := by
  induction T using FT.ind with
  | h T ih =>
  have key : ∀ (l : List FT), (∀ i (hi : i < l.length) b p, (wkT.wkL b p (l[i]).kids).map tdOf = tdT.tdL p (l[i]).kids) → ∀ b p, (wkT.wkL b p l).map tdOf = tdT.tdL p l := by
    intro l
    induction l with
    | nil => intro _ b p; rw [wkT.wkL, tdT.tdL]; rfl
    | cons x r ihr =>
      intro h b p
      have h0 := h 0 (by simp) none (p ++ [x.nm])
      simp only [List.getElem_cons_zero] at h0
      rw [wkT.wkL, tdT.tdL, wk_eq, td_eq, List.map_append, List.map_cons, h0, ihr (fun i hi => h (i + 1) (by simpa using hi))]
      rfl
  exact key T.kids ih
theorem wk_long (T : FT) : ∀ b p, ∀ x ∈ wkT.wkL b p T.kids, p.length < x.1.length := by
  induction T using FT.ind with
  | h T ih =>
  have key : ∀ (l : List FT), (∀ i (hi : i < l.length) b p, ∀ x ∈ wkT.wkL b p (l[i]).kids, p.length < x.1.length) → ∀ b p, ∀ x ∈ wkT.wkL b p l, p.length < x.1.length := by
    intro l
    induction l with
    | nil => intro _ b p x hx; rw [wkT.wkL] at hx; cases hx
    | cons x r ihr =>
      intro h b p y hy
      rw [wkT.wkL, wk_eq] at hy
      rcases List.mem_append.1 hy with hy | hy
      · rcases List.mem_cons.1 hy with rfl | hy
        · simp
        · have := h 0 (by simp) none (p ++ [x.nm]) y (by simpa using hy)
          simp at this; omega
      · exact ihr (fun i hi => h (i + 1) (by simpa using hi)) _ p y hy
  exact key T.kids ih
/-- A told file's line. -/
def lineD (x : Td) : List UInt8 := wordB x.2.1 ++ [32] ++ (Ln.quoP (Ln.bs (Pl.textF x.1))).data.toList ++ (if x.2.1 = 1 then [] else [32] ++ (Ln.quoP x.2.2).data.toList) ++ [10]
theorem prt_td (T : FT) : prtT T = (tdT.tdL [] T.kids).flatMap lineD := by
  unfold prtT prtL
  rw [← td_wk T none [], wk_eq, List.filter_cons_of_neg (by simp [inB]), List.filter_eq_self.2 (fun x hx => by have := wk_long T none [] x hx; simp [inB] at this ⊢; intro e; rw [e] at this; simp at this), List.flatMap_map]
  rfl

/-- A told file that may stand behind another one. -/
structure OkT (a x : Td) : Prop where
  names : x.1.all Pl.nameB = true
  deep : x.1.length ≤ 64
  ne : x.1 ≠ []
  less : Pl.cmpP a.1 x.1 < 0
  opn : opnB a x.1.dropLast = true
  kind : x.2.1 = 1 ∨ x.2.1 = 2 ∨ x.2.1 = 3
  dir : x.2.1 = 1 → x.2.2 = ⟨#[]⟩
  link : x.2.1 = 3 → tgtB x.2.2 = true
def Ch : Td → List Td → Prop
  | _, [] => True
  | a, x :: r => OkT a x ∧ Ch x r
def lst : Td → List Td → Td
  | a, [] => a
  | _, x :: r => lst x r
theorem ch_app : ∀ (a : Td) (L M : List Td), Ch a (L ++ M) ↔ Ch a L ∧ Ch (lst a L) M
  | _, [], M => by simp [Ch, lst]
  | a, x :: r, M => by simp only [List.cons_append, Ch, lst, ch_app x r M, and_assoc]
theorem lst_app : ∀ (a : Td) (L M : List Td), lst a (L ++ M) = lst (lst a L) M
  | _, [], M => rfl
  | a, x :: r, M => by simp only [List.cons_append, lst, lst_app x r M]

theorem cmp_pre : ∀ (p q r : List ByteArray), Pl.cmpP (p ++ q) (p ++ r) = Pl.cmpP q r
  | [], _, _ => rfl
  | a :: p, q, r => by
    have h := cmp_pre p q r
    simp only [Pl.cmpP, List.cons_append, Pl.lex] at h ⊢
    rw [if_pos ((Pl.cmpS_cmp.eq a a).2 rfl)]
    exact h
theorem cmpS_neg {x y : ByteArray} : Pl.cmpS x y < 0 ↔ Op.bytesLess x.toList y.toList = true := by
  constructor
  · intro h
    cases h1 : Op.bytesLess x.toList y.toList
    · cases h2 : (x.toList == y.toList)
      · rw [Pl.cmpS_more h1 h2] at h; exact absurd h (by decide)
      · rw [Pl.cmpS_eq h2] at h; exact absurd h (by decide)
    · rfl
  · intro h
    rw [Pl.cmpS_less h]; decide
theorem cmp_one {y n : ByteArray} {r : List ByteArray} : Pl.cmpP (y :: r) [n] < 0 ↔ Op.bytesLess y.toList n.toList = true := by
  rw [← cmpS_neg]
  simp only [Pl.cmpP, Pl.lex]
  by_cases h : Pl.cmpS y n = 0
  · rw [if_pos h, h]
    cases r with
    | nil => simp [Pl.lex]
    | cons z t => simp [Pl.lex]
  · rw [if_neg h]
theorem cmp_ahead (x : ByteArray) (r : List ByteArray) : Pl.cmpP [] (x :: r) < 0 := by simp [Pl.cmpP, Pl.lex]
theorem alone_iff (T : FT) : aloneT T = true ↔ (T.k = 1 ∨ T.k = 2 ∨ T.k = 3) ∧ (T.k = 1 → T.d = ⟨#[]⟩) ∧ (T.k = 3 → tgtB T.d = true) ∧ (T.k ≠ 1 → T.kids = []) := by
  obtain ⟨n, k, d, l⟩ := T
  show aloneT (.mk n k d l) = true ↔ (k = 1 ∨ k = 2 ∨ k = 3) ∧ (k = 1 → d = ⟨#[]⟩) ∧ (k = 3 → tgtB d = true) ∧ (k ≠ 1 → l = [])
  have hd : d.data.toList.isEmpty = true ↔ d = ⟨#[]⟩ := by
    constructor
    · intro h
      exact Pl.data_inj _ _ (by simpa using h)
    · intro h; rw [h]; rfl
  unfold aloneT
  show (match k with | 1 => d.data.toList.isEmpty | 2 => l.isEmpty | 3 => l.isEmpty && tgtB d | _ => false) = true ↔ _
  split
  · rw [hd]; simp
  · simp
  · simp; exact and_comm
  · rename_i h1 h2 h3
    constructor
    · intro h; cases h
    · rintro ⟨h | h | h, _⟩
      · exact absurd h h1
      · exact absurd h h2
      · exact absurd h h3
theorem within_refl (p : List ByteArray) : Pl.withinP p p = true := (Pl.within_iff p p).2 ⟨[], by simp⟩
theorem within_up {q p : List ByteArray} {y : ByteArray} (h : Pl.withinP q (p ++ [y]) = true) : Pl.withinP q p = true := by
  obtain ⟨r, hr⟩ := (Pl.within_iff _ _).1 h
  exact (Pl.within_iff _ _).2 ⟨y :: r, by rw [hr]; simp⟩
/-- Where one stands in the folder at p: nothing of it is told yet; the file y and all in it are. -/
def AtP (a : Td) (p : List ByteArray) : Option ByteArray → Prop
  | none => a.1 = p
  | some y => Pl.withinP a.1 (p ++ [y]) = true
theorem AtP.within {a : Td} {p : List ByteArray} {b : Option ByteArray} (h : AtP a p b) : Pl.withinP a.1 p = true := by
  cases b with
  | none => rw [show a.1 = p from h]; exact within_refl p
  | some y => exact within_up h
/-- What is told of a right tree is told in order. -/
theorem ch_tree (T : FT) : ∀ (p : List ByteArray) (a : Td), belT T p = none → p.all Pl.nameB = true → a.1 = p → (T.kids ≠ [] → a.2.1 = 1) →
    Ch a (tdT.tdL p T.kids) ∧ Pl.withinP (lst a (tdT.tdL p T.kids)).1 p = true := by
  induction T using FT.ind with
  | h T ih =>
  intro p a hb hp ha hk
  rw [belT_eq] at hb
  have key : ∀ (l : List FT), (∀ i (hi : i < l.length) (p : List ByteArray) (a : Td), belT (l[i]) p = none → p.all Pl.nameB = true → a.1 = p → ((l[i]).kids ≠ [] → a.2.1 = 1) → Ch a (tdT.tdL p (l[i]).kids) ∧ Pl.withinP (lst a (tdT.tdL p (l[i]).kids)).1 p = true) →
      ∀ (b : Option ByteArray) (a : Td), belT.belL b l p = none → AtP a p b → (b = none → l ≠ [] → a.2.1 = 1) → Ch a (tdT.tdL p l) ∧ Pl.withinP (lst a (tdT.tdL p l)).1 p = true := by
    intro l
    induction l with
    | nil => intro _ b a _ hA _; rw [tdT.tdL]; exact ⟨trivial, hA.within⟩
    | cons x r ihr =>
      intro h b a hl hA hk1
      rw [belT.belL] at hl
      split at hl
      · cases hl
      · rename_i hbad
        have hn : Pl.nameB x.nm = true ∧ p.length + 1 ≤ 64 ∧ aloneT x = true ∧ ∀ y, b = some y → Op.bytesLess y.toList x.nm.toList = true := by
          simp only [badB, Bool.not_eq_true, Bool.or_eq_false_iff, Bool.not_eq_false', decide_eq_false_iff_not] at hbad
          refine ⟨hbad.1.1.1, by omega, hbad.2, fun y hy => ?_⟩
          subst hy
          simpa using hbad.1.1.2
        split at hl
        · cases hl
        · rename_i hkid
          obtain ⟨k1, k2, k3, k4⟩ := (alone_iff x).1 hn.2.2.1
          have hp2 : (p ++ [x.nm]).all Pl.nameB = true := by rw [List.all_append, hp]; simp [hn.1]
          have hok : OkT a (p ++ [x.nm], x.k, x.d) := by
            refine ⟨hp2, by simp; omega, by simp, ?_, ?_, k1, k2, k3⟩
            · cases b with
              | none => rw [show a.1 = p ++ [] by rw [List.append_nil]; exact hA]; show Pl.cmpP (p ++ []) (p ++ [x.nm]) < 0; rw [cmp_pre]; exact cmp_ahead _ _
              | some y =>
                obtain ⟨t, ht⟩ := (Pl.within_iff _ _).1 hA
                rw [show a.1 = p ++ (y :: t) by rw [ht]; simp]
                show Pl.cmpP (p ++ y :: t) (p ++ [x.nm]) < 0
                rw [cmp_pre]
                exact cmp_one.2 (hn.2.2.2 y rfl)
            · show opnB a (p ++ [x.nm]).dropLast = true
              rw [List.dropLast_concat]
              unfold opnB
              rw [hA.within, Bool.true_and]
              cases b with
              | none => rw [hk1 rfl (by simp)]; simp
              | some y =>
                obtain ⟨t, ht⟩ := (Pl.within_iff _ _).1 hA
                have : p.length < a.1.length := by rw [ht]; simp
                simp [this]
          have h0 := h 0 (by simp) (p ++ [x.nm]) (p ++ [x.nm], x.k, x.d) hkid hp2 rfl (fun hne => by
            by_cases e : x.k = 1
            · exact e
            · exact absurd (k4 e) hne)
          simp only [List.getElem_cons_zero] at h0
          have h1 := ihr (fun i hi => h (i + 1) (by simpa using hi)) (some x.nm) (lst (p ++ [x.nm], x.k, x.d) (tdT.tdL (p ++ [x.nm]) x.kids)) hl h0.2 (fun e => by cases e)
          rw [tdT.tdL, td_eq, List.cons_append]
          refine ⟨⟨hok, (ch_app _ _ _).2 ⟨h0.1, h1.1⟩⟩, ?_⟩
          show Pl.withinP (lst (p ++ [x.nm], x.k, x.d) (tdT.tdL (p ++ [x.nm]) x.kids ++ tdT.tdL p r)).1 p = true
          rw [lst_app]
          exact h1.2
  exact key T.kids (fun i hi p a => ih i hi p a) none a hb ha (fun _ h => hk h)
/-- The first of a list does not lie deeper than n. -/
def Hd (n : Nat) (L : List Td) : Prop := ∀ x, L.head? = some x → x.1.length ≤ n
theorem bld_stop {n : Nat} {L : List Td} (h : Hd n L) : bldT n L = ([], L) := by
  cases L with
  | nil => exact bldT_nil n
  | cons x r => exact bldT_stop (by have := h x rfl; omega)
theorem hd_tds {p : List ByteArray} {l : List FT} {rest : List Td} (h : Hd p.length rest) : Hd (p.length + 1) (tdT.tdL p l ++ rest) := by
  intro x hx
  cases l with
  | nil => rw [tdT.tdL, List.nil_append] at hx; have := h x hx; omega
  | cons y r =>
    rw [tdT.tdL, td_eq] at hx
    simp at hx
    rw [← hx]
    simp
/-- What is told of a tree builds it. -/
theorem bld_of (T : FT) : ∀ (p : List ByteArray) (rest : List Td), Hd p.length rest → bldT p.length (tdT.tdL p T.kids ++ rest) = (T.kids, rest) := by
  induction T using FT.ind with
  | h T ih =>
  intro p rest hr
  have key : ∀ (l : List FT), (∀ i (hi : i < l.length) (p : List ByteArray) (rest : List Td), Hd p.length rest → bldT p.length (tdT.tdL p (l[i]).kids ++ rest) = ((l[i]).kids, rest)) → bldT p.length (tdT.tdL p l ++ rest) = (l, rest) := by
    intro l
    induction l with
    | nil => intro _; rw [tdT.tdL, List.nil_append]; exact bld_stop hr
    | cons x r ihr =>
      intro h
      have h0 := h 0 (by simp) (p ++ [x.nm]) (tdT.tdL p r ++ rest) (by rw [List.length_append]; exact hd_tds hr)
      simp only [List.getElem_cons_zero, List.length_append, List.length_cons, List.length_nil, Nat.zero_add] at h0
      have h1 := ihr (fun i hi => h (i + 1) (by simpa using hi))
      rw [tdT.tdL, td_eq, List.cons_append, List.cons_append, List.append_assoc]
      have hlt : p.length < ((p ++ [x.nm], x.k, x.d) : Td).1.length := by simp
      rw [bldT_go hlt, h0, h1]
      have e : ((p ++ [x.nm], x.k, x.d) : Td).1[p.length]'hlt = x.nm := by simp
      rw [e]
      show (FT.mk x.nm x.k x.d x.kids :: r, rest) = _
      rw [← FT.eta x]
  exact key T.kids (fun i hi => ih i hi)
/-- What is told in order builds a right tree, of which it is told. -/
theorem bld_right : ∀ (m : Nat) (L : List Td), L.length ≤ m → ∀ (a : Td) (b : Option ByteArray) (p : List ByteArray), Ch a L → AtP a p b → (b ≠ none → Hd (p.length + 1) L) →
    L = tdT.tdL p (bldT p.length L).1 ++ (bldT p.length L).2 ∧ belT.belL b (bldT p.length L).1 p = none ∧ Hd p.length (bldT p.length L).2 ∧ Pl.withinP (lst a (tdT.tdL p (bldT p.length L).1)).1 p = true := by
  intro m
  induction m with
  | zero =>
    intro L hL a b p _ hA _
    have e : L = [] := List.eq_nil_of_length_eq_zero (by omega)
    subst e
    rw [bldT_nil]
    exact ⟨by rw [tdT.tdL]; rfl, by rw [belT.belL], fun x h => (by cases h), by rw [tdT.tdL]; exact hA.within⟩
  | succ m ih =>
    intro L hL a b p hC hA hH
    by_cases hs : Hd p.length L
    · rw [bld_stop hs]
      exact ⟨by rw [tdT.tdL]; rfl, by rw [belT.belL], hs, by rw [tdT.tdL]; exact hA.within⟩
    · cases L with
      | nil => exact absurd (fun x h => (by cases h)) hs
      | cons x r =>
        have hlt : p.length < x.1.length := by
          refine Nat.lt_of_not_le fun h => hs fun y hy => ?_
          cases hy
          exact h
        obtain ⟨hok, hCr⟩ := hC
        -- where x lies
        have hx : ∃ nm, x.1 = p ++ [nm] := by
          have ho := hok.opn
          unfold opnB at ho
          rw [Bool.and_eq_true] at ho
          obtain ⟨t, ht⟩ := (Pl.within_iff _ _).1 ho.1
          obtain ⟨u, hu⟩ := (Pl.within_iff _ _).1 hA.within
          have hdl : x.1.dropLast.length = x.1.length - 1 := List.length_dropLast
          have hlen : x.1.length = p.length + 1 := by
            cases b with
            | none =>
              have e1 : a.1.length = p.length := by rw [show a.1 = p from hA]
              have e2 := congrArg List.length ht
              rw [List.length_append] at e2
              omega
            | some y =>
              have := hH (by simp) x rfl
              omega
          have hpre : x.1.dropLast = p := by
            have e3 : x.1.dropLast ++ t = p ++ u := by rw [← ht, ← hu]
            exact (List.append_inj e3 (by omega)).1
          refine ⟨x.1.getLast hok.ne, ?_⟩
          rw [← hpre]
          exact (List.dropLast_concat_getLast hok.ne).symm
        obtain ⟨nm, hx⟩ := hx
        have hge : x.1[p.length]'hlt = nm := by simp [hx]
        have hx3 : x = (p ++ [nm], x.2.1, x.2.2) := by rw [← hx]
        have i1 := ih r (by simpa using hL) x none (p ++ [nm]) hCr hx (fun h => absurd rfl h)
        simp only [List.length_append, List.length_cons, List.length_nil, Nat.zero_add] at i1
        obtain ⟨a1, a2, a3, a4⟩ := i1
        have hl1 := bldT_len (p.length + 1) r
        have hCr2 := hCr
        rw [a1, ch_app] at hCr2
        have i2 := ih (bldT (p.length + 1) r).2 (by simp at hL; omega) (lst x (tdT.tdL (p ++ [nm]) (bldT (p.length + 1) r).1)) (some nm) p hCr2.2 a4 (fun _ => a3)
        obtain ⟨c1, c2, c3, c4⟩ := i2
        have hkids : x.2.1 ≠ 1 → (bldT (p.length + 1) r).1 = [] := by
          intro hne
          have : Hd (p.length + 1) r := by
            intro z hz
            cases r with
            | nil => cases hz
            | cons z' r' =>
              cases hz
              have ho := hCr.1.opn
              unfold opnB at ho
              have e0 : (x.2.1 == 1) = false := by simpa using hne
              rw [e0, Bool.or_false, Bool.and_eq_true, decide_eq_true_eq] at ho
              have h3 := ho.2
              rw [hx, List.length_dropLast] at h3
              simp at h3
              omega
          rw [bld_stop this]
        have hal : aloneT (.mk nm x.2.1 x.2.2 (bldT (p.length + 1) r).1) = true := (alone_iff _).2 ⟨hok.kind, hok.dir, hok.link, hkids⟩
        have hbad : badB b (.mk nm x.2.1 x.2.2 (bldT (p.length + 1) r).1) p.length = false := by
          have hnm : Pl.nameB nm = true := by
            have := hok.names
            rw [hx, List.all_append, Bool.and_eq_true] at this
            simpa using this.2
          have hdp : ¬ 64 < p.length + 1 := by have := hok.deep; rw [hx] at this; simp at this; omega
          unfold badB
          rw [hal, decide_eq_false hdp, show (FT.mk nm x.2.1 x.2.2 (bldT (p.length + 1) r).1).nm = nm from rfl, hnm]
          cases b with
          | none => rfl
          | some y =>
            obtain ⟨t, ht⟩ := (Pl.within_iff _ _).1 hA
            have hls := hok.less
            rw [show a.1 = p ++ (y :: t) by rw [ht]; simp, hx, cmp_pre] at hls
            show ((!true || !Op.bytesLess y.toList nm.toList) || false || !true) = false
            rw [cmp_one.1 hls]
            rfl
        rw [bldT_go hlt, hge]
        refine ⟨?_, ?_, c3, ?_⟩
        · show x :: r = tdT.tdL p (FT.mk nm x.2.1 x.2.2 (bldT (p.length + 1) r).1 :: (bldT p.length (bldT (p.length + 1) r).2).1) ++ _
          rw [tdT.tdL, tdT, List.append_assoc, ← c1]
          show x :: r = ((p ++ [nm], x.2.1, x.2.2) :: tdT.tdL (p ++ [nm]) (bldT (p.length + 1) r).1) ++ (bldT (p.length + 1) r).2
          rw [List.cons_append, ← a1, ← hx3]
        · show belT.belL b (FT.mk nm x.2.1 x.2.2 (bldT (p.length + 1) r).1 :: (bldT p.length (bldT (p.length + 1) r).2).1) p = none
          rw [belT.belL, if_neg (by rw [hbad]; simp), belT_eq]
          show (match belT.belL none (bldT (p.length + 1) r).1 (p ++ [nm]) with | some q => some q | none => belT.belL (some nm) (bldT p.length (bldT (p.length + 1) r).2).1 p) = none
          rw [a2]
          exact c2
        · show Pl.withinP (lst a (tdT.tdL p (FT.mk nm x.2.1 x.2.2 (bldT (p.length + 1) r).1 :: (bldT p.length (bldT (p.length + 1) r).2).1))).1 p = true
          rw [tdT.tdL, tdT]
          show Pl.withinP (lst a (((p ++ [nm], x.2.1, x.2.2) :: tdT.tdL (p ++ [nm]) (bldT (p.length + 1) r).1) ++ _)).1 p = true
          rw [lst_app, ← hx3]
          exact c4
end Ft
end Go.Proofs.YtfbhofomcenabaaGreatDoor
namespace Go.Proofs.YtfbhofomcenabaaGreatDoor
namespace Ln
theorem all_bytes {P : UInt8 → Prop} (h : ∀ n : Fin 256, P (UInt8.ofNat n.val)) (b : UInt8) : P b := by
  have := h ⟨b.toNat, b.toNat_lt⟩
  simpa using this
end Ln
end Go.Proofs.YtfbhofomcenabaaGreatDoor
namespace Go.Proofs.YtfbhofomcenabaaGreatDoor
namespace Ln

theorem untold_let : ∀ b : UInt8, b ≠ 92 → letB b ≠ 0 → UInt8.ofNat (letB b) ≠ 92 ∧ letF (UInt8.ofNat (letB b)) 14 < 14 ∧ UInt8.ofNat (letF (UInt8.ofNat (letB b)) 14) = b := all_bytes (by decide +kernel)
theorem untold_oct0 : ∀ b : UInt8, b ≠ 92 → letB b = 0 → octB b.toNat b.toNat = true → (48 + b / 64 ≠ 92 ∧ ¬ letF (48 + b / 64) 14 < 14) ∧ octGo 3 64 0 [48 + b / 64, 48 + b / 8 % 8, 48 + b % 8] 0 = (b, 3, true) := all_bytes (by decide +kernel)
theorem untold_plain : ∀ b : UInt8, b ≠ 92 → letB b = 0 → octB b.toNat b.toNat = false → 32 ≤ b.toNat ∧ b.toNat < 127 := all_bytes (by decide +kernel)
theorem octGo_rest : ∀ (f rest v : Nat) (l r : List UInt8) (off d : Nat), f ≤ l.length → octGo f rest v (l ++ r) (off + d) = ((octGo f rest v l off).1, (octGo f rest v l off).2.1 + d, (octGo f rest v l off).2.2)
  | 0, _, _, _, _, _, _, _ => rfl
  | f + 1, _, _, [], _, _, _, h => absurd h (by simp)
  | f + 1, rest, v, c :: l, r, off, d, h => by
    rw [List.cons_append, octGo, octGo]
    split
    · rfl
    · split
      · rfl
      · have := octGo_rest f (rest / 8) (v * 8 + (c.toNat - 48)) l r (off + 1) d (by simpa using h)
        rw [show off + d + 1 = off + 1 + d by omega, this]
/-- A told byte is read as it was, whatever stands behind it. -/
theorem untold (b : UInt8) (rest : List UInt8) (off : Nat) : untP (toldL b ++ rest) off = (b, off + (toldL b).length, true) := by
  by_cases h1 : b = 92
  · subst h1
    have e : toldL 92 = [92, 92] := by decide
    rw [e]; rfl
  have h1' : ((b.toNat : Int) == 92) = false := by
    rw [beq_eq_false_iff_ne]; intro e; apply h1; rw [← UInt8.toNat_inj]; simp; omega
  by_cases h2 : letB b = 0
  · cases h3 : octB b.toNat b.toNat
    · obtain ⟨p1, p2⟩ := untold_plain b h1 h2 h3
      rw [told_plain h1' h2 h3, List.singleton_append, unt_plain h1, plainP, if_neg (by omega)]
      rfl
    · obtain ⟨⟨p1, p2⟩, p3⟩ := untold_oct0 b h1 h2 h3
      rw [told_oct h1' h2 h3]
      rw [show [92, 48 + b / 64, 48 + b / 8 % 8, 48 + b % 8] ++ rest = 92 :: (48 + b / 64) :: ([48 + b / 8 % 8, 48 + b % 8] ++ rest) from rfl, unt_oct p1 p2, octP]
      have := octGo_rest 3 64 0 [48 + b / 64, 48 + b / 8 % 8, 48 + b % 8] rest 0 (off + 1) (by simp)
      rw [p3, Nat.zero_add] at this
      rw [show (48 + b / 64) :: ([48 + b / 8 % 8, 48 + b % 8] ++ rest) = [48 + b / 64, 48 + b / 8 % 8, 48 + b % 8] ++ rest from rfl, this]
      simp
      omega
  · obtain ⟨p1, p2, p3⟩ := untold_let b h1 h2
    rw [told_let h1' h2]
    rw [show [92, UInt8.ofNat (letB b)] ++ rest = 92 :: UInt8.ofNat (letB b) :: rest from rfl, unt_let p1 p2, p3]
    rfl

theorem told_first : ∀ b : UInt8, (toldL b).head? ≠ some 10 ∧ (toldL b ≠ [36] → (toldL b).head? ≠ some 36) ∧ ((toldL b).head? = some 92 → (toldL b)[1]? ≠ some 10 ∧ (toldL b)[1]? ≠ some 34 ∧ 2 ≤ (toldL b).length) ∧ (b ≠ 34 → (toldL b).head? ≠ some 34) := all_bytes (by decide +kernel)
theorem told_print : ∀ b : UInt8, (toldL b).all (fun c => 32 ≤ c.toNat && c.toNat ≤ 126) = true := all_bytes (by decide +kernel)
theorem told_ne (b : UInt8) : toldL b ≠ [] := fun e => by have := told_len b; rw [e] at this; simp at this

theorem head_app {a b : List UInt8} (h : a ≠ []) : (a ++ b).head? = a.head? := by
  cases a with
  | nil => exact absurd rfl h
  | cons x r => rfl
theorem beg_told92 {b : UInt8} {rest : List UInt8} {c : UInt8} (hc : c = 10 ∨ c = 34) : begL (toldL b ++ rest) 92 c = false := by
  obtain ⟨h1, h2, h3, _⟩ := told_first b
  cases ht : toldL b with
  | nil => exact absurd ht (told_ne b)
  | cons x t =>
    by_cases hx : x = 92
    · rw [ht, hx] at h3
      obtain ⟨p1, p2, p3⟩ := h3 rfl
      cases t with
      | nil => simp at p3
      | cons y r =>
        rw [List.cons_append, List.cons_append, beg_two]
        have : y ≠ c := fun q => by
          subst q
          simp at p1 p2
          rcases hc with h | h
          · exact p1 h
          · exact p2 h
        simp [this]
    · cases hr : t ++ rest with
      | nil => rw [List.cons_append, hr]; rfl
      | cons y r => rw [List.cons_append, hr, beg_two]; simp [hx]

theorem drop_pre (P l : List UInt8) : (P ++ l).drop P.length = l := by simp
/-- What is quoted is read as it was, whatever stands behind it. -/
theorem unq_tail (t : List UInt8) : ∀ (l P : List UInt8) (f : Nat) (out : List UInt8), l.length < f → unqGo (P ++ (l.flatMap qL ++ 34 :: t)) f P.length out = (out ++ l, (P ++ l.flatMap qL).length + 1, 0, 0)
  | [], P, f + 1, out, _ => by
    rw [unq_end (by rw [drop_pre]; rfl)]; simp
  | b :: r, P, f + 1, out, hf => by
    simp only [List.length_cons] at hf
    have e : (b :: r).flatMap qL ++ 34 :: t = qL b ++ (r.flatMap qL ++ 34 :: t) := by simp
    rw [e]
    by_cases hb : b = 34
    · have e2 : qL b = [92, 34] := by rw [qL, if_pos hb]
      rw [e2, unq_quote (by rw [drop_pre]; simp) (by rw [drop_pre]; rfl)]
      rw [show P ++ ([92, 34] ++ (r.flatMap qL ++ 34 :: t)) = (P ++ [92, 34]) ++ (r.flatMap qL ++ 34 :: t) by simp, show P.length + 2 = (P ++ [92, 34]).length by simp, unq_tail t r _ f _ (by omega)]
      subst hb
      simp [e2]
    · have e2 : qL b = toldL b := by rw [qL, if_neg hb]
      have hu := untold b (r.flatMap qL ++ 34 :: t) P.length
      have h34 : ¬ (toldL b ++ (r.flatMap qL ++ 34 :: t)).head? = some 34 := by
        rw [head_app (told_ne b)]; exact (told_first b).2.2.2 hb
      rw [e2, unq_on (by rw [drop_pre]; exact h34) (by rw [drop_pre]; exact beg_told92 (.inr rfl)) (by rw [drop_pre, hu])]
      rw [drop_pre, hu]
      simp only
      rw [← List.append_assoc, ← List.length_append, unq_tail t r _ f _ (by omega)]
      simp [e2]
theorem qL_pos (b : UInt8) : 1 ≤ (qL b).length := by
  unfold qL; split
  · simp
  · exact (told_len b).1
theorem qLs_len : ∀ l : List UInt8, l.length ≤ (l.flatMap qL).length
  | [] => by simp
  | b :: r => by have := qLs_len r; have := qL_pos b; simp only [List.flatMap_cons, List.length_append, List.length_cons]; omega
theorem unq_quoted (s t : ByteArray) : unqP (quoP s ++ t) = (s.data.toList, (quoP s).size, 0, 0) := by
  have e : (quoP s ++ t).data.toList = [34] ++ (s.data.toList.flatMap qL ++ 34 :: t.data.toList) := by
    simp [quoP, quoS, bs]
  have hz : (quoP s).size = (s.data.toList.flatMap qL).length + 2 := by
    rw [← szL]; simp [quoP, quoS, bs]
  have hz2 : (quoP s ++ t).size = (s.data.toList.flatMap qL).length + 2 + t.size := by simp [hz]
  have hl := qLs_len s.data.toList
  rw [unqP, if_pos (by rw [e]; rfl), e, show (1 : Nat) = ([34] : List UInt8).length from rfl, unq_tail t.data.toList s.data.toList [34] _ [] (by omega), hz]
  simp
end Ln
end Go.Proofs.YtfbhofomcenabaaGreatDoor
