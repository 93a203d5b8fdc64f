/- What the reference's Paths answers. What the law's below answers: does a path go on from another? What is put stands there, what is dropped again leaves the tree as it was, and nothing else is turned: plain. -/
import Derived.Test.YtgpheecapbhpkaaDoorFAl
import Derived.Deep.QuietTactic
import Derived.BigQuiet
import Derived.Test.YtgpheecapbhpkaaDoorTX
namespace Go.Proofs.YtgpheecapbhpkaaDoor
open Go.RowKit

namespace Ft
/-- Are two paths one? -/
def sameP : List ByteArray → List ByteArray → Bool
  | [], l => l.isEmpty
  | _ :: _, [] => false
  | x :: l, y :: m => (x.toList == y.toList) && sameP l m
theorem sameP_len : ∀ {l m : List ByteArray}, l.length ≠ m.length → sameP l m = false
  | [], [], h => absurd rfl h
  | [], _ :: _, _ => rfl
  | _ :: _, [], _ => rfl
  | x :: l, y :: m, h => by rw [sameP, sameP_len (by simpa using h), Bool.and_false]
theorem sameP_drop {l m : List ByteArray} {i : Nat} (h : i < l.length) (h' : i < m.length) : sameP (l.drop i) (m.drop i) = (((l[i]).toList == (m[i]).toList) && sameP (l.drop (i + 1)) (m.drop (i + 1))) := by
  rw [List.drop_eq_getElem_cons h, List.drop_eq_getElem_cons h', sameP]
theorem sameP_iff : ∀ {l m : List ByteArray}, sameP l m = true ↔ l = m
  | [], [] => by simp [sameP]
  | [], _ :: _ => by simp [sameP]
  | _ :: _, [] => by simp [sameP]
  | x :: l, y :: m => by
    rw [sameP, Bool.and_eq_true, sameP_iff, List.cons.injEq, beq_iff_eq]
    refine and_congr_left (fun _ => ⟨fun h => ?_, fun h => by rw [h]⟩)
    rw [Pl.toL, Pl.toL] at h
    cases x; cases y
    simpa using Array.ext' h
end Ft
set_option maxRecDepth 100000 in
set_option maxHeartbeats 1000000 in
theorem rpaths_any (a1 a2 : Option Addr) (c1 c2 : Nat) (l1 l2 : List ByteArray) (w : World) (h1 : Strs w a1 c1 l1) (h2 : Strs w a2 c2 l2) :
    Calls Tryd.prog 17 #[.slice a1 l1.length c1, .slice a2 l2.length c2] w fun e w' => e = .returned (.bool (Ft.sameP l1 l2)) ∧ ∃ n, w' = w.drewN n := by
  have n1 := h1.len
  have n2 := h2.len
  cases hq : ((l1.length : Int) != (l2.length : Int))
  rotate_left
  · have hR : Hid (Ft.sameP l1 l2 = false) := Ft.sameP_len (by intro e; rw [e] at hq; simp at hq)
    go_enter Tryd.func17, Tryd.ntmps17
    go_wp2_with fail
    go_ret
    exact ⟨by rw [hR.out]; rfl, 0, rfl⟩
  have hlen : l1.length = l2.length := by simp at hq; omega
  have HLEN : Hid (l1.length = l2.length) := hlen
  clear hlen
  go_enter Tryd.func17, Tryd.ntmps17
  go_wp2_with fail
  go_loopw [13] (fun i wr => ∃ k m : Nat, k ≤ l1.length ∧ i = .int .i64 k ∧ Hid (Ft.sameP l1 l2 = Ft.sameP (l1.drop k) (l2.drop k)) ∧ wr = w.drewN m) (fun i _ => l1.length - (intOf i).toNat)
  case atStart => exact ⟨0, 0, Nat.zero_le _, rfl, rfl, rfl⟩
  case round =>
    obtain ⟨k, m, hk, rfl, HC, rfl⟩ := hrel
    by_cases hlt : k < l1.length
    · have hlt2 : k < l2.length := by have := HLEN.out; omega
      obtain ⟨b1, o1, rfl, hb1, d1⟩ := h1.cells k hlt
      obtain ⟨b2, o2, rfl, hb2, d3⟩ := h2.cells k hlt2
      have HS : Hid _ := Ft.sameP_drop hlt hlt2
      have i1 : (k : Int) < (l1.length : Int) := by omega
      have i2 : (k : Int) < (l2.length : Int) := by omega
      cases hx : ((l1[k]).toList == (l2[k]).toList)
      · have HE : Hid (Ft.sameP l1 l2 = false) := by show _ = _; rw [HC.out, HS.out, hx]; rfl
        go_wp2_with fail
        go_quiet (fail)
        go_wp2_with fail
        go_ret
        exact ⟨ret_bool HE.out.symm, m + nq, by simp⟩
      have HE : Hid (Ft.sameP l1 l2 = Ft.sameP (l1.drop (k + 1)) (l2.drop (k + 1))) := by show _ = _; rw [HC.out, HS.out, hx]; rfl
      go_wp2_with fail
      go_quiet (fail)
      go_wp2_with fail
      go_roundw
      case rel => exact ⟨k + 1, m + nq, by omega, by go_num, HE, by first | rfl | simp⟩
      case measure => simp [intOf]; omega
    · obtain rfl : k = l1.length := by omega
      have HE : Hid (Ft.sameP l1 l2 = true) := by show _ = _; rw [HC.out, List.drop_length, HLEN.out, List.drop_length]; rfl
      go_wp2_with fail
      go_ret
      exact ⟨ret_bool HE.out.symm, m, rfl⟩
end Go.Proofs.YtgpheecapbhpkaaDoor
namespace Go.Proofs.YtgpheecapbhpkaaDoor
open Go.RowKit

namespace Ft
def belP (p q : List ByteArray) : Bool := decide (p.length ≤ q.length) && sameP p (q.take p.length)
end Ft

set_option maxRecDepth 100000 in
set_option maxHeartbeats 400000 in
theorem lbelow_any (ap aq : Option Addr) (cp cq : Nat) (p q : List ByteArray) (w : World) (hp : Strs w ap cp p) (hq : Strs w aq cq q) :
    Calls Tryd.prog 27 #[.slice ap p.length cp, .slice aq q.length cq] w fun e w' => e = .returned (.bool (Ft.belP p q)) ∧ ∃ n, w' = w.drewN n := by
  have np := hp.len
  have nq := hq.len
  have hr := hq.room
  by_cases h : p.length ≤ q.length
  · have HE : Hid (Ft.belP p q = Ft.sameP p (q.take p.length)) := by show _ = _; unfold Ft.belP; rw [decide_eq_true h]; rfl
    have ht : (q.take p.length).length = p.length := by rw [List.length_take]; omega
    have C := rpaths_any ap aq cp cq p (q.take p.length) w hp (hq.take p.length)
    rw [ht] at C
    have i1 : (p.length : Int) ≤ (q.length : Int) := by omega
    have i1' : decide ((p.length : Int) ≤ (q.length : Int)) = true := decide_eq_true i1
    clear hp hq ht
    go_enter Tryd.func27, Tryd.ntmps27
    go_wp2_with fail
    refine C.mono ?_
    rintro e w1 ⟨rfl, n, rfl⟩
    go_wp2_with fail
    go_ret
    exact ⟨by rw [HE.out]; first | rfl | simp, n, rfl⟩
  · have HE : Hid (Ft.belP p q = false) := by show _ = _; unfold Ft.belP; rw [decide_eq_false h]; rfl
    have i1 : ¬ (p.length : Int) ≤ (q.length : Int) := by omega
    have i1' : decide ((p.length : Int) ≤ (q.length : Int)) = false := decide_eq_false i1
    clear hp hq
    go_enter Tryd.func27, Tryd.ntmps27
    go_wp2_with fail
    go_ret
    exact ⟨by rw [HE.out]; rfl, 0, rfl⟩
end Go.Proofs.YtgpheecapbhpkaaDoor
namespace Go.Proofs.YtgpheecapbhpkaaDoor
open Go Go.RowKit

namespace Ft
theorem ren_nm (f : FT) (x : ByteArray) : (renT f x).nm.toList = x.toList := rfl
theorem put_ok {T U f : FT} {p : List ByteArray} (h : putR T p f = .inr U) : ∃ D, rightT T = true ∧ p.length ≠ 0 ∧ lookR T (headsN p) = .inr D ∧ D.k = 1 ∧ U = withR T (headsN p) (insN D.kids (lastN p) [renT f (lastN p)]) ∧ rightT U = true := by
  unfold putR at h
  cases hh : holdR T p with
  | inl e => rw [hh] at h; cases h
  | inr D =>
    rw [hh] at h
    obtain ⟨h1, h2, h3⟩ := hold_ok hh
    simp only at h
    split at h
    · rename_i hk
      split at h
      · rename_i hr
        cases h
        exact ⟨D, h1, h2, h3, hk, rfl, hr⟩
      · cases h
    · cases h
theorem look_last {T D : FT} {p : List ByteArray} (hp : p.length ≠ 0) (hD : lookR T (headsN p) = .inr D) (hk : D.k = 1) : lookR T p = match kidN D.kids (lastN p) with
    | none => .inl 31
    | some V => .inr V := by
  have h := look_app (headsN p) T [lastN p]
  rw [heads_last hp, hD] at h
  rw [h]
  simp only
  rw [lookR, if_pos hk]
  cases kidN D.kids (lastN p) with
  | none => rfl
  | some V => simp only; rw [lookR]
theorem get_right {T : FT} (h : rightT T = true) (q : List ByteArray) : getR T q = lookR T q := by unfold getR; rw [if_pos h]
theorem put_get {T U f : FT} {p : List ByteArray} (h : putR T p f = .inr U) : getR U p = .inr (renT f (lastN p)) := by
  obtain ⟨D, h1, h2, h3, hk, hU, hr⟩ := put_ok h
  have hl := with_look (headsN p) T D (insN D.kids (lastN p) [renT f (lastN p)]) h3
  rw [← hU] at hl
  have hq := kid_ins D.kids (lastN p) (renT f (lastN p)) (ren_nm _ _)
  rw [get_right hr, look_last h2 hl hk]
  show (match kidN (insN D.kids (lastN p) [renT f (lastN p)]) (lastN p) with
    | none => Sum.inl 31
    | some V => Sum.inr V) = _
  rw [hq]
theorem drop_of {T D V : FT} {p : List ByteArray} (hr : rightT T = true) (hp : p.length ≠ 0) (hD : lookR T (headsN p) = .inr D) (hV : lookR T p = .inr V) : dropR T p = .inr (withR T (headsN p) (insN D.kids (lastN p) [])) := by
  unfold dropR
  rw [hold_of hr hp, hD]
  simp only
  rw [hV]
theorem put_drop {T U f : FT} {p : List ByteArray} (h : putR T p f = .inr U) : ∃ D, lookR T (headsN p) = .inr D ∧ dropR U p = .inr (withR T (headsN p) (insN D.kids (lastN p) [])) := by
  obtain ⟨D, h1, h2, h3, hk, hU, hr⟩ := put_ok h
  have hl := with_look (headsN p) T D (insN D.kids (lastN p) [renT f (lastN p)]) h3
  rw [← hU] at hl
  have hg := put_get h
  rw [get_right hr] at hg
  refine ⟨D, h3, ?_⟩
  rw [drop_of hr h2 hl hg]
  show Sum.inr (withR U (headsN p) (insN (insN D.kids (lastN p) [renT f (lastN p)]) (lastN p) [])) = _
  rw [ins_ins _ _ _ _ (ren_nm _ _), hU, with_with _ _ _ _ _ h3]
/-- Dropped again the tree is as it was, if nothing stood there. -/
theorem put_drop_new {T U f : FT} {p : List ByteArray} {n : Nat} (h : putR T p f = .inr U) (hg : getR T p = .inl n) : dropR U p = .inr T := by
  obtain ⟨D, h1, h2, h3, hk, hU, hr⟩ := put_ok h
  obtain ⟨D2, e2, hd⟩ := put_drop h
  rw [h3] at e2
  cases e2
  rw [get_right h1, look_last h2 h3 hk] at hg
  rw [hd]
  cases hq : kidN D.kids (lastN p) with
  | some V => rw [hq] at hg; cases hg
  | none => rw [ins_none _ _ hq, with_same _ _ _ h3]
/-- If a file stood there: as without it. -/
theorem put_drop_old {T U f V : FT} {p : List ByteArray} (h : putR T p f = .inr U) (hg : getR T p = .inr V) : (∃ E, dropR U p = .inr E ∧ dropR T p = .inr E) ∧ V.nm = lastN p := by
  obtain ⟨D, h1, h2, h3, hk, hU, hr⟩ := put_ok h
  obtain ⟨D2, e2, hd⟩ := put_drop h
  rw [h3] at e2
  cases e2
  rw [get_right h1] at hg
  refine ⟨⟨_, hd, drop_of h1 h2 h3 hg⟩, ?_⟩
  rw [look_last h2 h3 hk] at hg
  cases hq : kidN D.kids (lastN p) with
  | none => rw [hq] at hg; cases hg
  | some W =>
    rw [hq] at hg
    cases hg
    have e := kid_nm hq
    rw [Lib.toList_data, Lib.toList_data] at e
    exact bytes_eq e
theorem bel_pre (p q : List ByteArray) : belP p q = true ↔ ∃ s, p ++ s = q := by
  unfold belP
  rw [Bool.and_eq_true, decide_eq_true_eq, sameP_iff]
  constructor
  · rintro ⟨_, h⟩
    exact ⟨q.drop p.length, by conv => lhs; lhs; rw [h]
                               exact List.take_append_drop _ _⟩
  · rintro ⟨s, rfl⟩
    exact ⟨by simp, by simp⟩
/-- Nothing else is turned. -/
theorem put_else {T U f : FT} {p q : List ByteArray} (h : putR T p f = .inr U) (h1 : belP p q = false) (h2 : belP q p = false) : getR U q = getR T q := by
  obtain ⟨D, r1, hp, h3, hk, hU, hr⟩ := put_ok h
  rw [get_right hr, get_right r1, hU]
  refine look_other (headsN p) T D (renT f (lastN p)) (lastN p) q h3 (ren_nm _ _) (fun s e => ?_) (fun s e => ?_)
  · rw [heads_last hp] at e
    have := (bel_pre q p).2 ⟨s, e⟩
    rw [h2] at this; cases this
  · rw [heads_last hp] at e
    have := (bel_pre p q).2 ⟨s, e⟩
    rw [h1] at this; cases this
end Ft
end Go.Proofs.YtgpheecapbhpkaaDoor
