/- PathsThere answers true for every two paths: the walk of the law over its callees' contracts. -/
import Derived.Test.YtjmfgffihkbnlacLawOnce
import Derived.Test.YtjmfgffihkbnlacRel
import Derived.Test.YtjmfgffihkbnlacJoin
namespace Go.Proofs.Ytjmfgffihkbnlac
open Go.RowKit

theorem parent_eq {a : Option Addr} {cap : Nat} {p l : List ByteArray} {x : ByteArray} (hp : p = l ++ [x]) (w : World) (h : Strs w a cap p) :
    Calls Try.prog 25 #[.slice a p.length cap] w fun e w' => ∃ v, e = .returned (.tuple #[v, .string x, .bool true]) ∧ w'.ownsRow w.heap.size 9 1 v l.length (l.map Value.string) ∧ Below w.heap.size w w' := by
  subst hp
  rw [show (l ++ [x]).length = l.length + 1 from by simp]
  exact parent_some a cap l x w h
theorem parent_nil {a : Option Addr} {cap : Nat} {p : List ByteArray} (hp : p = []) (w : World) :
    Calls Try.prog 25 #[.slice a p.length cap] w fun e w' => e = .returned (.tuple #[.slice none 0 0, .string ⟨#[]⟩, .bool false]) ∧ w = w' := by
  subst hp
  exact parent_none a cap w

theorem there_in (l : List ByteArray) (x : ByteArray) : Pl.withinP (l ++ [x]) l = true := (Pl.within_iff _ _).2 ⟨[x], rfl⟩
theorem there_out (l : List ByteArray) (x : ByteArray) : Pl.withinP l (l ++ [x]) = false := by
  cases h : Pl.withinP l (l ++ [x])
  · rfl
  · obtain ⟨r, e⟩ := (Pl.within_iff _ _).1 h
    have := congrArg List.length e
    simp at this

set_option maxHeartbeats 4000000 in
theorem there_any (ap aq : Option Addr) (cp cq : Nat) (l p : List ByteArray) (w : World) (hl : Strs w ap cp l) (hp : Strs w aq cq p) :
    Calls Try.prog 6 #[.slice ap l.length cp, .slice aq p.length cq] w fun e w' => e = .returned (.bool true) ∧ Below w.heap.size w w' := by
  have ll := hl.len
  have lp := hp.len
  have hB : Below w.heap.size w w := Below.refl _ _
  have hmem := hp.mem
  have HC := Pl.rel_codes l p
  have HL := @Pl.rel_leads l p
  have hrs := Pl.rel_size l p
  obtain ⟨r, c, hR⟩ : ∃ r c, Pl.relP l p = (r, c) := ⟨_, _, rfl⟩
  have HR : Hid (Pl.relP l p = (r, c)) := hR
  rw [hR] at HC HL hrs
  have hrs : r.size ≤ 1024 := hrs
  have HC : c = 0 ∨ c = 4 ∨ (c = 20 ∧ (Pl.rightP l = false ∨ Pl.rightP p = false)) := HC
  have HE : Hid (Pl.sameP p p = true) := (Pl.same_iff p p).2 rfl
  -- what stands behind: the parent, and one name more
  have key : (Hid (p = [])) ∨ ∃ q x, Hid (p = q ++ [x]) ∧ q.length ≤ 8796093022208 ∧ Hid (∀ s ∈ q, s.size ≤ 140737488355328) ∧ x.size ≤ 140737488355328 ∧ Hid (Pl.withinP p q = true) ∧ Hid (Pl.withinP q p = false) ∧ (Hid (Pl.rightP p = true → Pl.joinP q x = (p, 0))) := by
    rcases List.eq_nil_or_concat p with h | ⟨q, x, h⟩
    · exact .inl h
    · rw [List.concat_eq_append] at h
      refine .inr ⟨q, x, h, ?_, ?_, ?_, ?_, ?_, ?_⟩
      · rw [h] at lp; simp at lp; omega
      · exact fun s hs => hmem s (by rw [h]; simp [hs])
      · exact hmem x (by rw [h]; simp)
      · show _ = _; rw [h]; exact there_in q x
      · show _ = _; rw [h]; exact there_out q x
      · intro hr; rw [h] at hr ⊢; exact Pl.join_right hr
  clear hmem hR
  by_cases c0 : c = 0
  · obtain ⟨e1, e2⟩ := HL c0
    have e1 : (Pl.normalP l r).1 = p := e1
    have e2 : (Pl.normalP l r).2.2 = 0 := e2
    have hrp := (Pl.normal_right e2).1
    rw [e1] at hrp
    obtain ⟨D, hN⟩ : ∃ D, Pl.normalP l r = (p, D, 0) := ⟨_, Prod.ext e1 (Prod.ext rfl e2)⟩
    have HN : Hid (Pl.normalP l r = (p, D, 0)) := hN
    have NM : Hid (p.all Pl.nameB = true ∧ p.length ≤ 1024) := ⟨Pl.right_names hrp, Pl.right_len hrp⟩
    clear HC HL e1 e2 hN
    subst c0
    rcases key with H0 | ⟨q, x, H0, lq, HQ, hx, HI, HJ, HK'⟩
    · have hz : ((p.length : Int) == 0) = true := by rw [H0.out]; rfl
      go_enter Try.func6, Try.ntmps6
      go_wp2_with fail
      refine (begins_any _).mono ?_
      rintro e w1 ⟨rfl, hb⟩
      replace hl := hl.below hb; replace hp := hp.below hb; replace hB := hB.trans (hb.mono hB.size); clear hb
      go_wp2_with fail
      refine (rel_any _ _ _ _ l p _ hl hp).mono ?_
      rw [HR.out]
      rintro e w2 ⟨rfl, hb⟩
      replace hl := hl.below hb; replace hp := hp.below hb; replace hB := hB.trans (hb.mono hB.size); clear hb
      go_wp2_with fail
      refine (normal_any _ _ l r _ hl (by omega)).mono ?_
      rw [HN.out]
      rintro e w3 ⟨v3, rfl, hown, hb⟩
      obtain ⟨a3, c3, rfl, s3⟩ := names_strs hown NM.out
      replace hp := hp.below hb; replace hB := hB.trans (hb.mono hB.size); clear hb hown
      go_wp2_with fail
      refine (same_b _ _ _ _ p p _ s3 hp).mono ?_
      rw [HE.out]
      rintro e w4 ⟨rfl, hb⟩
      replace hp := hp.below hb; replace hB := hB.trans (hb.mono hB.size); clear hb s3
      go_wp2_with fail
      refine (parent_nil H0.out _).mono ?_
      rintro e w' ⟨rfl, rfl⟩
      go_wp2_with fail
      go_ret
      exact ⟨rfl, hB⟩
    · have HK : Hid (Pl.joinP q x = (p, 0)) := HK'.out hrp
      go_enter Try.func6, Try.ntmps6
      go_wp2_with fail
      refine (begins_any _).mono ?_
      rintro e w1 ⟨rfl, hb⟩
      replace hl := hl.below hb; replace hp := hp.below hb; replace hB := hB.trans (hb.mono hB.size); clear hb
      go_wp2_with fail
      refine (rel_any _ _ _ _ l p _ hl hp).mono ?_
      rw [HR.out]
      rintro e w2 ⟨rfl, hb⟩
      replace hl := hl.below hb; replace hp := hp.below hb; replace hB := hB.trans (hb.mono hB.size); clear hb
      go_wp2_with fail
      refine (normal_any _ _ l r _ hl (by omega)).mono ?_
      rw [HN.out]
      rintro e w3 ⟨v3, rfl, hown, hb⟩
      obtain ⟨a3, c3, rfl, s3⟩ := names_strs hown NM.out
      replace hp := hp.below hb; replace hB := hB.trans (hb.mono hB.size); clear hb hown
      go_wp2_with fail
      refine (same_b _ _ _ _ p p _ s3 hp).mono ?_
      rw [HE.out]
      rintro e w4 ⟨rfl, hb⟩
      replace hp := hp.below hb; replace hB := hB.trans (hb.mono hB.size); clear hb s3
      go_wp2_with fail
      refine (parent_eq H0.out _ hp).mono ?_
      rintro e w5 ⟨v5, rfl, hown, hb⟩
      obtain ⟨a5, c5, rfl, s5⟩ := own_strs hown (by omega) HQ.out
      replace hp := hp.below hb; replace hB := hB.trans (hb.mono hB.size); clear hb hown
      go_wp2_with fail
      refine (within_b _ _ _ _ p q _ hp s5).mono ?_
      rw [HI.out]
      rintro e w6 ⟨rfl, hb⟩
      replace s5 := s5.below hb; replace hp := hp.below hb; replace hB := hB.trans (hb.mono hB.size); clear hb
      go_wp2_with fail
      refine (within_b _ _ _ _ q p _ s5 hp).mono ?_
      rw [HJ.out]
      rintro e w7 ⟨rfl, hb⟩
      replace s5 := s5.below hb; replace hp := hp.below hb; replace hB := hB.trans (hb.mono hB.size); clear hb
      go_wp2_with fail
      refine (join_any _ _ q x _ s5 (by omega)).mono ?_
      rw [HK.out]
      rintro e w8 ⟨v8, rfl, hown, hb⟩
      replace hp := hp.below hb; replace hB := hB.trans (hb.mono hB.size)
      go_wp2_with fail
      refine (right_any _ _ p _ hp).mono ?_
      rintro e w' ⟨rfl, rfl⟩
      obtain ⟨a8, c8, rfl, s8⟩ := names_strs hown NM.out
      clear hb hown
      go_wp2_with fail
      refine (same_b _ _ _ _ p p _ s8 hp).mono ?_
      rw [HE.out]
      rintro e w9 ⟨rfl, hb⟩
      replace hB := hB.trans (hb.mono hB.size); clear hb
      go_wp2_with fail
      go_ret
      exact ⟨rfl, hB⟩
  clear HL
  rcases HC with h | h | ⟨h, hw⟩
  · exact absurd h c0
  · subst h
    have hnw : ¬ (Pl.rightP l = false ∨ Pl.rightP p = false) := fun hw => by have := HR.out; rw [Pl.rel_wrong hw] at this; simp at this
    have hrp : Pl.rightP p = true := by cases hx : Pl.rightP p <;> simp_all
    have NM : Hid (p.all Pl.nameB = true ∧ p.length ≤ 1024) := ⟨Pl.right_names hrp, Pl.right_len hrp⟩
    clear c0 hnw
    rcases key with H0 | ⟨q, x, H0, lq, HQ, hx, HI, HJ, HK'⟩
    · have hz : ((p.length : Int) == 0) = true := by rw [H0.out]; rfl
      go_enter Try.func6, Try.ntmps6
      go_wp2_with fail
      refine (begins_any _).mono ?_
      rintro e w1 ⟨rfl, hb⟩
      replace hl := hl.below hb; replace hp := hp.below hb; replace hB := hB.trans (hb.mono hB.size); clear hb
      go_wp2_with fail
      refine (rel_any _ _ _ _ l p _ hl hp).mono ?_
      rw [HR.out]
      rintro e w2 ⟨rfl, hb⟩
      replace hl := hl.below hb; replace hp := hp.below hb; replace hB := hB.trans (hb.mono hB.size); clear hb
      go_wp2_with fail
      refine (parent_nil H0.out _).mono ?_
      rintro e w' ⟨rfl, rfl⟩
      go_wp2_with fail
      go_ret
      exact ⟨rfl, hB⟩
    · have HK : Hid (Pl.joinP q x = (p, 0)) := HK'.out hrp
      go_enter Try.func6, Try.ntmps6
      go_wp2_with fail
      refine (begins_any _).mono ?_
      rintro e w1 ⟨rfl, hb⟩
      replace hl := hl.below hb; replace hp := hp.below hb; replace hB := hB.trans (hb.mono hB.size); clear hb
      go_wp2_with fail
      refine (rel_any _ _ _ _ l p _ hl hp).mono ?_
      rw [HR.out]
      rintro e w2 ⟨rfl, hb⟩
      replace hl := hl.below hb; replace hp := hp.below hb; replace hB := hB.trans (hb.mono hB.size); clear hb
      go_wp2_with fail
      refine (parent_eq H0.out _ hp).mono ?_
      rintro e w5 ⟨v5, rfl, hown, hb⟩
      obtain ⟨a5, c5, rfl, s5⟩ := own_strs hown (by omega) HQ.out
      replace hp := hp.below hb; replace hB := hB.trans (hb.mono hB.size); clear hb hown
      go_wp2_with fail
      refine (within_b _ _ _ _ p q _ hp s5).mono ?_
      rw [HI.out]
      rintro e w6 ⟨rfl, hb⟩
      replace s5 := s5.below hb; replace hp := hp.below hb; replace hB := hB.trans (hb.mono hB.size); clear hb
      go_wp2_with fail
      refine (within_b _ _ _ _ q p _ s5 hp).mono ?_
      rw [HJ.out]
      rintro e w7 ⟨rfl, hb⟩
      replace s5 := s5.below hb; replace hp := hp.below hb; replace hB := hB.trans (hb.mono hB.size); clear hb
      go_wp2_with fail
      refine (join_any _ _ q x _ s5 (by omega)).mono ?_
      rw [HK.out]
      rintro e w8 ⟨v8, rfl, hown, hb⟩
      replace hp := hp.below hb; replace hB := hB.trans (hb.mono hB.size)
      go_wp2_with fail
      refine (right_any _ _ p _ hp).mono ?_
      rintro e w' ⟨rfl, rfl⟩
      obtain ⟨a8, c8, rfl, s8⟩ := names_strs hown NM.out
      clear hb hown
      go_wp2_with fail
      refine (same_b _ _ _ _ p p _ s8 hp).mono ?_
      rw [HE.out]
      rintro e w9 ⟨rfl, hb⟩
      replace hB := hB.trans (hb.mono hB.size); clear hb
      go_wp2_with fail
      go_ret
      exact ⟨rfl, hB⟩
  · subst h
    clear c0
    cases hrl : Pl.rightP l
    · clear hw
      rcases key with H0 | ⟨q, x, H0, lq, HQ, hx, HI, HJ, HK'⟩
      · have hz : ((p.length : Int) == 0) = true := by rw [H0.out]; rfl
        go_enter Try.func6, Try.ntmps6
        go_wp2_with fail
        refine (begins_any _).mono ?_
        rintro e w1 ⟨rfl, hb⟩
        replace hl := hl.below hb; replace hp := hp.below hb; replace hB := hB.trans (hb.mono hB.size); clear hb
        go_wp2_with fail
        refine (rel_any _ _ _ _ l p _ hl hp).mono ?_
        rw [HR.out]
        rintro e w2 ⟨rfl, hb⟩
        replace hl := hl.below hb; replace hp := hp.below hb; replace hB := hB.trans (hb.mono hB.size); clear hb
        go_wp2_with fail
        refine (right_any _ _ l _ hl).mono ?_
        rintro e w' ⟨rfl, rfl⟩
        go_wp2_with fail
        refine (parent_nil H0.out _).mono ?_
        rintro e w' ⟨rfl, rfl⟩
        go_wp2_with fail
        go_ret
        exact ⟨rfl, hB⟩
      · cases hrp : Pl.rightP p
        · go_enter Try.func6, Try.ntmps6
          go_wp2_with fail
          refine (begins_any _).mono ?_
          rintro e w1 ⟨rfl, hb⟩
          replace hl := hl.below hb; replace hp := hp.below hb; replace hB := hB.trans (hb.mono hB.size); clear hb
          go_wp2_with fail
          refine (rel_any _ _ _ _ l p _ hl hp).mono ?_
          rw [HR.out]
          rintro e w2 ⟨rfl, hb⟩
          replace hl := hl.below hb; replace hp := hp.below hb; replace hB := hB.trans (hb.mono hB.size); clear hb
          go_wp2_with fail
          refine (right_any _ _ l _ hl).mono ?_
          rintro e w' ⟨rfl, rfl⟩
          go_wp2_with fail
          refine (parent_eq H0.out _ hp).mono ?_
          rintro e w5 ⟨v5, rfl, hown, hb⟩
          obtain ⟨a5, c5, rfl, s5⟩ := own_strs hown (by omega) HQ.out
          replace hp := hp.below hb; replace hB := hB.trans (hb.mono hB.size); clear hb hown
          go_wp2_with fail
          refine (within_b _ _ _ _ p q _ hp s5).mono ?_
          rw [HI.out]
          rintro e w6 ⟨rfl, hb⟩
          replace s5 := s5.below hb; replace hp := hp.below hb; replace hB := hB.trans (hb.mono hB.size); clear hb
          go_wp2_with fail
          refine (within_b _ _ _ _ q p _ s5 hp).mono ?_
          rw [HJ.out]
          rintro e w7 ⟨rfl, hb⟩
          replace s5 := s5.below hb; replace hp := hp.below hb; replace hB := hB.trans (hb.mono hB.size); clear hb
          go_wp2_with fail
          refine (join_any _ _ q x _ s5 (by omega)).mono ?_
          generalize Pl.joinP q x = J
          rintro e w8 ⟨v8, rfl, hown, hb⟩
          replace hp := hp.below hb; replace hB := hB.trans (hb.mono hB.size)
          go_wp2_with fail
          refine (right_any _ _ p _ hp).mono ?_
          rintro e w' ⟨rfl, rfl⟩
          clear hb hown
          go_wp2_with fail
          go_ret
          exact ⟨rfl, hB⟩
        · have HK : Hid (Pl.joinP q x = (p, 0)) := HK'.out hrp
          have NM : Hid (p.all Pl.nameB = true ∧ p.length ≤ 1024) := ⟨Pl.right_names hrp, Pl.right_len hrp⟩
          go_enter Try.func6, Try.ntmps6
          go_wp2_with fail
          refine (begins_any _).mono ?_
          rintro e w1 ⟨rfl, hb⟩
          replace hl := hl.below hb; replace hp := hp.below hb; replace hB := hB.trans (hb.mono hB.size); clear hb
          go_wp2_with fail
          refine (rel_any _ _ _ _ l p _ hl hp).mono ?_
          rw [HR.out]
          rintro e w2 ⟨rfl, hb⟩
          replace hl := hl.below hb; replace hp := hp.below hb; replace hB := hB.trans (hb.mono hB.size); clear hb
          go_wp2_with fail
          refine (right_any _ _ l _ hl).mono ?_
          rintro e w' ⟨rfl, rfl⟩
          go_wp2_with fail
          refine (parent_eq H0.out _ hp).mono ?_
          rintro e w5 ⟨v5, rfl, hown, hb⟩
          obtain ⟨a5, c5, rfl, s5⟩ := own_strs hown (by omega) HQ.out
          replace hp := hp.below hb; replace hB := hB.trans (hb.mono hB.size); clear hb hown
          go_wp2_with fail
          refine (within_b _ _ _ _ p q _ hp s5).mono ?_
          rw [HI.out]
          rintro e w6 ⟨rfl, hb⟩
          replace s5 := s5.below hb; replace hp := hp.below hb; replace hB := hB.trans (hb.mono hB.size); clear hb
          go_wp2_with fail
          refine (within_b _ _ _ _ q p _ s5 hp).mono ?_
          rw [HJ.out]
          rintro e w7 ⟨rfl, hb⟩
          replace s5 := s5.below hb; replace hp := hp.below hb; replace hB := hB.trans (hb.mono hB.size); clear hb
          go_wp2_with fail
          refine (join_any _ _ q x _ s5 (by omega)).mono ?_
          rw [HK.out]
          rintro e w8 ⟨v8, rfl, hown, hb⟩
          replace hp := hp.below hb; replace hB := hB.trans (hb.mono hB.size)
          go_wp2_with fail
          refine (right_any _ _ p _ hp).mono ?_
          rintro e w' ⟨rfl, rfl⟩
          obtain ⟨a8, c8, rfl, s8⟩ := names_strs hown NM.out
          clear hb hown
          go_wp2_with fail
          refine (same_b _ _ _ _ p p _ s8 hp).mono ?_
          rw [HE.out]
          rintro e w9 ⟨rfl, hb⟩
          replace hB := hB.trans (hb.mono hB.size); clear hb
          go_wp2_with fail
          go_ret
          exact ⟨rfl, hB⟩
    · have hrp : Pl.rightP p = false := by rcases hw with h | h; (rw [h] at hrl; cases hrl); exact h
      clear hw
      rcases key with H0 | ⟨q, x, H0, lq, HQ, hx, HI, HJ, HK'⟩
      · rw [H0.out] at hrp
        exact absurd hrp (by decide +kernel)
      · go_enter Try.func6, Try.ntmps6
        go_wp2_with fail
        refine (begins_any _).mono ?_
        rintro e w1 ⟨rfl, hb⟩
        replace hl := hl.below hb; replace hp := hp.below hb; replace hB := hB.trans (hb.mono hB.size); clear hb
        go_wp2_with fail
        refine (rel_any _ _ _ _ l p _ hl hp).mono ?_
        rw [HR.out]
        rintro e w2 ⟨rfl, hb⟩
        replace hl := hl.below hb; replace hp := hp.below hb; replace hB := hB.trans (hb.mono hB.size); clear hb
        go_wp2_with fail
        refine (right_any _ _ l _ hl).mono ?_
        rintro e w' ⟨rfl, rfl⟩
        go_wp2_with fail
        refine (right_any _ _ p _ hp).mono ?_
        rintro e w' ⟨rfl, rfl⟩
        go_wp2_with fail
        refine (parent_eq H0.out _ hp).mono ?_
        rintro e w5 ⟨v5, rfl, hown, hb⟩
        obtain ⟨a5, c5, rfl, s5⟩ := own_strs hown (by omega) HQ.out
        replace hp := hp.below hb; replace hB := hB.trans (hb.mono hB.size); clear hb hown
        go_wp2_with fail
        refine (within_b _ _ _ _ p q _ hp s5).mono ?_
        rw [HI.out]
        rintro e w6 ⟨rfl, hb⟩
        replace s5 := s5.below hb; replace hp := hp.below hb; replace hB := hB.trans (hb.mono hB.size); clear hb
        go_wp2_with fail
        refine (within_b _ _ _ _ q p _ s5 hp).mono ?_
        rw [HJ.out]
        rintro e w7 ⟨rfl, hb⟩
        replace s5 := s5.below hb; replace hp := hp.below hb; replace hB := hB.trans (hb.mono hB.size); clear hb
        go_wp2_with fail
        refine (join_any _ _ q x _ s5 (by omega)).mono ?_
        generalize Pl.joinP q x = J
        rintro e w8 ⟨v8, rfl, hown, hb⟩
        replace hp := hp.below hb; replace hB := hB.trans (hb.mono hB.size)
        go_wp2_with fail
        refine (right_any _ _ p _ hp).mono ?_
        rintro e w' ⟨rfl, rfl⟩
        clear hb hown
        go_wp2_with fail
        go_ret
        exact ⟨rfl, hB⟩
end Go.Proofs.Ytjmfgffihkbnlac
