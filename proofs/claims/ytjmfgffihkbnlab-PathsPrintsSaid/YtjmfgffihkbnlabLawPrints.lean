/- PathsPrints answers true for every two paths and every text: the walk of the law over its callees' contracts. -/
import Derived.Test.YtjmfgffihkbnlabRefC
import Derived.Test.YtjmfgffihkbnlabRel
import Derived.Test.YtjmfgffihkbnlabLawNormal
namespace Go.Proofs.Ytjmfgffihkbnlab
open Go.RowKit

theorem parent_eq {a : Option Addr} {cap : Nat} {p l : List ByteArray} {x : ByteArray} (hp : p = l ++ [x]) (w : World) (h : Strs w a cap p) :
    Calls Try.prog 17 #[.slice a p.length cap] w fun e w' => ∃ v, e = .returned (.tuple #[v, .string x, .bool true]) ∧ w'.ownsRow w.heap.size 9 1 v l.length (l.map Value.string) ∧ Below w.heap.size w w' := by
  subst hp
  rw [show (l ++ [x]).length = l.length + 1 from by simp]
  exact parent_some a cap l x w h
theorem parent_nil {a : Option Addr} {cap : Nat} {p : List ByteArray} (hp : p = []) (w : World) :
    Calls Try.prog 17 #[.slice a p.length cap] w fun e w' => e = .returned (.tuple #[.slice none 0 0, .string ⟨#[]⟩, .bool false]) ∧ w = w' := by
  subst hp
  exact parent_none a cap w
theorem rparent_eq {a : Option Addr} {cap : Nat} {p l : List ByteArray} {x : ByteArray} (hp : p = l ++ [x]) (w : World) (h : Strs w a cap p) :
    Calls Try.prog 18 #[.slice a p.length cap] w fun e w' => ∃ v, e = .returned (.tuple #[v, .string x, .bool true]) ∧ w'.ownsRow w.heap.size 9 1 v l.length (l.map Value.string) ∧ Below w.heap.size w w' := by
  subst hp
  rw [show (l ++ [x]).length = l.length + 1 from by simp]
  exact rparent_some a cap l x w h
theorem rparent_nil {a : Option Addr} {cap : Nat} {p : List ByteArray} (hp : p = []) (w : World) :
    Calls Try.prog 18 #[.slice a p.length cap] w fun e w' => e = .returned (.tuple #[.slice none 0 0, .string ⟨#[]⟩, .bool false]) ∧ w = w' := by
  subst hp
  exact rparent_none a cap w

set_option maxHeartbeats 4000000 in
theorem lawPrints_any (ap aq : Option Addr) (cp cq : Nat) (p q : List ByteArray) (x : ByteArray) (w : World) (hp : Strs w ap cp p) (hq : Strs w aq cq q) (hx : x.size ≤ 140737488351232) :
    Calls Try.prog 4 #[.slice ap p.length cp, .slice aq q.length cq, .string x] w fun e w' => e = .returned (.bool true) ∧ Below w.heap.size w w' := by
  have lp := hp.len
  have lq := hq.len
  have hm : x.size ≤ maxLen := by unfold maxLen; omega
  have hB : Below w.heap.size w w := Below.refl _ _
  have hmem := hp.mem
  have nj := Pl.join_names p x
  obtain ⟨t, c, hP⟩ : ∃ t c, Pl.printP p = (t, c) := ⟨_, _, rfl⟩
  obtain ⟨u, d, hR⟩ : ∃ u d, Pl.relP q p = (u, d) := ⟨_, _, rfl⟩
  obtain ⟨J, f, hJ⟩ : ∃ J f, Pl.joinP p x = (J, f) := ⟨_, _, rfl⟩
  rw [hJ] at nj
  have HP : Hid (Pl.printP p = (t, c)) := hP
  have HR : Hid (Pl.relP q p = (u, d)) := hR
  have HJ : Hid (Pl.joinP p x = (J, f)) := hJ
  have NJ : Hid (J.all Pl.nameB = true ∧ J.length ≤ 1024) := nj
  have lJ : J.length ≤ 1024 := nj.2
  have HE0 : Hid (Pl.sameP [] [] = true) := rfl
  have HEJ : Hid (Pl.sameP J J = true) := (Pl.same_iff J J).2 rfl
  have HEp : Hid (Pl.sameP p p = true) := (Pl.same_iff p p).2 rfl
  have HEq : Hid (Pl.sameP q q = true) := (Pl.same_iff q q).2 rfl
  have key : (Hid (p = [])) ∨ ∃ r y, Hid (p = r ++ [y]) ∧ r.length ≤ 8796093022208 ∧ Hid (∀ s ∈ r, s.size ≤ 140737488355328) := by
    rcases List.eq_nil_or_concat p with h | ⟨r, y, h⟩
    · exact .inl h
    · rw [List.concat_eq_append] at h
      refine .inr ⟨r, y, h, ?_, ?_⟩
      · rw [h] at lp; simp at lp; omega
      · exact fun s hs => hmem s (by rw [h]; simp [hs])
  clear hmem hP hR hJ nj
  rcases key with H0 | ⟨r, y, H0, lr, HQ⟩
  · go_enter Try.func4, Try.ntmps4
    go_wp2_with fail
    refine (copy_any _ _ p _ hp).mono ?_
    rintro e w1 ⟨v1, rfl, hown, hb⟩
    obtain ⟨a1, c1, rfl, s1⟩ := own_strs hown lp hp.mem
    replace hp := hp.below hb; replace hq := hq.below hb; replace hB := hB.trans (hb.mono hB.size); clear hb hown
    go_wp2_with fail
    refine (copy_any _ _ q _ hq).mono ?_
    rintro e w2 ⟨v2, rfl, hown, hb⟩
    obtain ⟨a2, c2, rfl, s2⟩ := own_strs hown lq hq.mem
    replace hp := hp.below hb; replace hq := hq.below hb; replace s1 := s1.below hb; replace hB := hB.trans (hb.mono hB.size); clear hb hown
    go_wp2_with fail
    refine (name_any _ _ hm).mono ?_
    rintro e w' ⟨rfl, rfl⟩
    go_wp2_with fail
    refine (rname_any _ _ hm).mono ?_
    rintro e w' ⟨rfl, rfl⟩
    go_wp2_with fail
    refine (right_any _ _ p _ s1).mono ?_
    rintro e w' ⟨rfl, rfl⟩
    go_wp2_with fail
    refine (rright_any _ _ p _ hp).mono ?_
    rintro e w' ⟨rfl, rfl⟩
    go_wp2_with fail
    refine (print_any _ _ p _ s1).mono ?_
    rw [HP.out]
    rintro e w3 ⟨rfl, hb⟩
    replace hp := hp.below hb; replace hq := hq.below hb; replace s1 := s1.below hb; replace s2 := s2.below hb; replace hB := hB.trans (hb.mono hB.size); clear hb
    go_wp2_with fail
    refine (rprint_any _ _ p _ hp).mono ?_
    rw [HP.out]
    rintro e w' ⟨rfl, rfl⟩
    go_wp2_with fail
    refine (rel_any _ _ _ _ q p _ s2 s1).mono ?_
    rw [HR.out]
    rintro e w4 ⟨rfl, hb⟩
    replace hp := hp.below hb; replace hq := hq.below hb; replace s1 := s1.below hb; replace s2 := s2.below hb; replace hB := hB.trans (hb.mono hB.size); clear hb
    go_wp2_with fail
    refine (rrel_any _ _ _ _ q p _ hq hp).mono ?_
    rw [HR.out]
    rintro e w5 ⟨rfl, hb⟩
    replace hp := hp.below hb; replace hq := hq.below hb; replace s1 := s1.below hb; replace s2 := s2.below hb; replace hB := hB.trans (hb.mono hB.size); clear hb
    go_wp2_with fail
    refine (parent_nil H0.out _).mono ?_
    rintro e w' ⟨rfl, rfl⟩
    go_wp2_with fail
    refine (rparent_nil H0.out _).mono ?_
    rintro e w' ⟨rfl, rfl⟩
    go_wp2_with fail
    refine (same_b none none 0 0 [] [] _ (Strs.empty _) (Strs.empty _)).mono ?_
    rw [HE0.out]
    rintro e w6 ⟨rfl, hb⟩
    replace hp := hp.below hb; replace hq := hq.below hb; replace s1 := s1.below hb; replace s2 := s2.below hb; replace hB := hB.trans (hb.mono hB.size); clear hb
    go_wp2_with fail
    refine (join_any _ _ p x _ s1 (by omega)).mono ?_
    rw [HJ.out]
    rintro e w9 ⟨v9, rfl, hown, hb⟩
    obtain ⟨a9, c9, rfl, s9⟩ := names_strs hown NJ.out
    replace hp := hp.below hb; replace hq := hq.below hb; replace s1 := s1.below hb; replace s2 := s2.below hb; replace hB := hB.trans (hb.mono hB.size); clear hb hown
    go_wp2_with fail
    refine (rjoin_any _ _ p x _ hp (by omega)).mono ?_
    rw [HJ.out]
    rintro e w10 ⟨v10, rfl, hown, hb⟩
    obtain ⟨a10, c10, rfl, s10⟩ := names_strs hown NJ.out
    replace hp := hp.below hb; replace hq := hq.below hb; replace s1 := s1.below hb; replace s2 := s2.below hb; replace s9 := s9.below hb; replace hB := hB.trans (hb.mono hB.size); clear hb hown
    go_wp2_with fail
    refine (same_b _ _ _ _ J J _ s9 s10).mono ?_
    rw [HEJ.out]
    rintro e w11 ⟨rfl, hb⟩
    replace hp := hp.below hb; replace hq := hq.below hb; replace s1 := s1.below hb; replace s2 := s2.below hb; replace hB := hB.trans (hb.mono hB.size); clear hb
    go_wp2_with fail
    refine (same_b _ _ _ _ p p _ s1 hp).mono ?_
    rw [HEp.out]
    rintro e w12 ⟨rfl, hb⟩
    replace hq := hq.below hb; replace s2 := s2.below hb; replace hB := hB.trans (hb.mono hB.size); clear hb
    go_wp2_with fail
    refine (same_b _ _ _ _ q q _ s2 hq).mono ?_
    rw [HEq.out]
    rintro e w13 ⟨rfl, hb⟩
    replace hB := hB.trans (hb.mono hB.size); clear hb
    go_wp2_with fail
    go_ret
    exact ⟨rfl, hB⟩
  · have HEr : Hid (Pl.sameP r r = true) := (Pl.same_iff r r).2 rfl
    go_enter Try.func4, Try.ntmps4
    go_wp2_with fail
    refine (copy_any _ _ p _ hp).mono ?_
    rintro e w1 ⟨v1, rfl, hown, hb⟩
    obtain ⟨a1, c1, rfl, s1⟩ := own_strs hown lp hp.mem
    replace hp := hp.below hb; replace hq := hq.below hb; replace hB := hB.trans (hb.mono hB.size); clear hb hown
    go_wp2_with fail
    refine (copy_any _ _ q _ hq).mono ?_
    rintro e w2 ⟨v2, rfl, hown, hb⟩
    obtain ⟨a2, c2, rfl, s2⟩ := own_strs hown lq hq.mem
    replace hp := hp.below hb; replace hq := hq.below hb; replace s1 := s1.below hb; replace hB := hB.trans (hb.mono hB.size); clear hb hown
    go_wp2_with fail
    refine (name_any _ _ hm).mono ?_
    rintro e w' ⟨rfl, rfl⟩
    go_wp2_with fail
    refine (rname_any _ _ hm).mono ?_
    rintro e w' ⟨rfl, rfl⟩
    go_wp2_with fail
    refine (right_any _ _ p _ s1).mono ?_
    rintro e w' ⟨rfl, rfl⟩
    go_wp2_with fail
    refine (rright_any _ _ p _ hp).mono ?_
    rintro e w' ⟨rfl, rfl⟩
    go_wp2_with fail
    refine (print_any _ _ p _ s1).mono ?_
    rw [HP.out]
    rintro e w3 ⟨rfl, hb⟩
    replace hp := hp.below hb; replace hq := hq.below hb; replace s1 := s1.below hb; replace s2 := s2.below hb; replace hB := hB.trans (hb.mono hB.size); clear hb
    go_wp2_with fail
    refine (rprint_any _ _ p _ hp).mono ?_
    rw [HP.out]
    rintro e w' ⟨rfl, rfl⟩
    go_wp2_with fail
    refine (rel_any _ _ _ _ q p _ s2 s1).mono ?_
    rw [HR.out]
    rintro e w4 ⟨rfl, hb⟩
    replace hp := hp.below hb; replace hq := hq.below hb; replace s1 := s1.below hb; replace s2 := s2.below hb; replace hB := hB.trans (hb.mono hB.size); clear hb
    go_wp2_with fail
    refine (rrel_any _ _ _ _ q p _ hq hp).mono ?_
    rw [HR.out]
    rintro e w5 ⟨rfl, hb⟩
    replace hp := hp.below hb; replace hq := hq.below hb; replace s1 := s1.below hb; replace s2 := s2.below hb; replace hB := hB.trans (hb.mono hB.size); clear hb
    go_wp2_with fail
    refine (parent_eq H0.out _ s1).mono ?_
    rintro e w6 ⟨v6, rfl, hown, hb⟩
    obtain ⟨a6, c6, rfl, s6⟩ := own_strs hown lr HQ.out
    replace hp := hp.below hb; replace hq := hq.below hb; replace s1 := s1.below hb; replace s2 := s2.below hb; replace hB := hB.trans (hb.mono hB.size); clear hb hown
    go_wp2_with fail
    refine (rparent_eq H0.out _ hp).mono ?_
    rintro e w7 ⟨v7, rfl, hown, hb⟩
    obtain ⟨a7, c7, rfl, s7⟩ := own_strs hown lr HQ.out
    replace hp := hp.below hb; replace hq := hq.below hb; replace s1 := s1.below hb; replace s2 := s2.below hb; replace s6 := s6.below hb; replace hB := hB.trans (hb.mono hB.size); clear hb hown
    go_wp2_with fail
    refine (same_b _ _ _ _ r r _ s6 s7).mono ?_
    rw [HEr.out]
    rintro e w8 ⟨rfl, hb⟩
    replace hp := hp.below hb; replace hq := hq.below hb; replace s1 := s1.below hb; replace s2 := s2.below hb; replace hB := hB.trans (hb.mono hB.size); clear hb
    go_wp2_with fail
    refine (join_any _ _ p x _ s1 (by omega)).mono ?_
    rw [HJ.out]
    rintro e w9 ⟨v9, rfl, hown, hb⟩
    obtain ⟨a9, c9, rfl, s9⟩ := names_strs hown NJ.out
    replace hp := hp.below hb; replace hq := hq.below hb; replace s1 := s1.below hb; replace s2 := s2.below hb; replace hB := hB.trans (hb.mono hB.size); clear hb hown
    go_wp2_with fail
    refine (rjoin_any _ _ p x _ hp (by omega)).mono ?_
    rw [HJ.out]
    rintro e w10 ⟨v10, rfl, hown, hb⟩
    obtain ⟨a10, c10, rfl, s10⟩ := names_strs hown NJ.out
    replace hp := hp.below hb; replace hq := hq.below hb; replace s1 := s1.below hb; replace s2 := s2.below hb; replace s9 := s9.below hb; replace hB := hB.trans (hb.mono hB.size); clear hb hown
    go_wp2_with fail
    refine (same_b _ _ _ _ J J _ s9 s10).mono ?_
    rw [HEJ.out]
    rintro e w11 ⟨rfl, hb⟩
    replace hp := hp.below hb; replace hq := hq.below hb; replace s1 := s1.below hb; replace s2 := s2.below hb; replace hB := hB.trans (hb.mono hB.size); clear hb
    go_wp2_with fail
    refine (same_b _ _ _ _ p p _ s1 hp).mono ?_
    rw [HEp.out]
    rintro e w12 ⟨rfl, hb⟩
    replace hq := hq.below hb; replace s2 := s2.below hb; replace hB := hB.trans (hb.mono hB.size); clear hb
    go_wp2_with fail
    refine (same_b _ _ _ _ q q _ s2 hq).mono ?_
    rw [HEq.out]
    rintro e w13 ⟨rfl, hb⟩
    replace hB := hB.trans (hb.mono hB.size); clear hb
    go_wp2_with fail
    go_ret
    exact ⟨rfl, hB⟩
end Go.Proofs.Ytjmfgffihkbnlab
