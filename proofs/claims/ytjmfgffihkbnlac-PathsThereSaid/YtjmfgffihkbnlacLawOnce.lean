/- PathsOnce answers true for every two paths and every text: the walk of the law over its callees' contracts. -/
import Derived.Test.YtjmfgffihkbnlacBegins
import Derived.Test.YtjmfgffihkbnlacPlainNorm
namespace Go.Proofs.Ytjmfgffihkbnlac
open Go.RowKit

theorem names_strs {w : World} {base : Nat} {e : TypeId} {v : Value} {l : List ByteArray} (h : w.ownsRow base e 1 v l.length (l.map Value.string)) (hn : l.all Pl.nameB = true ∧ l.length ≤ 1024) :
    ∃ a cap, v = .slice a l.length cap ∧ Strs w a cap l := own_strs h (by omega) (names_size hn.1)

set_option maxHeartbeats 4000000 in
theorem once_any (ap aq : Option Addr) (cp cq : Nat) (l o : List ByteArray) (s : ByteArray) (w : World) (hp : Strs w ap cp l) (hq : Strs w aq cq o) (hs : s.size ≤ 140737488351232) :
    Calls Try.prog 4 #[.slice ap l.length cp, .slice aq o.length cq, .string s] w fun e w' => e = .returned (.bool true) ∧ Below w.heap.size w w' := by
  have lp := hp.len
  have lq := hq.len
  have hB : Below w.heap.size w w := Below.refl _ _
  have nm := Pl.normal_names l s
  obtain ⟨P, D, C, hN⟩ : ∃ P D C, Pl.normalP l s = (P, D, C) := ⟨_, _, _, rfl⟩
  have HN : Hid (Pl.normalP l s = (P, D, C)) := hN
  rw [hN] at nm
  have NM : Hid (P.all Pl.nameB = true ∧ P.length ≤ 1024) := nm
  have plen := nm.2
  by_cases hC : C = 0
  · have hz : (Pl.normalP l s).2.2 = 0 := by rw [hN]; exact hC
    obtain ⟨hr, hrl, hs1, hs2⟩ := Pl.normal_right hz
    rw [hN] at hr
    have hr : Pl.rightP P = true := hr
    have h0 := Pl.size_pos hs2
    have HA : Hid (∀ q, Pl.rightP q = true → ((s[0].toNat : Int) != 47) = false → Pl.normalP q s = (P, D, C)) := fun q hq hb => by
      have hb' : ((s[0].toNat : Int) == 47) = true := by simpa using hb
      rw [Pl.normal_abs hz hq (by rw [Pl.head_byte h0, Pl.byte_slash hb']), hN]
    obtain ⟨t, hpr, ht1, ⟨ht3, ht4⟩, hT⟩ := Pl.text_facts hr
    have HT : Hid (∀ q, Pl.rightP q = true → (Pl.normalP q t).1 = P ∧ (Pl.normalP q t).2.2 = 0) := hT
    have HPR : Hid (Pl.printP P = (t, 0)) := hpr
    have hrn : Pl.rightP [] = true := by decide +kernel
    have HE : Hid (Pl.sameP P P = true) := (Pl.same_iff P P).2 rfl
    clear hpr hT hz hN nm hs2
    subst hC
    cases ro : Pl.rightP o
    · cases hsl : ((s[0].toNat : Int) != 47)
      · go_enter Try.func4, Try.ntmps4
        go_wp2_with fail
        refine (begins_any _).mono ?_
        rintro e w1 ⟨rfl, hb⟩
        replace hp := hp.below hb; replace hq := hq.below hb; replace hB := hB.trans (hb.mono hB.size); clear hb
        go_wp2_with fail
        refine (normal_any _ _ l s _ hp (by omega)).mono ?_
        rw [HN.out]
        rintro e w2 ⟨v2, rfl, hown, hb⟩
        obtain ⟨a2, c2, rfl, s2⟩ := names_strs hown NM.out
        replace hp := hp.below hb; replace hq := hq.below hb; replace hB := hB.trans (hb.mono hB.size); clear hb hown
        go_wp2_with fail
        refine (right_any _ _ P _ s2).mono ?_
        rintro e w' ⟨rfl, rfl⟩
        go_wp2_with fail
        refine (print_any _ _ P _ s2).mono ?_
        rw [HPR.out]
        rintro e w3 ⟨rfl, hb⟩
        replace s2 := s2.below hb; replace hp := hp.below hb; replace hq := hq.below hb; replace hB := hB.trans (hb.mono hB.size); clear hb
        go_wp2_with fail
        refine (right_any _ _ o _ hq).mono ?_
        rintro e w' ⟨rfl, rfl⟩
        go_wp2_with fail
        refine (normal_any _ _ [] t _ (Strs.empty _) (by omega)).mono ?_
        obtain ⟨e1, e2⟩ := HT.out [] hrn
        obtain ⟨D2, hN2⟩ : ∃ D2, Pl.normalP [] t = (P, D2, 0) := ⟨_, Prod.ext e1 (Prod.ext rfl e2)⟩
        rw [hN2]
        clear e1 e2 hN2
        rintro e w4 ⟨v4, rfl, hown, hb⟩
        obtain ⟨a4, c4, rfl, s4⟩ := names_strs hown NM.out
        replace s2 := s2.below hb; replace hq := hq.below hb; replace hB := hB.trans (hb.mono hB.size); clear hb hown
        go_wp2_with fail
        refine (same_b _ _ _ _ P P _ s4 s2).mono ?_
        rw [HE.out]
        rintro e w5 ⟨rfl, hb⟩
        replace s2 := s2.below hb; replace hq := hq.below hb; replace hB := hB.trans (hb.mono hB.size); clear hb
        go_wp2_with fail
        refine (normal_any _ _ [] s _ (Strs.empty _) (by omega)).mono ?_
        rw [HA.out [] hrn hsl]
        rintro e w6 ⟨v6, rfl, hown, hb⟩
        obtain ⟨a6, c6, rfl, s6⟩ := names_strs hown NM.out
        replace s2 := s2.below hb; replace hB := hB.trans (hb.mono hB.size); clear hb hown
        go_wp2_with fail
        refine (same_b _ _ _ _ P P _ s6 s2).mono ?_
        rw [HE.out]
        rintro e w7 ⟨rfl, hb⟩
        replace hB := hB.trans (hb.mono hB.size); clear hb
        go_wp2_with fail
        go_ret
        exact ⟨rfl, hB⟩
      · go_enter Try.func4, Try.ntmps4
        go_wp2_with fail
        refine (begins_any _).mono ?_
        rintro e w1 ⟨rfl, hb⟩
        replace hp := hp.below hb; replace hq := hq.below hb; replace hB := hB.trans (hb.mono hB.size); clear hb
        go_wp2_with fail
        refine (normal_any _ _ l s _ hp (by omega)).mono ?_
        rw [HN.out]
        rintro e w2 ⟨v2, rfl, hown, hb⟩
        obtain ⟨a2, c2, rfl, s2⟩ := names_strs hown NM.out
        replace hp := hp.below hb; replace hq := hq.below hb; replace hB := hB.trans (hb.mono hB.size); clear hb hown
        go_wp2_with fail
        refine (right_any _ _ P _ s2).mono ?_
        rintro e w' ⟨rfl, rfl⟩
        go_wp2_with fail
        refine (print_any _ _ P _ s2).mono ?_
        rw [HPR.out]
        rintro e w3 ⟨rfl, hb⟩
        replace s2 := s2.below hb; replace hp := hp.below hb; replace hq := hq.below hb; replace hB := hB.trans (hb.mono hB.size); clear hb
        go_wp2_with fail
        refine (right_any _ _ o _ hq).mono ?_
        rintro e w' ⟨rfl, rfl⟩
        go_wp2_with fail
        refine (normal_any _ _ [] t _ (Strs.empty _) (by omega)).mono ?_
        obtain ⟨e1, e2⟩ := HT.out [] hrn
        obtain ⟨D2, hN2⟩ : ∃ D2, Pl.normalP [] t = (P, D2, 0) := ⟨_, Prod.ext e1 (Prod.ext rfl e2)⟩
        rw [hN2]
        clear e1 e2 hN2
        rintro e w4 ⟨v4, rfl, hown, hb⟩
        obtain ⟨a4, c4, rfl, s4⟩ := names_strs hown NM.out
        replace s2 := s2.below hb; replace hq := hq.below hb; replace hB := hB.trans (hb.mono hB.size); clear hb hown
        go_wp2_with fail
        refine (same_b _ _ _ _ P P _ s4 s2).mono ?_
        rw [HE.out]
        rintro e w5 ⟨rfl, hb⟩
        replace s2 := s2.below hb; replace hq := hq.below hb; replace hB := hB.trans (hb.mono hB.size); clear hb
        go_wp2_with fail
        go_ret
        exact ⟨rfl, hB⟩
    · cases hsl : ((s[0].toNat : Int) != 47)
      · go_enter Try.func4, Try.ntmps4
        go_wp2_with fail
        refine (begins_any _).mono ?_
        rintro e w1 ⟨rfl, hb⟩
        replace hp := hp.below hb; replace hq := hq.below hb; replace hB := hB.trans (hb.mono hB.size); clear hb
        go_wp2_with fail
        refine (normal_any _ _ l s _ hp (by omega)).mono ?_
        rw [HN.out]
        rintro e w2 ⟨v2, rfl, hown, hb⟩
        obtain ⟨a2, c2, rfl, s2⟩ := names_strs hown NM.out
        replace hp := hp.below hb; replace hq := hq.below hb; replace hB := hB.trans (hb.mono hB.size); clear hb hown
        go_wp2_with fail
        refine (right_any _ _ P _ s2).mono ?_
        rintro e w' ⟨rfl, rfl⟩
        go_wp2_with fail
        refine (print_any _ _ P _ s2).mono ?_
        rw [HPR.out]
        rintro e w3 ⟨rfl, hb⟩
        replace s2 := s2.below hb; replace hp := hp.below hb; replace hq := hq.below hb; replace hB := hB.trans (hb.mono hB.size); clear hb
        go_wp2_with fail
        refine (right_any _ _ o _ hq).mono ?_
        rintro e w' ⟨rfl, rfl⟩
        go_wp2_with fail
        refine (normal_any _ _ o t _ hq (by omega)).mono ?_
        obtain ⟨e1, e2⟩ := HT.out o ro
        obtain ⟨D2, hN2⟩ : ∃ D2, Pl.normalP o t = (P, D2, 0) := ⟨_, Prod.ext e1 (Prod.ext rfl e2)⟩
        rw [hN2]
        clear e1 e2 hN2
        rintro e w4 ⟨v4, rfl, hown, hb⟩
        obtain ⟨a4, c4, rfl, s4⟩ := names_strs hown NM.out
        replace s2 := s2.below hb; replace hq := hq.below hb; replace hB := hB.trans (hb.mono hB.size); clear hb hown
        go_wp2_with fail
        refine (same_b _ _ _ _ P P _ s4 s2).mono ?_
        rw [HE.out]
        rintro e w5 ⟨rfl, hb⟩
        replace s2 := s2.below hb; replace hq := hq.below hb; replace hB := hB.trans (hb.mono hB.size); clear hb
        go_wp2_with fail
        refine (normal_any _ _ o s _ hq (by omega)).mono ?_
        rw [HA.out o ro hsl]
        rintro e w6 ⟨v6, rfl, hown, hb⟩
        obtain ⟨a6, c6, rfl, s6⟩ := names_strs hown NM.out
        replace s2 := s2.below hb; replace hB := hB.trans (hb.mono hB.size); clear hb hown
        go_wp2_with fail
        refine (same_b _ _ _ _ P P _ s6 s2).mono ?_
        rw [HE.out]
        rintro e w7 ⟨rfl, hb⟩
        replace hB := hB.trans (hb.mono hB.size); clear hb
        go_wp2_with fail
        go_ret
        exact ⟨rfl, hB⟩
      · go_enter Try.func4, Try.ntmps4
        go_wp2_with fail
        refine (begins_any _).mono ?_
        rintro e w1 ⟨rfl, hb⟩
        replace hp := hp.below hb; replace hq := hq.below hb; replace hB := hB.trans (hb.mono hB.size); clear hb
        go_wp2_with fail
        refine (normal_any _ _ l s _ hp (by omega)).mono ?_
        rw [HN.out]
        rintro e w2 ⟨v2, rfl, hown, hb⟩
        obtain ⟨a2, c2, rfl, s2⟩ := names_strs hown NM.out
        replace hp := hp.below hb; replace hq := hq.below hb; replace hB := hB.trans (hb.mono hB.size); clear hb hown
        go_wp2_with fail
        refine (right_any _ _ P _ s2).mono ?_
        rintro e w' ⟨rfl, rfl⟩
        go_wp2_with fail
        refine (print_any _ _ P _ s2).mono ?_
        rw [HPR.out]
        rintro e w3 ⟨rfl, hb⟩
        replace s2 := s2.below hb; replace hp := hp.below hb; replace hq := hq.below hb; replace hB := hB.trans (hb.mono hB.size); clear hb
        go_wp2_with fail
        refine (right_any _ _ o _ hq).mono ?_
        rintro e w' ⟨rfl, rfl⟩
        go_wp2_with fail
        refine (normal_any _ _ o t _ hq (by omega)).mono ?_
        obtain ⟨e1, e2⟩ := HT.out o ro
        obtain ⟨D2, hN2⟩ : ∃ D2, Pl.normalP o t = (P, D2, 0) := ⟨_, Prod.ext e1 (Prod.ext rfl e2)⟩
        rw [hN2]
        clear e1 e2 hN2
        rintro e w4 ⟨v4, rfl, hown, hb⟩
        obtain ⟨a4, c4, rfl, s4⟩ := names_strs hown NM.out
        replace s2 := s2.below hb; replace hq := hq.below hb; replace hB := hB.trans (hb.mono hB.size); clear hb hown
        go_wp2_with fail
        refine (same_b _ _ _ _ P P _ s4 s2).mono ?_
        rw [HE.out]
        rintro e w5 ⟨rfl, hb⟩
        replace s2 := s2.below hb; replace hq := hq.below hb; replace hB := hB.trans (hb.mono hB.size); clear hb
        go_wp2_with fail
        go_ret
        exact ⟨rfl, hB⟩
  · have hz : ¬ (Pl.normalP l s).2.2 = 0 := by rw [hN]; exact hC
    obtain ⟨h1, h2⟩ := Pl.normal_code hz
    rw [hN] at h1 h2
    have h1 : P = [] := h1
    have h2 : C = 20 ∨ C = 4 := h2
    clear hz hN nm NM plen hC
    subst h1
    rcases h2 with rfl | rfl
    all_goals
      go_enter Try.func4, Try.ntmps4
      go_wp2_with fail
      refine (begins_any _).mono ?_
      rintro e w1 ⟨rfl, hb⟩
      replace hp := hp.below hb; replace hB := hB.trans (hb.mono hB.size); clear hb
      go_wp2_with fail
      refine (normal_any _ _ l s _ hp (by omega)).mono ?_
      rw [HN.out]
      rintro e w2 ⟨v2, rfl, hown, hb⟩
      obtain ⟨a2, c2, rfl, s2⟩ := names_strs hown ⟨rfl, by simp⟩
      replace hB := hB.trans (hb.mono hB.size); clear hb hown
      go_wp2_with fail
      go_ret
      exact ⟨rfl, hB⟩
end Go.Proofs.Ytjmfgffihkbnlac
