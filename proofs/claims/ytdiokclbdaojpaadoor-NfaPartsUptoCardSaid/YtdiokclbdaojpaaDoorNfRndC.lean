/- What (*layout).round does, laid or copied. -/
import Derived.Test.YtdiokclbdaojpaaDoorNfRndB
namespace Go.Proofs.YtdiokclbdaojpaaDoor
open Go.RowKit

namespace Nt
/-- A round's code. -/
def rnd (T : NT) (p f : Nat) : List Ins := rndC (decide (0 < grps.grpsL T.kids)) (glo T) (ghi T) (codeL T.kids) p f
/-- How long it is. -/
def rln (T : NT) : Nat := if decide (0 < grps.grpsL T.kids) then sz.szL T.kids + 1 else sz.szL T.kids
theorem rnd_len (T : NT) (p f : Nat) : (rnd T p f).length = rln T := rndC_len _ _ _ _ _ (codeL_length T.kids) p f
theorem rnd_shf (T : NT) (p f d e : Nat) : rnd T (p + d) (f + e) = (rnd T p f).map (shf d e) := rndC_shf _ _ _ _ (codeL_shf T.kids (fun x _ => code_shf x)) p f d e
theorem rnd_ok (T : NT) (h1 : T.kids.length = 1) (hlt : 0 < T.kids.length) (p f : Nat) (hp : p + rln T ≤ 16385) (hf : f + cnt (T.kids[0]) ≤ 16384) : ∀ x ∈ rnd T p f, Ok 16385 16384 x := by
  refine rndC_ok 16385 16384 _ _ _ _ (sz.szL T.kids) (cnt (T.kids[0])) (fun p f hp hf => ?_) p f hp hf
  rw [codeL_one T.kids h1 hlt]
  have hs : sz.szL T.kids = sz (T.kids[0]) := by rw [← codeL_length T.kids p f, codeL_one T.kids h1 hlt, code_len]
  rw [hs] at hp
  exact code_ok 16385 16384 (T.kids[0]) p f hp hf
/-- What the block g tells of the first round: none as yet, or where it lies. -/
def Fst (w : World) (g : Nat) (T : NT) (L : List Ins) (f : Nat) : Prop := FL w g false 0 0 0 ∨ ∃ A B fr, L = A ++ rnd T A.length fr ++ B ∧ fr ≤ f ∧ FL w g true A.length (A.length + rln T) fr
theorem Fst.same {w w' : World} {g : Nat} {T : NT} {L : List Ins} {f : Nat} (h : Fst w g T L f) (hb : w'.heap[g]? = w.heap[g]?) : Fst w' g T L f := by
  rcases h with h | ⟨A, B, fr, h1, h2, h3⟩
  · exact .inl (h.same hb)
  · exact .inr ⟨A, B, fr, h1, h2, h3.same hb⟩
theorem Fst.more {w : World} {g : Nat} {T : NT} {L : List Ins} {f : Nat} (h : Fst w g T L f) (X : List Ins) : Fst w g T (L ++ X) f := by
  rcases h with h | ⟨A, B, fr, h1, h2, h3⟩
  · exact .inl h
  · exact .inr ⟨A, B ++ X, fr, by rw [h1, List.append_assoc], h2, h3⟩
theorem Fst.mono {w : World} {g : Nat} {T : NT} {L : List Ins} {f f' : Nat} (h : Fst w g T L f) (hf : f ≤ f') : Fst w g T L f' := by
  rcases h with h | ⟨A, B, fr, h1, h2, h3⟩
  · exact .inl h
  · exact .inr ⟨A, B, fr, h1, Nat.le_trans h2 hf, h3⟩
theorem Fst.lt {w : World} {g : Nat} {T : NT} {L : List Ins} {f : Nat} (h : Fst w g T L f) : g < w.heap.size := by
  rcases h with h | ⟨A, B, fr, h1, h2, h3⟩
  · exact h.lt
  · exact h3.lt
end Nt
theorem round_any (T : Nt.NT) (h1 : T.kids.length = 1) (hlt : 0 < T.kids.length) (HK : Nt.LayC 34 (T.kids[0])) (hgg : decide (0 < Nt.ghi T) = decide (0 < Nt.grps.grpsL T.kids)) (lb rb cap f b g : Nat) (L : List Nt.Ins) (P : Nat → Prop) (w : World) (hL : Nt.Ly w lb rb cap L f) (hP : ∀ x, P x → x < w.heap.size ∧ x ≠ lb ∧ x ≠ rb ∧ x ≠ g) (hpc : Nt.Pc w P T b) (hroom : L.length + Nt.rln T ≤ cap) (hcap : cap ≤ 16385) (hf : f + Nt.cnt (T.kids[0]) ≤ 16384) (ht : Nt.Tz lb rb w) (hF : Nt.Fst w g T L f) (hgl : g ≠ lb) (hgr : g ≠ rb) (hg2 : 2 ≤ g) :
    Calls Tryd.prog 78 #[.pointer (some ⟨lb, 0, none⟩), .pointer (some ⟨b, 0, none⟩), .pointer (some ⟨g, 0, none⟩)] w fun e w' => (∃ v, e = .returned v) ∧ Nt.Ly w' lb rb cap (L ++ Nt.rnd T L.length f) f ∧ Nt.Fst w' g T (L ++ Nt.rnd T L.length f) f ∧ Nt.Bg g lb rb w w' := by
  have hs : Nt.sz.szL T.kids = Nt.sz (T.kids[0]) := by rw [← Nt.codeL_length T.kids 0 0, Nt.codeL_one T.kids h1 hlt, Nt.code_len]
  rcases hF with hg | ⟨A, B, fr, hA, hfr, hg⟩
  · by_cases hp : 0 < Nt.ghi T
    · have hd : decide (0 < Nt.grps.grpsL T.kids) = true := by rw [← hgg]; exact decide_eq_true hp
      have hr : ∀ p, Nt.rnd T p f = Nt.iClear (Nt.glo T) (Nt.ghi T) :: Nt.code (T.kids[0]) (p + 1) f := fun p => by
        rw [Nt.rnd, hd, Nt.rndC, if_pos rfl, Nt.codeL_one T.kids h1 hlt]
      have hl : Nt.rln T = Nt.sz (T.kids[0]) + 1 := by rw [Nt.rln, hd, if_pos rfl, hs]
      rw [hl] at hroom
      refine Calls.mono (round_one T h1 hlt HK hp lb rb cap f b g L P w hL hP hpc hroom hcap hf ht hg hgl hgr hg2) ?_
      rintro e w' ⟨a1, a2, a3, a4⟩
      rw [← hr] at a2
      rw [← hl] at a3
      exact ⟨a1, a2, .inr ⟨L, [], f, by rw [List.append_nil], Nat.le_refl _, a3⟩, a4⟩
    · have hd : decide (0 < Nt.grps.grpsL T.kids) = false := by rw [← hgg]; exact decide_eq_false hp
      have hr : ∀ p, Nt.rnd T p f = Nt.code (T.kids[0]) p f := fun p => by
        rw [Nt.rnd, hd, Nt.rndC, if_neg (by decide), Nt.codeL_one T.kids h1 hlt]
      have hl : Nt.rln T = Nt.sz (T.kids[0]) := by rw [Nt.rln, hd, if_neg (by decide), hs]
      rw [hl] at hroom
      refine Calls.mono (round_none T h1 hlt HK hp lb rb cap f b g L P w hL hP hpc hroom hcap hf ht hg hgl hgr hg2) ?_
      rintro e w' ⟨a1, a2, a3, a4⟩
      rw [← hr] at a2
      rw [← hl] at a3
      exact ⟨a1, a2, .inr ⟨L, [], f, by rw [List.append_nil], Nat.le_refl _, a3⟩, a4⟩
  · have hn : (Nt.rnd T A.length fr).length = Nt.rln T := Nt.rnd_len T A.length fr
    have hll : L.length = A.length + (Nt.rln T + B.length) := by rw [hA, List.length_append, List.length_append, hn]; omega
    have he : Nt.rnd T L.length f = (Nt.rnd T A.length fr).map (Nt.shf ((Nt.rnd T A.length fr).length + B.length) (f - fr)) := by
      rw [← Nt.rnd_shf, hn, hll, Nat.add_sub_cancel' hfr]
    rw [he]
    have h2 := round_again lb rb cap f fr (A.length + Nt.rln T) g b A (Nt.rnd T A.length fr) B w (hA ▸ hL) ht hg hfr (Nt.rnd_ok T h1 hlt _ _ (by omega) (by omega)) (by rw [← hA, hn]; exact hroom) hcap (by omega) (by rw [hn])
    rw [← hA] at h2
    refine Calls.mono h2 ?_
    rintro e w' ⟨a1, a2, a3⟩
    exact ⟨a1, a2, .inr ⟨A, B ++ _, fr, by rw [← List.append_assoc, ← hA], hfr, hg.same (a3.block g hg.lt hgl hgr)⟩, a3.bg g⟩
end Go.Proofs.YtdiokclbdaojpaaDoor
