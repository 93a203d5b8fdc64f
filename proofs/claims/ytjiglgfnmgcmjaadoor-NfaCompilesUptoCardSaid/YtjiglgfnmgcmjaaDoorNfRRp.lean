/- What the reference's repeat does: plain parts. -/
import Derived.Test.YtjiglgfnmgcmjaaDoorNfRAlt
import Derived.Test.YtjiglgfnmgcmjaaDoorNfRep
namespace Go.Proofs.YtjiglgfnmgcmjaaDoor
open Go Go.RowKit

namespace Nt
/-- What the reference's repeat does with a tree. -/
def RepC (T : NT) : Prop := ∀ (a : Option Addr) (cap lb : Nat) (L : List Ins) (gr sl : Int) (v : Value) (f : Nat) (w : World), Rg w lb L gr sl v → Nd w (· < lb) T a cap → L.length + sz T ≤ 16384 → f + cnt T ≤ 16384 →
    Calls Tryd.prog 64 #[.pointer (some ⟨lb, 0, none⟩), ndV T a cap, .int .i64 (f : Int)] w fun e w' => (∃ u, e = .returned u) ∧ ∃ v', Rg w' lb (L ++ code T L.length f) gr (sloF sl (code T L.length f)) v' ∧ Rz lb v v' w w'
theorem one_kid : ∀ (l : List NT) (_h : l.length = 1) (h0 : 0 < l.length), l = [l[0]]
  | [_x], _, _ => rfl
/-- Of a right repeat, the round is the reference's. -/
theorem rnd_ref {T : NT} {nx nx' : Nat} {op : List Nat} (hn : 1 ≤ nx) (h : numP T nx op = some nx') (hk : T.k = 5) (h1 : T.kids.length = 1) (h0 : 0 < T.kids.length) : (∀ p f, rndR (T.kids[0]) p f = rnd T p f) ∧ rlnR (T.kids[0]) = rln T := by
  obtain ⟨_, hkid⟩ := num_kids hn h
  obtain ⟨n, n', o, hn1, hx⟩ := hkid _ (List.getElem_mem h0)
  have hg := has_groups hn1 hx
  obtain ⟨_, ga, gb, gc⟩ := groups_are _ n n' o hn1 hx
  have hl := one_kid T.kids h1 h0
  have e1 : grps.grpsL T.kids = grps (T.kids[0]) := by
    conv => lhs; rw [hl]
    simp [grps.grpsL]
  have e2 : glo T = glo (T.kids[0]) := by
    rw [glo_eq, hk]
    conv => lhs; rw [hl]
    simp [glo.gloL]
  have e3 : ghi T = ghi (T.kids[0]) := by
    rw [ghi_eq, hk]
    conv => lhs; rw [hl]
    have : 0 ≤ ghi (T.kids[0]) := by rw [gc]; unfold highP; split <;> omega
    simp [ghi.ghiL]; omega
  have e4 : rlo (T.kids[0]) = glo (T.kids[0]) := by rw [ga, gb]
  have e5 : ∀ p f, codeL T.kids p f = code (T.kids[0]) p f := codeL_one T.kids h1 h0
  have e6 : sz.szL T.kids = sz (T.kids[0]) := by
    conv => lhs; rw [hl]
    simp [sz.szL]
  refine ⟨fun p f => ?_, ?_⟩
  · rw [rndR, rnd, hg.2, e1, e2, e3, e4]
    unfold rndC
    rw [e5, e5]
  · rw [rlnR, rln, hg.2, e1, e6]
/-- A free round without its split. -/
def freT (T : NT) (p f : Nat) : List Ins := iMark f :: rnd T (p + 1) (f + 1) ++ [iMoved f]
theorem fre_is (T : NT) (fin p f : Nat) : fre T fin p f = iSplit fin :: freT T (p + 1) f := rfl
theorem freT_len (T : NT) (p f : Nat) : (freT T p f).length = rln T + 2 := by simp [freT, rnd_len]
theorem sloF_may (T : NT) (t t' f : Nat) : ∀ (n : Nat) (s : Int) (p : Nat), sloF s (mayC n (rln T) t (rnd T) p f) = sloF s (mayC n (rln T) t' (rnd T) p f)
  | 0, _, _ => rfl
  | n + 1, s, p => by
    rw [mayC_snoc, mayC_snoc, sloF_app, sloF_app, sloF_may T t t' f n, fre_is, fre_is, sloF_split, sloF_split]
end Nt
end Go.Proofs.YtjiglgfnmgcmjaaDoor
