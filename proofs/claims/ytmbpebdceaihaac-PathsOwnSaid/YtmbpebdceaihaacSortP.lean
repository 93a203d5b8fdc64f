/- slices.SortFunc of a row of paths by paths.Compare: the same paths, rising. -/
import Derived.Test.YtmbpebdceaihaacSorting
import Derived.Deep.Slices
namespace Go.Proofs.Ytmbpebdceaihaac
open Go.RowKit Go.Shelf Go.Lib Go.Sort

theorem sortP_any {base g cap : Nat} {l : List (List ByteArray)} {xs : List Value} (w : World) (hl : l.length ≤ 5864062014806) (ox : w.ownsRow base 23 1 (.slice (some ⟨g, 0, none⟩) l.length cap) l.length xs) (ex : Elts w (some g) xs l) :
    Calls Try.prog 19 #[.slice (some ⟨g, 0, none⟩) l.length cap, .func (.func 20) #[] #[]] w fun e w' => e = .returned (.tuple #[]) ∧
      ∃ S : List (List ByteArray), S.Perm l ∧ (∀ i j (hi : i < j) (hj : j < S.length), Pl.cmpP (S[i]'(by omega)) (S[j]'hj) ≤ 0) ∧ Pts w' (some ⟨g, 0, none⟩) cap S ∧ w.grownBy w' (some g) := by
  obtain ⟨hbg, hgl⟩ := ox.lt g rfl
  have hcap : l.length ≤ cap ∧ cap ≤ maxLen := by
    rcases ox.2 with ⟨h0, _⟩ | ⟨g', cap', cur, hv, _, _, h1, h2, _⟩
    · cases h0
    · cases hv; exact ⟨h1, h2⟩
  obtain ⟨f, hf⟩ := Deep.choose_lt (α := Option Addr × Nat) (n := l.length) (p := fun i y => ∀ h : i < l.length, xs[i]? = some (.slice y.1 (l[i]'h).length y.2) ∧ Strs w y.1 y.2 (l[i]'h) ∧ Off y.1 (l[i]'h) (some g))
    (fun i hi => by obtain ⟨x, c, h1, h2, h3⟩ := ex i hi; exact ⟨(x, c), fun _ => ⟨h1, h2, h3⟩⟩)
  let mk : Fin l.length → El w g := fun i => ⟨(f i.1).1, (f i.1).2, l[i.1]'i.2, (hf i.1 i.2 i.2).2.1, (hf i.1 i.2 i.2).2.2⟩
  let d : Array (El w g) := Array.ofFn mk
  have hd : d.size = l.length := Array.size_ofFn
  have hdj : ∀ j (h : j < l.length), d[j]! = mk ⟨j, h⟩ := fun j h => by
    rw [getElem!_pos d j (by rw [hd]; exact h)]
    exact Array.getElem_ofFn (by rw [hd]; exact h)
  have hH : Holds El.enc w g 0 d := fun j hj => by
    rw [hd] at hj
    refine ⟨?_, ox.frozenAt _⟩
    rw [Nat.zero_add, ox.cellAt j (by omega), (hf j hj hj).1, hdj j hj]
    rfl
  have hmap : d.toList.map (·.l) = l := by
    apply List.ext_getElem
    · simp [hd]
    · intro i h1 h2
      simp only [List.getElem_map, Array.getElem_toList]
      have := hdj i h2
      rw [getElem!_pos d i (by rw [hd]; exact h2)] at this
      rw [this]
  have hc := sort_els 0 cap d hH hgl (by rw [hd]; omega)
  rw [hd] at hc
  refine hc.mono ?_
  rintro e w' ⟨he, d', n, os, ⟨hsz', _, hperm⟩, hsrt, rfl⟩
  have hds : d'.size = l.length := by rw [hsz', hd]
  have hgr := sort_grown (El.enc (w := w) (g := g)) w g 0 n d' os
  have hH' := holds_sortWorld El.enc w g 0 n d d' os hgl hH (by rw [hds, hd])
  refine ⟨he, d'.toList.map (·.l), ?_, fun i j hi hj => ?_, ⟨by simp; omega, fun h => (by cases h), by simp [hds]; exact hcap.1, hcap.2, fun i hi => ?_⟩, hgr⟩
  · have e1 : (d'.extract 0 l.length).toList = d'.toList := by rw [← hds]; simp
    have e2 : (d.extract 0 l.length).toList = d.toList := by rw [← hd]; simp
    rw [e1, e2] at hperm
    have := hperm.map (·.l)
    rwa [hmap] at this
  · have hj' : j < d'.size := by simpa using hj
    have := hsrt i j (Nat.zero_le _) hi (by omega)
    rw [getElem!_pos d' j hj', getElem!_pos d' i (by omega)] at this
    have k1 : ¬ Pl.cmpP (d'[j]'hj').l (d'[i]'(by omega)).l < 0 := of_decide_eq_false this
    have k2 := Pl.cmpP_cmp.neg (d'[i]'(by omega)).l (d'[j]'hj').l
    simp only [List.getElem_map, Array.getElem_toList]
    omega
  · have hi' : i < d'.size := by simpa using hi
    have h1 := (hH' i hi').1
    rw [getElem!_pos d' i hi'] at h1
    refine ⟨g, 0, (d'[i]'hi').x, (d'[i]'hi').c, rfl, Nat.lt_of_lt_of_le hgl hgr.size, ?_, ?_⟩
    · rw [h1]; simp [El.enc]
    · simp only [List.getElem_map, Array.getElem_toList]
      exact (d'[i]'hi').s.grownO hgr (d'[i]'hi').o
end Go.Proofs.Ytmbpebdceaihaac
