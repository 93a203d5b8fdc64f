/- The frame of PolicyTexts' row: the reference's words out of what the row lists, and a world that holds them. -/
import Derived.Test.YtcloljkaojnipaaGreatDoorRowpo
import Derived.Test.YtcloljkaojnipaaGreatDoorPgU
namespace Go.Proofs.YtcloljkaojnipaaGreatDoor
open Go.ChangeShapes Go.WideShapes Go.ChangeAt Go.RowKit

theorem Tryz.gWords : Tryz.prog.globalNamed "paddock/paddockref05.words" = some 0 := by kernel_rfl
theorem Tryz.gWordsType : (Tryz.prog.globals[0]?).map (·.type) = some 25 := by kernel_rfl
set_option maxRecDepth 100000 in
theorem wt_of_laid {W : World} {r : List (String × DataW Unit)} (h : laidMet Tryz.prog (("paddock/paddockref05.words", Rows.laid_paddock_paddockref05_words) :: r) W) : ∃ b0 o0 c0, WT W b0 o0 c0 := by
  obtain ⟨ps, ⟨g, t, cs, fuel, p, q, hg, ht, hvar, hd, _, _⟩, _, _⟩ := h
  obtain rfl := Option.some.inj (Tryz.gWords.symm.trans hg)
  obtain rfl := Option.some.inj (Tryz.gWordsType.symm.trans ht)
  have hc := World.var?_cell Tryz.gWords hvar 0
  rcases Deep.open_strs Tryz.underlying25 Tryz.underlying9 Tryz.cellsS hd with ⟨_, hx⟩ | ⟨a, len, cap, m, Sx, hcs, _, hl, hm, hmm, hx, hcell⟩
  · have := congrArg Prod.fst hx
    simp [Rows.laid_paddock_paddockref05_words] at this
  · have hx1 := congrArg Prod.fst hx
    simp only [Rows.laid_paddock_paddockref05_words, DataW.slice.injEq] at hx1
    obtain ⟨h1, h2⟩ := hx1
    have hlen : len = 6 := by have := congrArg List.length h1; simpa using this.symm
    have hm6 : 6 ≤ m := by rw [hmm]; split <;> omega
    subst hlen
    simp [List.range_succ] at h1
    obtain ⟨s0, s1, s2, s3, s4, s5⟩ := h1
    obtain ⟨b, off, spot⟩ := a
    have hspot : spot = none := by simpa [Addr.add] using World.cell?_spot (hcell 0 (by omega)).1
    subst hspot
    refine ⟨b, off, cap, ?_, fun k hk => ?_⟩
    · rw [hc]
      obtain ⟨l⟩ := cs
      simp only at hcs
      subst hcs
      rfl
    · have hk2 := (hcell k (by omega)).1
      rw [add_plain] at hk2
      rw [hk2]
      congr 2
      apply Ln.data_inj
      show _ = Pl.wd k ++ [32]
      match k, hk with
      | 0, _ => exact s0.symm
      | 1, _ => exact s1.symm
      | 2, _ => exact s2.symm
      | 3, _ => exact s3.symm
      | 4, _ => exact s4.symm
      | 5, _ => exact s5.symm
theorem ptw_of_laid {W : World} (hs : W.ShapedOpen Tryz.prog) (h : laidMetH Tryz.prog [("math/bits.deBruijn32tab", Rows.laid_math_bits_deBruijn32tab), ("math/bits.deBruijn64tab", Rows.laid_math_bits_deBruijn64tab), ("internal/strconv.uint64pow10", Rows.laid_internal_strconv_uint64pow10), ("paddock/paddockref05.words", Rows.laid_paddock_paddockref05_words), ("strconv.ErrRange", Rows.laid_strconv_ErrRange), ("strconv.ErrSyntax", Rows.laid_strconv_ErrSyntax), ("paddock/lines.letters", Rows.laid_paddock_lines_letters), ("paddock/lines.octals", Rows.laid_paddock_lines_octals)] W) : PT W ∧ ∃ b0 o0 c0, WT W b0 o0 c0 := by
  have h0 : laidMet Tryz.prog [("math/bits.deBruijn32tab", Rows.laid_math_bits_deBruijn32tab), ("math/bits.deBruijn64tab", Rows.laid_math_bits_deBruijn64tab), ("internal/strconv.uint64pow10", Rows.laid_internal_strconv_uint64pow10), ("paddock/paddockref05.words", Rows.laid_paddock_paddockref05_words), ("strconv.ErrRange", Rows.laid_strconv_ErrRange), ("strconv.ErrSyntax", Rows.laid_strconv_ErrSyntax), ("paddock/lines.letters", Rows.laid_paddock_lines_letters), ("paddock/lines.octals", Rows.laid_paddock_lines_octals)] W := h
  have h1 := laid_tail h0
  have h2 := laid_tail h1
  have h3w := laid_tail h2
  have h3 := laid_tail h3w
  have h5 := laid_tail (laid_tail h3)
  rw [pow_data] at h2
  exact ⟨⟨tabs_of_laid (size_of_laid h1 rfl) h5, Lib.tabIs_of_head Tryz.gPow Tryz.gPowType Tryz.underlying160 Tryz.underlying131 Tryz.cellsU64 Tryz.cellsPow h2, err_of_laid h3,
    cell_of_shapedOpen_int (t := 3) (zero := #[.int .i64 0]) hs (of_decide_eq_true (by kernel_rfl)) (by kernel_rfl) rfl (by kernel_rfl) (by kernel_rfl) Tryz.underlying3⟩, wt_of_laid h3w⟩
/-- The words' variable, pointing to block n. -/
noncomputable def laidWords (n : Nat) : Obj → Obj
  | .cells _ t frozen => .cells #[.slice (some ⟨n, 0, none⟩) 6 6] t frozen
  | o => o
noncomputable def laidWorldW (os : Os) : World :=
  { laidWorld os with heap := ((laidWorld os).heap.modify 0 (laidWords ((World.holding Tryz.prog os ⟨#[], #[], []⟩).heap.size + 2))).push (.cells #[.string ⟨#[114, 101, 97, 100, 32]⟩, .string ⟨#[119, 114, 105, 116, 101, 32]⟩, .string ⟨#[102, 117, 101, 108, 32]⟩, .string ⟨#[109, 101, 109, 111, 114, 121, 32]⟩, .string ⟨#[111, 117, 116, 112, 117, 116, 32]⟩, .string ⟨#[101, 97, 99, 104, 32]⟩] 9) }
end Go.Proofs.YtcloljkaojnipaaGreatDoor
