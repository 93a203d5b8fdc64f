/- What paths.Print answers: a path's own text. -/
import Derived.Test.YtcloljkaojnipaaGreatDoorPgA
import Derived.Test.YtcloljkaojnipaaGreatDoorPgC
namespace Go.Proofs.YtcloljkaojnipaaGreatDoor
open Go.RowKit

set_option maxHeartbeats 1000000 in
theorem print_any (a : Option Addr) (cap : Nat) (l : List ByteArray) (w : World) (h : Strs w a cap l) :
    Calls Tryz.prog 79 #[.slice a l.length cap] w fun e w' => e = .returned (.tuple #[.string (Pl.printP l).1, .int .i64 (Pl.printP l).2]) ∧ Below w.heap.size w w' := by
  have hl := h.len
  obtain ⟨i0, hi, hz0, hz1, hz2⟩ := info_parts Tryz.infoByte
  cases hr : Pl.rightP l
  · rw [Pl.print_wrong hr]
    go_enter Tryz.func79, Tryz.ntmps79
    go_wp2_with (go_at_call 35; refine (right_any _ _ l _ h).mono ?_; rintro e w' ⟨rfl, rfl⟩)
    go_ret2
    exact ⟨rfl, Below.refl _ _⟩
  by_cases h0 : l.length = 0
  · rw [Pl.print_root hr h0]
    have hb : ((l.length : Int) == 0) = true := by simpa using h0
    clear h0
    go_enter Tryz.func79, Tryz.ntmps79
    go_wp2_with (go_at_call 35; refine (right_any _ _ l _ h).mono ?_; rintro e w' ⟨rfl, rfl⟩)
    go_ret2
    exact ⟨rfl, Below.refl _ _⟩
  rw [Pl.print_text hr h0]
  have hb : ((l.length : Int) == 0) = false := by simpa using h0
  have h0' : 0 < l.length := by omega
  have hsum := Pl.right_sum hr
  clear h0
  go_enter Tryz.func79, Tryz.ntmps79
  go_wp2_with (go_at_call 35; refine (right_any _ _ l _ h).mono ?_; rintro e w' ⟨rfl, rfl⟩)
  go_loopw [4, 15] (fun v i wr => ∃ k : Nat, k ≤ l.length ∧ i = .int .i64 k ∧ wr.ownsRow w.heap.size 5 1 v (Pl.textF (l.take k)).length (bcells (Pl.textF (l.take k))) ∧ Below w.heap.size w wr)
    (fun _ i _ => l.length - (intOf i).toNat)
  case atStart => exact ⟨0, Nat.zero_le _, rfl, World.ownsRow_nil _ _ _ _, Below.refl _ _⟩
  case round =>
    obtain ⟨k, hk, rfl, hown, hnx⟩ := hrel
    have hsz := hnx.size
    by_cases hlt : k < l.length
    · obtain ⟨b, off, rfl, hb0, hc0⟩ := h.cells k hlt
      have hc : wr.cell? ⟨b, off + k, none⟩ = some (.string (l[k]'hlt)) := (hnx.cell (p := ⟨b, off + k, none⟩) hb0).trans hc0
      have HT : Hid (Pl.textF (l.take (k + 1)) = Pl.textF (l.take k) ++ [47] ++ (l[k]'hlt).data.toList) := Pl.textF_snoc l k hlt
      have hle : (Pl.textF (l.take k)).length + 1 + (l[k]'hlt).size ≤ 1024 := by
        have h1 := Pl.textF_length (l.take (k + 1))
        rw [HT.out, List.length_append, List.length_append, Pl.szL] at h1
        have h2 := Pl.sumP_take_le l (k + 1)
        simp at h1
        omega
      generalize l[k]'hlt = x at *
      generalize Pl.textF (l.take k) = T at *
      clear hc0
      go_wp2_with (at_builtin; refine wpList_append_own _ rfl (.tmp 19) (.tmp 20) 74 rfl w.heap.size 5 i0 (.int .u8 0) 1 1 Tryz.underlying74 hi hz0 hz1 hz2 rfl (by decide) _ _ _ rfl (hown.alloc _) ⟨wr.heap.size, 0, none⟩ 1 1 [.int .u8 47] rfl rfl (cell_one_new _ _ _) ?c2 ?c3 ?c4 ?c5 ?_)
      case c2 => intro u hu; simp at hu; subst hu; rfl
      case c3 => unfold maxLen; omega
      case c4 => omega
      case c5 => simp; omega
      intro v1 w1 hown1 hgrow1 _
      have hb1 : Below w.heap.size w w1 := (hnx.alloc hsz _).grown hgrow1 (by simp; omega) (fun g hg => (hown.lt g hg).1)
      have hs1 := hb1.size
      clear hgrow1 hown hc
      go_wp2_with (at_builtin; refine Lib.wpList_append_own_string _ rfl (.tmp 22) (.tmp 23) 74 9 rfl w.heap.size 5 i0 Tryz.underlying74 Tryz.underlying9 hi hz0 hz1 hz2 _ _ _ rfl hown1 x rfl ?d1 ?d2 ?d3 ?_)
      case d1 => unfold maxLen; omega
      case d2 => omega
      case d3 => exact hs1
      intro v2 w2 hown2 hgrow2 _
      have hb2 : Below w.heap.size w w2 := hb1.grown hgrow2 hs1 (fun g hg => (hown1.lt g hg).1)
      have hown3 : w2.ownsRow w.heap.size 5 1 v2 (T ++ [47] ++ x.data.toList).length (bcells (T ++ [47] ++ x.data.toList)) := by
        rw [bcells_append, bcells_append, List.length_append, List.length_append, Pl.szL, List.append_assoc]
        exact hown2
      clear hgrow2 hown1 hown2
      go_wp2
      go_roundw
      case rel => exact ⟨k + 1, by omega, by go_num, by rw [HT.out]; exact hown3, hb2⟩
      case measure => simp [intOf]; omega
    · have ht : l.take k = l := List.take_of_length_le (by omega)
      rw [ht] at hown
      have hpos : 0 < (Pl.textF l).length := by
        cases l with
        | nil => simp at h0'
        | cons x r => simp [Pl.textF]
      obtain ⟨g, co, rfl, hbg, hglt⟩ := hown.form hpos
      have hcv := conv_own hown
      clear ht
      go_wp2
      go_ret2
      exact ⟨rfl, hnx⟩
end Go.Proofs.YtcloljkaojnipaaGreatDoor
