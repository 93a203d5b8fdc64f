/- What bytes.Cut answers at a line feed. -/
import Derived.Test.YtngmaijfahjfcaaSpPc
import Derived.Test.YtngmaijfahjfcaaSpV2
import Derived.Test.YtngmaijfahjfcaaLibs
namespace Go.Proofs.Ytngmaijfahjfcaa
open Go.RowKit

theorem bytesOf_nums (l : List UInt8) : Lib.bytesOf (l.map fun b => (b.toNat : Int)) = l := by
  unfold Lib.bytesOf
  rw [List.map_map]
  conv => rhs; rw [← List.map_id l]
  apply List.map_congr_left
  intro b _
  simp
theorem index_any (v : Value) (l : List UInt8) (g2 : Nat) (w : World) (h : Byt w v l) (h2 : w.cell? ⟨g2, 0, none⟩ = some (.int .u8 10)) :
    Calls Try.prog 60 #[v, .slice (some ⟨g2, 0, none⟩) 1 1] w fun e w' => e = .returned (.int .i64 (Sc.idx l)) ∧ w' = w := by
  rcases h with ⟨rfl, rfl⟩ | ⟨g, o, cap, cur, fr, rfl, h3, h4, h5, h6, h7, h8⟩
  · exact Any.bytes_Index_one_nil Try.lays185 g2 0 1 10 w h2
  · have q := Any.bytes_Index_one_at Try.lays185 ⟨g, o, none⟩ l.length cap g2 0 1 (l.map fun b => (b.toNat : Int)) 10 w (by simp) (fun i hi => by
      rw [add_at, cell_of_row w g (o + i) cur 5 fr h3, h8 i hi]
      simp [hi]) h2
    rw [bytesOf_nums] at q
    have e : Lib.indexByte l (10 : Int).toNat.toUInt8 = Sc.idx l := Sc.index_lf l
    rw [e] at q
    exact q
set_option maxRecDepth 100000 in
set_option maxHeartbeats 1000000 in
theorem cut_any (v : Value) (l : List UInt8) (g2 : Nat) (w : World) (h : Byt w v l) (hl : l.length ≤ 1099511627776) (h2 : w.cell? ⟨g2, 0, none⟩ = some (.int .u8 10)) :
    Calls Try.prog 34 #[v, .slice (some ⟨g2, 0, none⟩) 1 1] w fun e w' => ∃ v1 v2, e = .returned (.tuple #[v1, v2, .bool (Sc.lf l).isSome]) ∧ Byt w v1 (Sc.fst l) ∧ Byt w v2 (Sc.rst l) ∧ (∀ b, blk v2 = some b → blk v = some b) ∧ ∃ n, w' = w.drewN n := by
  have HI : Hid (Calls Try.prog 60 #[v, .slice (some ⟨g2, 0, none⟩) 1 1] w fun e w' => e = .returned (.int .i64 (Sc.idx l)) ∧ w' = w) := index_any v l g2 w h h2
  cases hlf : Sc.lf l with
  | none =>
    have e1 : Sc.idx l = -1 := by unfold Sc.idx; rw [hlf]
    have e2 : Sc.fst l = l := by unfold Sc.fst; rw [hlf]
    have e3 : Sc.rst l = [] := by unfold Sc.rst; rw [hlf]
    rw [e1] at HI
    rw [e2, e3]
    have HB : Hid (Byt w v l) := h
    clear h hlf e1 e2 e3
    go_enter Try.func34, Try.ntmps34
    go_wp2_with (first | (go_at_call 60; refine HI.out.mono ?_; rintro e w1 ⟨rfl, rfl⟩))
    go_ret3
    exact ⟨v, .slice none 0 0, rfl, HB.out, .inl ⟨rfl, rfl⟩, fun b hb => (by cases hb), 0, rfl⟩
  | some k =>
    have e1 : Sc.idx l = k := by unfold Sc.idx; rw [hlf]
    have e2 : Sc.fst l = l.take k := by unfold Sc.fst; rw [hlf]
    have e3 : Sc.rst l = l.drop (k + 1) := by unfold Sc.rst; rw [hlf]
    have hk := Sc.lf_lt hlf
    rw [e1] at HI
    rw [e2, e3]
    clear hlf e1 e2 e3
    rcases h with ⟨rfl, rfl⟩ | ⟨g, o, cap, cur, fr, rfl, h3, h4, h5, h6, h7, h8⟩
    · simp at hk
    have HB1 : Hid (Byt w (.slice (some ⟨g, o, none⟩) k cap) (l.take k)) := .inr ⟨g, o, cap, cur, fr, by rw [List.length_take, Nat.min_eq_left (by omega)], h3, by rw [List.length_take]; omega, h5, h6, h7, fun j hj => by
      rw [List.length_take] at hj
      rw [h8 j (by omega), List.getElem_take]⟩
    have HB2 : Hid (∀ a, (a = o + (k + 1) ∨ (a = o ∧ cap = k + 1)) → Byt w (.slice (some ⟨g, a, none⟩) (l.length - (k + 1)) (cap - (k + 1))) (l.drop (k + 1))) := fun a ha => .inr ⟨g, a, cap - (k + 1), cur, fr, by rw [List.length_drop], h3, by rw [List.length_drop]; omega, by omega, by omega, by rcases h7 with q | q; exact .inl q; exact .inr (by omega), fun j hj => by
      rw [List.length_drop] at hj
      rcases ha with q | ⟨_, q⟩
      · rw [q, List.getElem_drop, ← h8 (k + 1 + j) (by omega)]
        congr 1
        omega
      · omega⟩
    clear h3 h7 h8 h6
    unfold maxLen at h5
    have s1 : (0 : Int) ≤ (k : Int) := by omega
    have s2 : (k : Int) ≤ (cap : Int) := by omega
    have s3 : (k : Int) + 1 ≤ (l.length : Int) := by omega
    have s4 : IntKind.i64.wrap ((k : Int) + 1) = (k : Int) + 1 := by rw [IntKind.wrap_i64]; omega
    go_enter Try.func34, Try.ntmps34
    go_wp2_with (first | (go_at_call 60; refine HI.out.mono ?_; rintro e w1 ⟨rfl, rfl⟩))
    go_quiet (fail)
    go_wp2
    · obtain rfl : cap = k + 1 := by omega
      go_ret3
      exact ⟨_, _, rfl, HB1.out, (by simpa using HB2.out o (.inr ⟨rfl, rfl⟩)), fun b hb => hb, _, rfl⟩
    · go_ret3
      exact ⟨_, _, rfl, HB1.out, HB2.out _ (.inl rfl), fun b hb => hb, _, rfl⟩
set_option maxRecDepth 100000 in
set_option maxHeartbeats 1000000 in
/-- The first line, and whether a line feed stands behind it. -/
theorem first_any (S : Nat → Prop) (g : Nat) (s : Sc.St) (quota : Nat) (w : World) (h : Sp w S g s quota) :
    Calls Try.prog 15 #[.pointer (some ⟨g, 0, none⟩)] w fun e w' => e = .returned (.tuple #[.string (Sc.bs (Sc.fst s.p)), .bool (Sc.lf s.p).isSome]) ∧ Tu (fun _ => False) w w' := by
  obtain ⟨pv, hv, qv, h⟩ := h
  have hgl := h.gl
  obtain ⟨c0, _, _, _, _⟩ := h.cells
  have hz : s.p.length ≤ 1099511627776 := by have := h.used; have := h.quo; unfold Sc.St.used at *; omega
  have HC : Hid (Calls Try.prog 34 #[pv, .slice (some ⟨w.heap.size, 0, none⟩) 1 1] (w.alloc (.cells #[.int .u8 10] 5)) fun e w' => ∃ v1 v2, e = .returned (.tuple #[v1, v2, .bool (Sc.lf s.p).isSome]) ∧ Byt w' v1 (Sc.fst s.p) ∧ Tu (fun _ => False) w w') := by
    refine (cut_any pv s.p w.heap.size (w.alloc (.cells #[.int .u8 10] 5)) (h.p.alloc _) hz (by rw [cell_of_row _ _ 0 _ _ _ (heap_alloc_new w _)]; rfl)).mono ?_
    rintro e w' ⟨v1, v2, rfl, h1, _, _, n, rfl⟩
    exact ⟨v1, v2, rfl, h1.tu (tu_drewN _ n) (fun _ _ e => e), ((Tu.refl _ w).alloc _).trans (tu_drewN _ n) (fun _ _ e => e)⟩
  clear h
  generalize Sc.lf s.p = L at *
  go_enter Try.func15, Try.ntmps15
  go_wp2_with (first | (go_at_call 34; refine HC.out.mono ?_; rintro e w1 ⟨v1, v2, rfl, h1, h2⟩; have cv := byt_string h1; have HT : Hid (Tu (fun _ => False) w w1) := h2; clear h1 h2))
  go_ret2
  exact ⟨rfl, HT.out⟩
end Go.Proofs.Ytngmaijfahjfcaa
