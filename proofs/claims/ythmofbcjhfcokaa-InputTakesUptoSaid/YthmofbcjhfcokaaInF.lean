/- lives() of the inputs. -/
import Derived.Test.YthmofbcjhfcokaaInE
namespace Go.Proofs.Ythmofbcjhfcokaa
open Go.RowKit

namespace In
def lvT : List Tl := [(⟨#[97, 10, 98]⟩, 0), (⟨#[99, 10]⟩, 0)]
def lv1 : St := ⟨1, ⟨#[97, 10, 98]⟩, ⟨#[97, 10, 98]⟩, false, 0, ⟨0, 0, false, false, ⟨#[]⟩⟩⟩
def lv2 : St := ⟨1, ⟨#[97, 10, 98]⟩, ⟨#[98]⟩, false, 0, ⟨0, 1, false, false, ⟨#[97, 10, 98]⟩⟩⟩
def lv3 : St := ⟨2, ⟨#[99, 10]⟩, ⟨#[99, 10]⟩, false, 0, ⟨0, 2, false, false, ⟨#[97, 10, 98]⟩⟩⟩
theorem lv1_eq : lk lvT st0 = lv1 := by kernel_rfl
theorem lv2_eq : takeR lvT false lv1 = ((⟨#[97]⟩, true), true, 0, lv2) := by kernel_rfl
theorem lv3_eq : takeR lvT false lv2 = ((⟨#[98]⟩, false), true, 0, lv3) := by kernel_rfl
end In
theorem below_up {n : Nat} {A B C : World} (h : Below n A B) (h' : Below B.heap.size B C) (hn : n ≤ A.heap.size) : Below n A C :=
  ⟨h'.os.trans h.os, h'.tape.trans h.tape, h'.output.trans h.output, Nat.le_trans h.size h'.size, fun k hk => (h'.block k (by have := h.size; omega)).trans (h.block k hk)⟩
theorem below_tr {n : Nat} {A B C : World} (h : Below n A B) (h' : Below n B C) : Below n A C :=
  ⟨h'.os.trans h.os, h'.tape.trans h.tape, h'.output.trans h.output, Nat.le_trans h.size h'.size, fun k hk => (h'.block k hk).trans (h.block k hk)⟩
/-- The blocks of N are none of an input's. -/
def Apt (N : List Nat) (W w : World) (g gs : Nat) (ta : Option Addr) (av : Value) : Prop := ∀ k ∈ N, W.heap.size ≤ k ∧ k < w.heap.size ∧ ¬ iOwn g gs av k ∧ ∀ ad, ta = some ad → ad.block ≠ k
/-- An input of which all blocks are new since W, beside the blocks of N. -/
structure Ob (W : World) (g gs : Nat) (T : List In.Tl) (sep : Bool) (N : List Nat) (s : In.St) (w : World) : Prop where
  ex : ∃ ta tc av, InV w g gs T sep s ta tc av ∧ (∀ k, iOwn g gs av k → W.heap.size ≤ k) ∧ (∀ ad, ta = some ad → ad.block < w.heap.size) ∧ Apt N W w g gs ta av
  below : Below W.heap.size W w
/-- The blocks of N are as they were. -/
def Kp (N : List Nat) (w w' : World) : Prop := ∀ k ∈ N, w'.heap[k]? = w.heap[k]?
theorem Ob.still {W w w' : World} {g gs : Nat} {T : List In.Tl} {sep : Bool} {N : List Nat} {s : In.St} (h : Ob W g gs T sep N s w) (hb : Below w.heap.size w w') : Ob W g gs T sep N s w' := by
  obtain ⟨ta, tc, av, h1, h2, h0, h3⟩ := h.ex
  exact ⟨⟨ta, tc, av, h1.below hb, h2, fun ad e => Nat.lt_of_lt_of_le (h0 ad e) hb.size, fun k hk => ⟨(h3 k hk).1, Nat.lt_of_lt_of_le (h3 k hk).2.1 hb.size, (h3 k hk).2.2⟩⟩, below_up h.below hb (Nat.le_refl _)⟩
theorem Ob.kept {W w w' : World} {g gs : Nat} {T : List In.Tl} {sep : Bool} {N : List Nat} {s : In.St} (h : Ob W g gs T sep N s w) (hb : Below w.heap.size w w') : Kp N w w' := by
  obtain ⟨ta, tc, av, h1, h2, h0, h3⟩ := h.ex
  exact fun k hk => hb.block k (h3 k hk).2.1
theorem Ob.alloc {W w : World} {g gs : Nat} {T : List In.Tl} {sep : Bool} {N : List Nat} {s : In.St} (h : Ob W g gs T sep N s w) (o : Obj) : Ob W g gs T sep (w.heap.size :: N) s (w.alloc o) := by
  have h' := h.still (alloc_below w o)
  obtain ⟨ta, tc, av, h1, h2, h0, h3⟩ := h.ex
  refine ⟨⟨ta, tc, av, h1.below (alloc_below w o), h2, fun ad e => Nat.lt_of_lt_of_le (h0 ad e) (by simp), fun k hk => ?_⟩, h'.below⟩
  rcases List.mem_cons.1 hk with rfl | hk
  · exact ⟨h.below.size, by simp, fun e => absurd (h1.own_lt e) (Nat.lt_irrefl _), fun ad e => Nat.ne_of_lt (h0 ad e)⟩
  · exact ⟨(h3 k hk).1, Nat.lt_of_lt_of_le (h3 k hk).2.1 (by simp), (h3 k hk).2.2⟩
theorem Ob.less {W w : World} {g gs : Nat} {T : List In.Tl} {sep : Bool} {N N' : List Nat} {s : In.St} (h : Ob W g gs T sep N s w) (hN : ∀ k ∈ N', k ∈ N) : Ob W g gs T sep N' s w := by
  obtain ⟨ta, tc, av, h1, h2, h0, h3⟩ := h.ex
  exact ⟨⟨ta, tc, av, h1, h2, h0, fun k hk => h3 k (hN k hk)⟩, h.below⟩
/-- Blocks of N are written over; what else is new may stand in N'. -/
theorem Ob.put {W w w' : World} {g gs : Nat} {T : List In.Tl} {sep : Bool} {N N' : List Nat} {s : In.St} (h : Ob W g gs T sep N s w) (ht : Tu (fun k => k ∈ N) w w') (hN : ∀ k ∈ N', k ∈ N ∨ w.heap.size ≤ k ∧ k < w'.heap.size) : Ob W g gs T sep N' s w' := by
  obtain ⟨ta, tc, av, h1, h2, h0, h3⟩ := h.ex
  refine ⟨⟨ta, tc, av, h1.tu ht (fun k _ hk e => (h3 k e).2.2.1 hk) (fun ad e hk => (h3 _ hk).2.2.2 ad e rfl), h2, fun ad e => Nat.lt_of_lt_of_le (h0 ad e) ht.size, fun k hk => ?_⟩, below_tr h.below (ht.below h.below.size fun k hk => (h3 k hk).1)⟩
  rcases hN k hk with e | e
  · exact ⟨(h3 k e).1, Nat.lt_of_lt_of_le (h3 k e).2.1 ht.size, (h3 k e).2.2⟩
  · refine ⟨Nat.le_trans h.below.size e.1, e.2, fun q => ?_, fun ad q => ?_⟩
    · have := h1.own_lt q; omega
    · have := h0 ad q; omega
theorem Ob.turn {W w w' : World} {g gs : Nat} {T : List In.Tl} {sep : Bool} {N : List Nat} {s' : In.St} {ta : Option Addr} {tc : Nat} {av av' : Value} (hO : ∀ k, iOwn g gs av k → W.heap.size ≤ k) (h0 : ∀ ad, ta = some ad → ad.block < w.heap.size) (hA : Apt N W w g gs ta av) (hb : Below W.heap.size W w) (h' : InV w' g gs T sep s' ta tc av') (ht : Tu (iOwn g gs av) w w') (hm : moved w av av') : Ob W g gs T sep N s' w' ∧ Kp N w w' := by
  have hb2 : Below W.heap.size w w' := ht.below hb.size hO
  have hmv : ∀ k, iOwn g gs av' k → iOwn g gs av k ∨ w.heap.size ≤ k := fun k hk => by
    rcases hk with e | e | e
    · exact .inl (.inl e)
    · exact .inl (.inr (.inl e))
    · rcases hm with q | ⟨b, q, hb'⟩
      · exact .inl (.inr (.inr (by rw [← q]; exact e)))
      · rw [e] at q; cases q; exact .inr hb'
  refine ⟨⟨⟨ta, tc, av', h', fun k hk => ?_, fun ad e => Nat.lt_of_lt_of_le (h0 ad e) ht.size, fun k hk => ⟨(hA k hk).1, Nat.lt_of_lt_of_le (hA k hk).2.1 ht.size, fun e => ?_, (hA k hk).2.2.2⟩⟩, below_tr hb hb2⟩, fun k hk => ht.block k (hA k hk).2.1 (hA k hk).2.2.1⟩
  · rcases hmv k hk with e | e
    · exact hO k e
    · exact Nat.le_trans hb.size e
  · rcases hmv k e with e | e
    · exact (hA k hk).2.2.1 e
    · have := (hA k hk).2.1; omega
theorem Ob.take {W w : World} {g gs : Nat} {T : List In.Tl} {sep : Bool} {N : List Nat} {s : In.St} (h : Ob W g gs T sep N s w) (ha : s.rest.toList.isEmpty = false → 1 ≤ s.asked) (hno : s.ln.no < 1000000000000) (hz : s.rest.size ≤ 67108864) :
    Calls Try.prog 11 #[.pointer (some ⟨g, 0, none⟩)] w fun e w' => e = .returned (.tuple #[.agg #[.string (In.takeR T sep s).1.1, .bool (In.takeR T sep s).1.2], .bool (In.takeR T sep s).2.1, .int .i64 (In.takeR T sep s).2.2.1]) ∧ Ob W g gs T sep N (In.takeR T sep s).2.2.2 w' ∧ Kp N w w' := by
  obtain ⟨ta, tc, av, h1, h2, h0, h3⟩ := h.ex
  by_cases hc : s.why = 0 ∧ s.rest.toList.isEmpty = false
  · exact (take_go g gs T sep s ta tc av w h1 hc.1 hc.2 (ha hc.2) hno hz).mono fun e w' ⟨he, av', h4, ht, hm⟩ => ⟨he, Ob.turn h2 h0 h3 h.below h4 ht hm⟩
  · refine (take_no g gs T sep s ta tc av w h1 hc).mono fun e w' ⟨he, h3, hb⟩ => ?_
    unfold In.takeR
    rw [if_neg hc]
    exact ⟨he, h.still hb, h.kept hb⟩
theorem Ob.new (gs : Nat) (T : List In.Tl) (sep : Bool) (N : List Nat) (ta : Option Addr) (tc : Nat) (av : Value) (W w : World) (h : SrV w gs T 0 ta tc av) (hT : T.length ≤ 1024) (hta : ∀ ad, ta = some ad → ad.block < w.heap.size) (hb : Below W.heap.size W w) (hO : ∀ k, sOwn gs av k → W.heap.size ≤ k) (hN : ∀ k ∈ N, W.heap.size ≤ k ∧ k < w.heap.size ∧ ¬ sOwn gs av k ∧ ∀ ad, ta = some ad → ad.block ≠ k) :
    Calls Try.prog 7 #[.iface 24 (.pointer (some ⟨gs, 0, none⟩)), .int .i64 (T.length : Int), .bool sep] w fun e w' => e = .returned (.pointer (some ⟨w.heap.size, 0, none⟩)) ∧ Ob W w.heap.size gs T sep N (In.lk T In.st0) w' ∧ Kp N w w' := by
  refine (new_any gs T sep ta tc av w h hT hta).mono ?_
  rintro e w' ⟨g, av', he, h1, ht, hm, rfl⟩
  refine ⟨he, Ob.turn (w := w) (av := av) ?_ hta (fun k hk => ⟨(hN k hk).1, (hN k hk).2.1, ?_, (hN k hk).2.2.2⟩) hb h1 (ht.mono (fun k _ e => .inr e)) hm⟩
  · rintro k (e | e)
    · rw [e]; exact hb.size
    · exact hO k e
  · rintro (e | e)
    · have := (hN k hk).2.1; omega
    · exact (hN k hk).2.2.1 e
theorem Ob.err {W w : World} {g gs : Nat} {T : List In.Tl} {sep : Bool} {N : List Nat} {s : In.St} (h : Ob W g gs T sep N s w) : Calls Try.prog 12 #[.pointer (some ⟨g, 0, none⟩)] w fun e w' => e = .returned (.int .i64 s.why) ∧ w = w' := by
  obtain ⟨ta, tc, av, h1, _⟩ := h.ex
  exact err_any g gs T sep s ta tc av w h1
theorem Ob.passed {W w : World} {g gs : Nat} {T : List In.Tl} {sep : Bool} {N : List Nat} {s : In.St} (h : Ob W g gs T sep N s w) : Calls Try.prog 23 #[.pointer (some ⟨g, 0, none⟩)] w fun e w' => e = .returned (.bool s.passed) ∧ w = w' := by
  obtain ⟨ta, tc, av, h1, _⟩ := h.ex
  exact passed_any g gs T sep s ta tc av w h1
theorem Ob.now {W w : World} {g gs : Nat} {T : List In.Tl} {sep : Bool} {N : List Nat} {s : In.St} (h : Ob W g gs T sep N s w) : Calls Try.prog 28 #[.pointer (some ⟨g, 0, none⟩)] w fun e w' => e = .returned (.agg (In.tkA s.ln)) ∧ Below w.heap.size w w' := by
  obtain ⟨ta, tc, av, h1, _⟩ := h.ex
  exact now_any g gs T sep s ta tc av w h1
theorem Ob.ask {W w : World} {g gs : Nat} {T : List In.Tl} {sep : Bool} {N : List Nat} {s : In.St} (h : Ob W g gs T sep N s w) : ∃ a c, w.cell? ⟨gs, 1, none⟩ = some (.slice a s.asked c) := by
  obtain ⟨ta, tc, av, h1, _⟩ := h.ex
  obtain ⟨a, c, rfl⟩ := own_slice h1.sr.ask
  exact ⟨a, c, by rw [cell_of_row w gs _ _ _ _ h1.sr.src]; rfl⟩
/-- The blocks of a law's line. -/
theorem line_cells {w : World} {b : Nat} {x : ByteArray} {y : Bool} (h : w.heap[b]? = some (.cells #[.string x, .bool y] 34)) : w.cell? ⟨b, 0, none⟩ = some (.string x) ∧ w.cell? ⟨b, 1, none⟩ = some (.bool y) := by
  refine ⟨?_, ?_⟩ <;> (rw [cell_of_row w b _ _ _ _ h]; rfl)
theorem tls_two (w : World) (b : Nat) (x y : ByteArray) (p q : Int) (h : w.heap[b]? = some (.cells #[.string x, .int .i64 p, .string y, .int .i64 q] 48)) : Tls w (some ⟨b, 0, none⟩) 2 [(x, p), (y, q)] := by
  refine ⟨fun i hi => ⟨b, 0, rfl, lt_of_block h, ?_, ?_⟩, by simp⟩ <;>
  · match i, hi with
    | 0, _ => rw [cell_of_row w b _ _ _ _ h]; rfl
    | 1, _ => rw [cell_of_row w b _ _ _ _ h]; rfl

set_option maxRecDepth 100000 in
set_option maxHeartbeats 1000000 in
theorem lives_any (w : World) : Calls Try.prog 8 #[] w fun e w' => e = .returned (.bool true) ∧ Below w.heap.size w w' := by
  obtain ⟨w0, hw0⟩ : ∃ w0, w0 = ((w.alloc (.cells #[.string ⟨#[97, 10, 98]⟩, .int .i64 0, .string ⟨#[99, 10]⟩, .int .i64 0] 48)).alloc (.cells #[.slice (some ⟨w.heap.size, 0, none⟩) 2 2, .slice none 0 0] 27)) := ⟨_, rfl⟩
  have hs : SrV w0 (w.heap.size + 1) In.lvT 0 (some ⟨w.heap.size, 0, none⟩) 2 (.slice none 0 0) := by
    rw [hw0]
    refine ⟨?_, tls_two _ w.heap.size _ _ _ _ ?_, World.ownsRow_nil _ _ _ _, fun ad e => ?_, by simp [blk, Value.ownBlock]⟩
    · rw [show w.heap.size + 1 = (w.alloc (.cells #[.string ⟨#[97, 10, 98]⟩, .int .i64 0, .string ⟨#[99, 10]⟩, .int .i64 0] 48)).heap.size by simp]
      exact heap_alloc_new _ _
    · rw [heap_alloc_old _ _ (by simp)]
      exact heap_alloc_new w _
    · cases e
      exact ⟨by show w.heap.size ≠ _; omega, by simp [blk, Value.ownBlock]⟩
  have hb0 : Below w.heap.size w w0 := by rw [hw0]; exact ((Below.refl _ w).alloc (Nat.le_refl _) _).alloc (by simp) _
  have hz0 : w0.heap.size = w.heap.size + 1 + 1 := by rw [hw0]; simp
  have HN : Hid (Calls Try.prog 7 #[.iface 24 (.pointer (some ⟨w.heap.size + 1, 0, none⟩)), .int .i64 2, .bool false] w0 fun e w' => e = .returned (.pointer (some ⟨w.heap.size + 1 + 1, 0, none⟩)) ∧ Ob w (w.heap.size + 1 + 1) (w.heap.size + 1) In.lvT false [] In.lv1 w' ∧ Kp [] w0 w') := by
    have := Ob.new (w.heap.size + 1) In.lvT false [] (some ⟨w.heap.size, 0, none⟩) 2 (.slice none 0 0) w w0 hs (by decide) (fun ad e => by cases e; show w.heap.size < _; omega) hb0 (by
      rintro k (e | e)
      · omega
      · simp [blk, Value.ownBlock] at e) (fun k hk => by cases hk)
    rw [In.lv1_eq, hz0] at this
    exact this
  rw [hw0] at HN
  clear hs hb0 hz0 hw0
  have HT1 : Hid (∀ w1, Ob w (w.heap.size + 1 + 1) (w.heap.size + 1) In.lvT false [] In.lv1 w1 → Calls Try.prog 11 #[.pointer (some ⟨w.heap.size + 1 + 1, 0, none⟩)] w1 fun e w' => e = .returned (.tuple #[.agg #[.string ⟨#[97]⟩, .bool true], .bool true, .int .i64 0]) ∧ Ob w (w.heap.size + 1 + 1) (w.heap.size + 1) In.lvT false [] In.lv2 w' ∧ Kp [] w1 w') := fun w1 h => by
    have := h.take (fun _ => by decide) (by decide) (by decide)
    rw [In.lv2_eq] at this
    exact this
  have HT2 : Hid (∀ N w1, Ob w (w.heap.size + 1 + 1) (w.heap.size + 1) In.lvT false N In.lv2 w1 → Calls Try.prog 11 #[.pointer (some ⟨w.heap.size + 1 + 1, 0, none⟩)] w1 fun e w' => e = .returned (.tuple #[.agg #[.string ⟨#[98]⟩, .bool false], .bool true, .int .i64 0]) ∧ Ob w (w.heap.size + 1 + 1) (w.heap.size + 1) In.lvT false N In.lv3 w' ∧ Kp N w1 w') := fun N w1 h => by
    have := h.take (fun _ => by decide) (by decide) (by decide)
    rw [In.lv3_eq] at this
    exact this
  have HNo : Hid (∀ N w1, Ob w (w.heap.size + 1 + 1) (w.heap.size + 1) In.lvT false N In.lv3 w1 → Calls Try.prog 18 #[.pointer (some ⟨w.heap.size + 1 + 1, 0, none⟩)] w1 fun e w' => e = .returned (.int .i64 2) ∧ Ob w (w.heap.size + 1 + 1) (w.heap.size + 1) In.lvT false N In.lv3 w') := fun N w1 h => (number_of _ _ w1 h.now).mono fun e w' ⟨he, hb⟩ => ⟨he, h.still hb⟩
  have HLa : Hid (∀ N w1, Ob w (w.heap.size + 1 + 1) (w.heap.size + 1) In.lvT false N In.lv3 w1 → Calls Try.prog 21 #[.pointer (some ⟨w.heap.size + 1 + 1, 0, none⟩)] w1 fun e w' => e = .returned (.bool false) ∧ Ob w (w.heap.size + 1 + 1) (w.heap.size + 1) In.lvT false N In.lv3 w') := fun N w1 h => (last_of _ _ w1 h.now).mono fun e w' ⟨he, hb⟩ => ⟨he, h.still hb⟩
  go_enter Try.func8, Try.ntmps8
  have HNN : Hid (∀ w1, Calls Try.prog 7 #[.nilIface, .int .i64 2, .bool false] w1 _) := fun w1 => new_nil 2 false w1
  go_wp2_with (first
    | (go_at_call 7; have hk := K5.out; clear hk; refine (HNN.out _).mono ?_; rintro e w6 ⟨rfl, rfl⟩)
    | (go_at_call 7; refine HN.out.mono ?_; rintro e w1 ⟨rfl, h1, -⟩; have K1 : Hid _ := h1; clear h1)
    | (go_at_call 11; refine (HT2.out _ _ (K2.out.alloc _)).mono ?_; rintro e w3 ⟨rfl, h1, hk⟩; (obtain ⟨l0, l1⟩ := line_cells ((hk _ (List.mem_cons_self ..)).trans (heap_alloc_new w2 _))); (have K3 : Hid _ := h1); (have hlt3 : w2.heap.size < w3.heap.size := by (have := lt_of_block ((hk _ (List.mem_cons_self ..)).trans (heap_alloc_new w2 _)); exact this)); clear h1 hk)
    | (go_at_call 11; refine (HT1.out _ K1.out).mono ?_; rintro e w2 ⟨rfl, h1, -⟩; have K2 : Hid _ := h1; clear h1)
    | (go_at_call 18; refine (HNo.out _ _ (K3.out.still (alloc_below _ _))).mono ?_; rintro e w4 ⟨rfl, h1⟩; have K4 : Hid _ := h1; clear h1)
    | (go_at_call 21; refine (HLa.out _ _ K4.out).mono ?_; rintro e w5 ⟨rfl, h1⟩; (obtain ⟨a5, c5, hc5⟩ : ∃ a c, w5.cell? ⟨w.heap.size + 1, 1, none⟩ = some (.slice a 2 c) := h1.ask); have K5 : Hid _ := h1; clear h1))
  go_ret
  exact ⟨rfl, K5.out.below⟩
end Go.Proofs.Ythmofbcjhfcokaa
