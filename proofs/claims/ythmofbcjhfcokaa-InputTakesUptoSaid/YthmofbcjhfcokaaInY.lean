/- An input whose source's list is known, beside blocks of the law's own. -/
import Derived.Test.YthmofbcjhfcokaaInG
import Derived.Test.YthmofbcjhfcokaaInU
namespace Go.Proofs.Ythmofbcjhfcokaa
open Go.RowKit

/-- As Ob, the list of the source named. -/
structure Oc (W : World) (g gs : Nat) (T : List In.Tl) (sep : Bool) (N : List Nat) (ta : Option Addr) (tc : Nat) (s : In.St) (w : World) : Prop where
  ex : ∃ av, InV w g gs T sep s ta tc av ∧ (∀ k, iOwn g gs av k → W.heap.size ≤ k) ∧ Apt N W w g gs ta av
  lt : ∀ ad, ta = some ad → ad.block < w.heap.size
  below : Below W.heap.size W w
section
variable {W w w' : World} {g gs : Nat} {T : List In.Tl} {sep : Bool} {N : List Nat} {ta : Option Addr} {tc : Nat} {s : In.St}
theorem Oc.still (h : Oc W g gs T sep N ta tc s w) (hb : Below w.heap.size w w') : Oc W g gs T sep N ta tc s w' := by
  obtain ⟨av, h1, h2, h3⟩ := h.ex
  exact ⟨⟨av, h1.below hb, h2, fun k hk => ⟨(h3 k hk).1, Nat.lt_of_lt_of_le (h3 k hk).2.1 hb.size, (h3 k hk).2.2⟩⟩, fun ad e => Nat.lt_of_lt_of_le (h.lt ad e) hb.size, below_up h.below hb (Nat.le_refl _)⟩
theorem Oc.kept (h : Oc W g gs T sep N ta tc s w) (hb : Below w.heap.size w w') : Kp N w w' := by
  obtain ⟨av, h1, h2, h3⟩ := h.ex
  exact fun k hk => hb.block k (h3 k hk).2.1
theorem Oc.less {N' : List Nat} (h : Oc W g gs T sep N ta tc s w) (hN : ∀ k ∈ N', k ∈ N) : Oc W g gs T sep N' ta tc s w := by
  obtain ⟨av, h1, h2, h3⟩ := h.ex
  exact ⟨⟨av, h1, h2, fun k hk => h3 k (hN k hk)⟩, h.lt, h.below⟩
theorem Oc.alloc (h : Oc W g gs T sep N ta tc s w) (o : Obj) : Oc W g gs T sep (w.heap.size :: N) ta tc s (w.alloc o) := by
  have h' := h.still (alloc_below w o)
  obtain ⟨av, h1, h2, h3⟩ := h.ex
  refine ⟨⟨av, h1.below (alloc_below w o), h2, fun k hk => ?_⟩, h'.lt, h'.below⟩
  rcases List.mem_cons.1 hk with rfl | hk
  · exact ⟨h.below.size, by simp, fun e => absurd (h1.own_lt e) (Nat.lt_irrefl _), fun ad e => Nat.ne_of_lt (h.lt ad e)⟩
  · exact ⟨(h3 k hk).1, Nat.lt_of_lt_of_le (h3 k hk).2.1 (by simp), (h3 k hk).2.2⟩
theorem Oc.turn {s' : In.St} {av av' : Value} (hO : ∀ k, iOwn g gs av k → W.heap.size ≤ k) (h0 : ∀ ad, ta = some ad → ad.block < w.heap.size) (hA : Apt N W w g gs ta av) (hb : Below W.heap.size W w) (h' : InV w' g gs T sep s' ta tc av') (ht : Tu (iOwn g gs av) w w') (hm : moved w av av') : Oc W g gs T sep N ta tc s' w' ∧ Kp N w w' := by
  have hb2 : Below W.heap.size w w' := ht.below hb.size hO
  have hmv : ∀ k, iOwn g gs av' k → iOwn g gs av k ∨ w.heap.size ≤ k := fun k hk => by
    rcases hk with e | e | e
    · exact .inl (.inl e)
    · exact .inl (.inr (.inl e))
    · rcases hm with q | ⟨b, q, hb'⟩
      · exact .inl (.inr (.inr (by rw [← q]; exact e)))
      · rw [e] at q; cases q; exact .inr hb'
  refine ⟨⟨⟨av', h', fun k hk => ?_, fun k hk => ⟨(hA k hk).1, Nat.lt_of_lt_of_le (hA k hk).2.1 ht.size, fun e => ?_, (hA k hk).2.2.2⟩⟩, fun ad e => Nat.lt_of_lt_of_le (h0 ad e) ht.size, below_tr hb hb2⟩, fun k hk => ht.block k (hA k hk).2.1 (hA k hk).2.2.1⟩
  · rcases hmv k hk with e | e
    · exact hO k e
    · exact Nat.le_trans hb.size e
  · rcases hmv k e with e | e
    · exact (hA k hk).2.2.1 e
    · have := (hA k hk).2.1; omega
theorem Oc.take (h : Oc W g gs T sep N ta tc s w) (ha : s.rest.toList.isEmpty = false → 1 ≤ s.asked) (hno : s.ln.no < 1000000000000) (hz : s.rest.size ≤ 67108864) :
    Calls Try.prog 11 #[.pointer (some ⟨g, 0, none⟩)] w fun e w' => e = .returned (.tuple #[.agg #[.string (In.takeR T sep s).1.1, .bool (In.takeR T sep s).1.2], .bool (In.takeR T sep s).2.1, .int .i64 (In.takeR T sep s).2.2.1]) ∧ Oc W g gs T sep N ta tc (In.takeR T sep s).2.2.2 w' ∧ Kp N w w' := by
  obtain ⟨av, h1, h2, h3⟩ := h.ex
  by_cases hc : s.why = 0 ∧ s.rest.toList.isEmpty = false
  · exact (take_go g gs T sep s ta tc av w h1 hc.1 hc.2 (ha hc.2) hno hz).mono fun e w' ⟨he, av', h4, ht, hm⟩ => ⟨he, Oc.turn h2 h.lt h3 h.below h4 ht hm⟩
  · refine (take_no g gs T sep s ta tc av w h1 hc).mono fun e w' ⟨he, h3, hb⟩ => ?_
    unfold In.takeR
    rw [if_neg hc]
    exact ⟨he, h.still hb, h.kept hb⟩
theorem Oc.now (h : Oc W g gs T sep N ta tc s w) : Calls Try.prog 28 #[.pointer (some ⟨g, 0, none⟩)] w fun e w' => e = .returned (.agg (In.tkA s.ln)) ∧ Below w.heap.size w w' := by
  obtain ⟨av, h1, _⟩ := h.ex
  exact now_any g gs T sep s ta tc av w h1
theorem Oc.err (h : Oc W g gs T sep N ta tc s w) : Calls Try.prog 12 #[.pointer (some ⟨g, 0, none⟩)] w fun e w' => e = .returned (.int .i64 s.why) ∧ w = w' := by
  obtain ⟨av, h1, _⟩ := h.ex
  exact err_any g gs T sep s ta tc av w h1
theorem Oc.passed (h : Oc W g gs T sep N ta tc s w) : Calls Try.prog 23 #[.pointer (some ⟨g, 0, none⟩)] w fun e w' => e = .returned (.bool s.passed) ∧ w = w' := by
  obtain ⟨av, h1, _⟩ := h.ex
  exact passed_any g gs T sep s ta tc av w h1
theorem Oc.asks (h : Oc W g gs T sep N ta tc s w) : ∃ av, w.cell? ⟨gs, 1, none⟩ = some av ∧ w.ownsRow 0 3 1 av s.asked (In.ints s.asked) := by
  obtain ⟨av, h1, _⟩ := h.ex
  exact ⟨av, by rw [cell_of_row w gs _ _ _ _ h1.sr.src]; rfl, h1.sr.ask⟩
theorem Oc.told (h : Oc W g gs T sep N ta tc s w) : Tls w ta tc T := by
  obtain ⟨av, h1, _⟩ := h.ex
  exact h1.sr.told
theorem Oc.gs_lt (h : Oc W g gs T sep N ta tc s w) : gs < w.heap.size := by
  obtain ⟨av, h1, _⟩ := h.ex
  exact h1.sr.lt
end
theorem Oc.new (gs : Nat) (T : List In.Tl) (sep : Bool) (ta : Option Addr) (tc : Nat) (W w : World) (h : SrV w gs T 0 ta tc (.slice none 0 0)) (hT : T.length ≤ 1024) (hta : ∀ ad, ta = some ad → ad.block < w.heap.size) (hb : Below W.heap.size W w) (hO : W.heap.size ≤ gs) :
    Calls Try.prog 7 #[.iface 24 (.pointer (some ⟨gs, 0, none⟩)), .int .i64 (T.length : Int), .bool sep] w fun e w' => e = .returned (.pointer (some ⟨w.heap.size, 0, none⟩)) ∧ Oc W w.heap.size gs T sep [] ta tc (In.lk T In.st0) w' := by
  have hnb : blk (.slice none 0 0) = none := rfl
  refine (new_any gs T sep ta tc _ w h hT hta).mono ?_
  rintro e w' ⟨g, av', he, h1, ht, hm, rfl⟩
  refine ⟨he, (Oc.turn (w := w) (av := .slice none 0 0) ?_ hta (fun k hk => by cases hk) hb h1 (ht.mono (fun k _ e => .inr e)) hm).1⟩
  rintro k (e | e | e)
  · rw [e]; exact hb.size
  · rw [e]; exact hO
  · rw [hnb] at e; cases e
end Go.Proofs.Ythmofbcjhfcokaa
