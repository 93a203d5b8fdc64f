/- An input in memory; what (*Input).ask and (*Input).look do. -/
import Derived.Test.YthmofbcjhfcokaaInA
import Derived.Deep.LoopGhost
import Derived.BigQuiet
import Derived.Deep.QuietTactic
namespace Go.Proofs.Ythmofbcjhfcokaa
open Go.RowKit

namespace In
/-- The next input is asked for. -/
def ask (T : List Tl) (s : St) : St :=
  match T[s.asked]? with
  | none => s
  | some (d, y) => if y = 0 then { s with asked := s.asked + 1, text := d, rest := d } else if y = 31 then { s with asked := s.asked + 1, passed := true } else { s with asked := s.asked + 1, why := y }
theorem ask_ok {T : List Tl} {s : St} (h : s.asked < T.length) (e : (T[s.asked]'h).2 = 0) : ask T s = { s with asked := s.asked + 1, text := (T[s.asked]'h).1, rest := (T[s.asked]'h).1 } := by
  unfold ask
  rw [List.getElem?_eq_getElem h]
  simp only [e, if_true]
theorem ask_none {T : List Tl} {s : St} (h : s.asked < T.length) (e : (T[s.asked]'h).2 = 31) : ask T s = { s with asked := s.asked + 1, passed := true } := by
  unfold ask
  rw [List.getElem?_eq_getElem h]
  simp [e]
theorem ask_bad {T : List Tl} {s : St} (h : s.asked < T.length) (e0 : ¬ (T[s.asked]'h).2 = 0) (e : ¬ (T[s.asked]'h).2 = 31) : ask T s = { s with asked := s.asked + 1, why := (T[s.asked]'h).2 } := by
  unfold ask
  rw [List.getElem?_eq_getElem h]
  simp [e, e0]
theorem ask_asked {T : List Tl} {s : St} (h : s.asked < T.length) : (ask T s).asked = s.asked + 1 := by
  unfold ask
  rw [List.getElem?_eq_getElem h]
  simp only []
  split
  · rfl
  · split <;> rfl
/-- The next line is looked for. -/
def look (T : List Tl) : Nat → St → St
  | 0, s => s
  | f + 1, s => if s.rest.toList.isEmpty = true ∧ s.why = 0 ∧ s.asked < T.length then look T f (ask T s) else s
def lk (T : List Tl) (s : St) : St := look T (T.length - s.asked) s
theorem lk_step {T : List Tl} {s : St} (h1 : s.rest.toList.isEmpty = true) (h2 : s.why = 0) (h3 : s.asked < T.length) : lk T s = lk T (ask T s) := by
  unfold lk
  rw [ask_asked h3, show T.length - s.asked = (T.length - (s.asked + 1)) + 1 by omega]
  simp only [look, h1, h2, h3, true_and, if_true]
theorem lk_stop {T : List Tl} {s : St} (h : ¬ (s.rest.toList.isEmpty = true ∧ s.why = 0 ∧ s.asked < T.length)) : lk T s = s := by
  unfold lk
  cases T.length - s.asked with
  | zero => rfl
  | succ n => simp only [look, if_neg h]
/-- An input's cells. -/
def icells (gs n : Nat) (sep : Bool) (s : St) : Array Value := #[.iface 24 (.pointer (some ⟨gs, 0, none⟩)), .int .i64 (n : Int), .bool sep, .int .i64 (s.asked : Int), .string s.text, .string s.rest, .bool s.passed, .int .i64 s.why, .int .i64 (s.ln.pl : Int), .int .i64 (s.ln.no : Int), .bool s.ln.last, .bool s.ln.fresh, .string s.ln.data]
end In
/-- The block g holds an input over the source in block gs. -/
structure InV (w : World) (g gs : Nat) (T : List In.Tl) (sep : Bool) (s : In.St) (ta : Option Addr) (tc : Nat) (av : Value) : Prop where
  cell : w.heap[g]? = some (.cells (In.icells gs T.length sep s) 60)
  sr : SrV w gs T s.asked ta tc av
  ne : g ≠ gs
  aN : blk av ≠ some g
  tN : ∀ ad, ta = some ad → ad.block ≠ g
  len : T.length ≤ 1024
  asked : s.asked ≤ T.length
def iOwn (g gs : Nat) (av : Value) (k : Nat) : Prop := k = g ∨ sOwn gs av k
theorem InV.lt {w : World} {g gs : Nat} {T : List In.Tl} {sep : Bool} {s : In.St} {ta : Option Addr} {tc : Nat} {av : Value} (h : InV w g gs T sep s ta tc av) : g < w.heap.size := lt_of_block h.cell
theorem InV.own_lt {w : World} {g gs : Nat} {T : List In.Tl} {sep : Bool} {s : In.St} {ta : Option Addr} {tc : Nat} {av : Value} (h : InV w g gs T sep s ta tc av) {k : Nat} (hk : iOwn g gs av k) : k < w.heap.size := by
  rcases hk with rfl | rfl | e
  · exact h.lt
  · exact h.sr.lt
  · exact Proofs.Ythmofbcjhfcokaa.own_lt h.sr.ask e
theorem InV.tu {O : Nat → Prop} {w w' : World} {g gs : Nat} {T : List In.Tl} {sep : Bool} {s : In.St} {ta : Option Addr} {tc : Nat} {av : Value} (h : InV w g gs T sep s ta tc av) (ht : Tu O w w') (hO : ∀ k, k < w.heap.size → iOwn g gs av k → ¬ O k) (hT : ∀ ad, ta = some ad → ¬ O ad.block) : InV w' g gs T sep s ta tc av :=
  { h with
    cell := (ht.block g h.lt (hO g h.lt (.inl rfl))).trans h.cell
    sr := h.sr.tu ht (fun k hk e => hO k hk (.inr e)) hT }
theorem InV.upd {w1 w2 : World} {g gs : Nat} {T : List In.Tl} {sep : Bool} {s : In.St} {ta : Option Addr} {tc : Nat} {av : Value}
    (hc : w2.heap[g]? = some (.cells (In.icells gs T.length sep s) 60)) (hs : SrV w1 gs T s.asked ta tc av) (ht : Tu (fun k => k = g) w1 w2) (ne : g ≠ gs) (aN : blk av ≠ some g) (tN : ∀ ad, ta = some ad → ad.block ≠ g) (len : T.length ≤ 1024) (ha : s.asked ≤ T.length) : InV w2 g gs T sep s ta tc av :=
  ⟨hc, hs.tu ht (fun k _ hk e => by
    subst e
    rcases hk with e | e
    · exact ne e
    · exact aN e) tN, ne, aN, tN, len, ha⟩
theorem moved.trans {w w' : World} {a b c : Value} (h : moved w a b) (h' : moved w' b c) (hs : w.heap.size ≤ w'.heap.size) : moved w a c := by
  rcases h' with e | ⟨k, e, hk⟩
  · rcases h with e' | ⟨k, e', hk⟩
    · exact .inl (e.trans e')
    · exact .inr ⟨k, e.trans e', hk⟩
  · exact .inr ⟨k, e, by omega⟩
theorem moved.not {w : World} {a b : Value} {k : Nat} (h : moved w a b) (hk : k < w.heap.size) (hn : blk a ≠ some k) : blk b ≠ some k := by
  rcases h with e | ⟨k', e, hk'⟩
  · rw [e]; exact hn
  · rw [e]; intro q; cases q; omega
theorem moved.refl (w : World) (a : Value) : moved w a a := .inl rfl
/-- The cells of an input. -/
theorem icell {w : World} {g gs n : Nat} {sep : Bool} {s : In.St} (h : w.heap[g]? = some (.cells (In.icells gs n sep s) 60)) :
    w.cell? ⟨g, 0, none⟩ = some (.iface 24 (.pointer (some ⟨gs, 0, none⟩))) ∧ w.cell? ⟨g, 1, none⟩ = some (.int .i64 (n : Int)) ∧ w.cell? ⟨g, 2, none⟩ = some (.bool sep) ∧ w.cell? ⟨g, 3, none⟩ = some (.int .i64 (s.asked : Int)) ∧ w.cell? ⟨g, 4, none⟩ = some (.string s.text) ∧ w.cell? ⟨g, 5, none⟩ = some (.string s.rest) ∧ w.cell? ⟨g, 6, none⟩ = some (.bool s.passed) ∧ w.cell? ⟨g, 7, none⟩ = some (.int .i64 s.why) := by
  refine ⟨?_, ?_, ?_, ?_, ?_, ?_, ?_, ?_⟩ <;> (rw [cell_of_row w g _ _ _ _ h]; rfl)
theorem icell_ln {w : World} {g gs n : Nat} {sep : Bool} {s : In.St} (h : w.heap[g]? = some (.cells (In.icells gs n sep s) 60)) :
    w.cell? ⟨g, 8, none⟩ = some (.int .i64 (s.ln.pl : Int)) ∧ w.cell? ⟨g, 9, none⟩ = some (.int .i64 (s.ln.no : Int)) ∧ w.cell? ⟨g, 10, none⟩ = some (.bool s.ln.last) ∧ w.cell? ⟨g, 11, none⟩ = some (.bool s.ln.fresh) ∧ w.cell? ⟨g, 12, none⟩ = some (.string s.ln.data) := by
  refine ⟨?_, ?_, ?_, ?_, ?_⟩ <;> (rw [cell_of_row w g _ _ _ _ h]; rfl)

theorem tu_set (w : World) (g j : Nat) (v : Value) : Tu (fun k => k = g) w (w.setCell ⟨g, j, none⟩ v) := (Tu.refl (fun k => k = g) w).setCell (p := ⟨g, j, none⟩) (fun _ => rfl) v
theorem Tu.set {O : Nat → Prop} {A B : World} (h : Tu O A B) (g j : Nat) (hg : O g) (v : Value) : Tu O A (B.setCell ⟨g, j, none⟩ v) := h.setCell (p := ⟨g, j, none⟩) (fun _ => hg) v
theorem method_in (a : Addr) (w : World) : (method 186 24 (.pointer (some a)) "Input").run Try.prog w = .ok (46, .pointer (some a)) w := by kernel_rfl

set_option maxRecDepth 100000 in
set_option maxHeartbeats 1000000 in
theorem ask_any (g gs : Nat) (T : List In.Tl) (sep : Bool) (s : In.St) (ta : Option Addr) (tc : Nat) (av : Value) (w : World) (h : InV w g gs T sep s ta tc av) (hn : s.asked < T.length) :
    Calls Try.prog 29 #[.pointer (some ⟨g, 0, none⟩)] w fun e w' => e = .returned (.tuple #[]) ∧ ∃ av', InV w' g gs T sep (In.ask T s) ta tc av' ∧ Tu (iOwn g gs av) w w' ∧ moved w av av' := by
  obtain ⟨c0, c1, c2, c3, c4, c5, c6, c7⟩ := icell h.cell
  have hlen := h.len
  have HH : Hid (InV w g gs T sep s ta tc av) := h
  have hgl : Hid (g < w.heap.size) := h.lt
  have hS := sinput_any gs s.asked T ta tc av w.drew (h.sr.tu (O := fun _ => False) ((Tu.refl _ _).drewN 1) (fun _ _ _ e => e) (fun _ _ e => e)) hn (by omega)
  have E0 : Hid (∀ h0 : (T[s.asked]'hn).2 = 0, In.ask T s = _) := fun h0 => In.ask_ok hn h0
  have E1 : Hid (∀ h0 : (T[s.asked]'hn).2 = 31, In.ask T s = _) := fun h0 => In.ask_none hn h0
  have E2 : Hid (∀ (h0 : ¬ (T[s.asked]'hn).2 = 0) (h1 : ¬ (T[s.asked]'hn).2 = 31), In.ask T s = _) := fun h0 h1 => In.ask_bad hn h0 h1
  generalize T[s.asked]'hn = x at *
  obtain ⟨x1, x2⟩ := x
  have HS : Hid _ := hS
  clear hS h
  have hwr : IntKind.i64.wrap ((s.asked : Int) + 1) = (s.asked : Int) + 1 := by rw [IntKind.wrap_i64]; omega
  have hmt := fun w => method_in ⟨gs, 0, none⟩ w
  go_enter Try.func29, Try.ntmps29
  go_wp2_with fail
  refine wp_region_noPanic ?_
  go_region_held (fun w' => w'.cell? ⟨g, 0, none⟩ = some (.iface 24 (.pointer (some ⟨gs, 0, none⟩))) ∧ w'.cell? ⟨g, 3, none⟩ = some (.int .i64 (s.asked : Int))) (first | exact ⟨c0, c3⟩ | exact ⟨v0, v3⟩) (first | (go_at_call 46; refine Calls.mono HS.out ?_; rintro e w1 ⟨rfl, av1, hs1, ht1, hm1⟩; (have hc1 : w1.heap[g]? = some (.cells (In.icells gs T.length sep s) 60) := (ht1.block g hgl.out (by rintro (e | e); exact HH.out.ne e; exact HH.out.aN e)).trans HH.out.cell); (obtain ⟨v0, _, _, v3, _, _, _, v7⟩ := icell hc1)))
  refine NoPanic.normal ?_
  obtain ⟨y0, y1, y2, y3, y4, y5, y6, y7⟩ := icell hc1
  have fr : ∀ j, w1.frozen? ⟨g, j, none⟩ = false := fun j => free_row hc1 j
  have fr3 := fr 3
  have fr4 := fr 4
  have fr5 := fr 5
  have fr6 := fr 6
  have fr7 := fr 7
  have hm2 : Hid (moved w av av1) := hm1
  have hT : Hid (Tu (iOwn g gs av) w w1) := (((Tu.refl _ w).drewN 1).trans ht1 (fun _ _ e => .inr e))
  have HF : Hid (∀ w2 s2, s2.asked = s.asked + 1 → w2.heap[g]? = some (.cells (In.icells gs T.length sep s2) 60) → Tu (fun k => k = g) w1 w2 → ∃ av', InV w2 g gs T sep s2 ta tc av' ∧ Tu (iOwn g gs av) w w2 ∧ moved w av av') := by
    intro w2 s2 ea hc ht
    refine ⟨av1, InV.upd hc (by rw [ea]; exact hs1) ht HH.out.ne (hm2.out.not hgl.out HH.out.aN) HH.out.tN hlen (by omega), hT.out.trans ht (fun k _ e => .inl e), hm2.out⟩
  have HC : Hid (w1.heap[g]? = some (.cells (In.icells gs T.length sep s) 60)) := hc1
  clear hs1 ht1 hm1 hc1 fr hT HS v0 v3 v7 c0 c1 c2 c3 c4 c5 c6 c7
  rename World.cell? _ _ = _ ∧ _ => hHeld
  clear hHeld
  cases k0 : (x2 == 0)
  · cases k1 : (x2 == 31)
    · go_wp2_with fail
      go_end0
      refine ⟨rfl, HF.out _ _ (In.ask_asked hn) ?_ ((tu_set w1 g 3 _).set g 7 rfl _)⟩
      rw [E2.out (by simpa using k0) (by simpa using k1), row_set (row_set HC.out 3 _) 7 _]
      rfl
    · go_wp2_with fail
      go_end0
      refine ⟨rfl, HF.out _ _ (In.ask_asked hn) ?_ ((tu_set w1 g 3 _).set g 6 rfl _)⟩
      rw [E1.out (by simpa using k1), row_set (row_set HC.out 3 _) 6 _]
      rfl
  · go_wp2_with fail
    go_end0
    refine ⟨rfl, HF.out _ _ (In.ask_asked hn) ?_ (((tu_set w1 g 3 _).set g 4 rfl _).set g 5 rfl _)⟩
    rw [E0.out (by simpa using k0), row_set (row_set (row_set HC.out 3 _) 4 _) 5 _]
    rfl

set_option maxRecDepth 100000 in
set_option maxHeartbeats 1000000 in
theorem look_any (g gs : Nat) (T : List In.Tl) (sep : Bool) (s : In.St) (ta : Option Addr) (tc : Nat) (av : Value) (w : World) (h : InV w g gs T sep s ta tc av) :
    Calls Try.prog 24 #[.pointer (some ⟨g, 0, none⟩)] w fun e w' => e = .returned (.tuple #[]) ∧ ∃ av', InV w' g gs T sep (In.lk T s) ta tc av' ∧ Tu (iOwn g gs av) w w' ∧ moved w av av' := by
  have HH : Hid (InV w g gs T sep s ta tc av) := h
  clear h
  go_enter Try.func24, Try.ntmps24
  go_wp2
  go_loopg [] (T.length - s.asked) (fun k wr => ∃ s' av', k = T.length - s'.asked ∧ InV wr g gs T sep s' ta tc av' ∧ Hid (In.lk T s = In.lk T s') ∧ Hid (Tu (iOwn g gs av) w wr) ∧ Hid (moved w av av'))
  case atStart => exact ⟨s, av, rfl, HH.out, rfl, Tu.refl _ _, moved.refl _ _⟩
  case round =>
    obtain ⟨s', av', hk, h', HL, HT, HM⟩ := hrel
    obtain ⟨c0, c1, c2, c3, c4, c5, c6, c7⟩ := icell h'.cell
    have HK : Hid (gk = T.length - s'.asked) := hk
    have H' : Hid (InV wr g gs T sep s' ta tc av') := h'
    have HA : Hid (s'.asked < T.length → ∀ n, Calls Try.prog 29 #[.pointer (some ⟨g, 0, none⟩)] (wr.drewN n) fun e w' => e = .returned (.tuple #[]) ∧ ∃ av2, InV w' g gs T sep (In.ask T s') ta tc av2 ∧ Tu (iOwn g gs av') (wr.drewN n) w' ∧ moved (wr.drewN n) av' av2) := fun hn n => ask_any g gs T sep s' ta tc av' _ (h'.tu (O := fun _ => False) ((Tu.refl _ _).drewN n) (fun _ _ _ e => e) (fun _ _ e => e)) hn
    clear hk h'
    cases k0 : s'.rest.toList.isEmpty
    · have HE : Hid (In.lk T s = s') := HL.out.trans (In.lk_stop (by rw [k0]; simp))
      go_wp2_with fail
      go_quiet (fail)
      go_wp2_with fail
      go_end0
      refine ⟨rfl, av', ?_, HT.out.drewN _, HM.out⟩
      rw [HE.out]
      exact H'.out.tu (O := fun _ => False) ((Tu.refl _ _).drewN _) (fun _ _ _ e => e) (fun _ _ e => e)
    · cases k1 : (s'.why == 0)
      · have HE : Hid (In.lk T s = s') := HL.out.trans (In.lk_stop (by simp at k1; simp [k1]))
        go_wp2_with fail
        go_quiet (fail)
        go_wp2_with fail
        go_end0
        refine ⟨rfl, av', ?_, HT.out.drewN _, HM.out⟩
        rw [HE.out]
        exact H'.out.tu (O := fun _ => False) ((Tu.refl _ _).drewN _) (fun _ _ _ e => e) (fun _ _ e => e)
      · by_cases k2 : s'.asked < T.length
        · have HE : Hid (In.lk T s = In.lk T (In.ask T s')) := HL.out.trans (In.lk_step k0 (by simpa using k1) k2)
          have k2i : (s'.asked : Int) < (T.length : Int) := by omega
          go_wp2_with fail
          go_quiet (fail)
          go_wp2_with (go_at_call 29; refine (HA.out k2 _).mono ?_; rintro e w2 ⟨rfl, av2, h2, ht2, hm2⟩)
          go_roundg (T.length - (s'.asked + 1))
          case measure => rw [HK.out]; omega
          case rel =>
            refine ⟨In.ask T s', av2, by rw [In.ask_asked k2], h2, HE.out, ?_, ?_⟩
            · refine Tu.trans (HT.out.drewN nq) ht2 (fun k hk e => ?_)
              rcases e with e | e | e
              · exact .inl e
              · exact .inr (.inl e)
              · refine .inr (.inr ?_)
                rcases HM.out with q | ⟨b, q, hb⟩
                · rw [← q]; exact e
                · rw [q] at e; cases e; omega
            · exact HM.out.trans hm2 (by have := HT.out.size; simpa using this)
        · have HE : Hid (In.lk T s = s') := HL.out.trans (In.lk_stop (by simp [k2]))
          have k2i : decide ((s'.asked : Int) < (T.length : Int)) = false := by simp; omega
          have k2j : ¬ (s'.asked : Int) < (T.length : Int) := by omega
          go_wp2_with fail
          go_quiet (fail)
          go_wp2_with fail
          go_end0
          refine ⟨rfl, av', ?_, HT.out.drewN _, HM.out⟩
          rw [HE.out]
          exact H'.out.tu (O := fun _ => False) ((Tu.refl _ _).drewN _) (fun _ _ _ e => e) (fun _ _ e => e)
end Go.Proofs.Ythmofbcjhfcokaa
