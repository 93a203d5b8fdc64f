/- What (*Input).Take does. -/
import Derived.Test.YthmofbcjhfcokaaInC
namespace Go.Proofs.Ythmofbcjhfcokaa
open Go.RowKit

theorem results_line3 {fn : Func} {p a b : Tmp} (h : fn.results = #[.cell p 34, .tmp a, .tmp b]) (tmps : Array Value) (w : World) (g : Nat) (x : ByteArray) (y : Bool)
    (hp : tmps.getD p undef = .pointer (some ⟨g, 0, none⟩)) (hg : w.heap[g]? = some (.cells #[.string x, .bool y] 34)) :
    (results fn tmps).run Try.prog w = .ok (.tuple #[.agg #[.string x, .bool y], tmps.getD a undef, tmps.getD b undef]) w := by
  have hp' : tmps[p]?.getD undef = .pointer (some ⟨g, 0, none⟩) := by simpa using hp
  have hl := run_loadVar_row (P := Try.prog) w g 34 34 #[.string x, .bool y] (0, 0) _ hg Try.underlying34 rfl (by kernel_rfl)
  simp [results, h, hp', asAddr, hl]
namespace In
/-- What is left behind the first line is looked for. -/
def tkS (T : List Tl) (s : St) : St := lk T { s with rest := Ln.bs (Ln.firstP [] s.rest.data.toList).2.1 }
/-- What is told of the line that was taken. -/
def lnOf (sep : Bool) (s s1 : St) : Tk := { next sep s with last := s1.rest.toList.isEmpty || (sep && decide (s1.asked - 1 ≠ (next sep s).pl)) }
/-- What Take answers, and what it leaves. -/
def takeR (T : List Tl) (sep : Bool) (s : St) : (ByteArray × Bool) × Bool × Int × St :=
  if s.why = 0 ∧ s.rest.toList.isEmpty = false then
    if (tkS T s).why = 0 then ((Ln.bs (Ln.firstP [] s.rest.data.toList).1, (Ln.firstP [] s.rest.data.toList).2.2), true, 0, { tkS T s with ln := lnOf sep s (tkS T s) })
    else ((⟨#[]⟩, false), false, (tkS T s).why, tkS T s)
  else ((⟨#[]⟩, false), false, s.why, s)
end In
theorem InV.rest {w : World} {g gs : Nat} {T : List In.Tl} {sep : Bool} {s : In.St} {ta : Option Addr} {tc : Nat} {av : Value} (h : InV w g gs T sep s ta tc av) (o : Obj) (r : ByteArray) : InV ((w.setCell ⟨g, 5, none⟩ (.string r)).alloc o) g gs T sep { s with rest := r } ta tc av :=
  (InV.upd (w1 := w) (s := { s with rest := r }) (by rw [row_set h.cell 5 _]; rfl) h.sr (tu_set _ g 5 _) h.ne h.aN h.tN h.len h.asked).below (alloc_below _ o)
theorem In.look_asked (T : List In.Tl) : ∀ (f : Nat) (s : In.St), s.asked ≤ (In.look T f s).asked
  | 0, _ => Nat.le_refl _
  | f + 1, s => by
    unfold In.look
    split
    · rename_i h
      exact Nat.le_trans (by rw [In.ask_asked h.2.2]; omega) (In.look_asked T f (In.ask T s))
    · exact Nat.le_refl _
theorem In.lk_asked (T : List In.Tl) (s : In.St) : s.asked ≤ (In.lk T s).asked := In.look_asked T _ s
theorem drew_row {w : World} {k : Nat} {o : Obj} (h : w.heap[k]? = some o) : w.drew.heap[k]? = some o := h
/-- The worlds behind the stores of a line that was taken, and of what is answered. -/
abbrev lnW (w : World) (g nb : Nat) (X : In.Tk) (L : Bool) : World := (((((w.setCell ⟨nb, 2, none⟩ (.bool L)).setCell ⟨g, 8, none⟩ (.int .i64 (X.pl : Int))).setCell ⟨g, 9, none⟩ (.int .i64 (X.no : Int))).setCell ⟨g, 10, none⟩ (.bool L)).setCell ⟨g, 11, none⟩ (.bool X.fresh)).setCell ⟨g, 12, none⟩ (.string X.data)
abbrev ansW (w : World) (rb : Nat) (f1 : ByteArray) (f3 : Bool) : World := (w.setCell ⟨rb, 0, none⟩ (.string f1)).setCell ⟨rb, 1, none⟩ (.bool f3)
theorem InV.ln {w : World} {g gs nb : Nat} {T : List In.Tl} {sep : Bool} {s : In.St} {ta : Option Addr} {tc : Nat} {av : Value} (h : InV w g gs T sep s ta tc av) (hN : ∀ k, iOwn g gs av k → k ≠ nb) (hTN : ∀ ad, ta = some ad → ad.block ≠ nb) (X : In.Tk) (L : Bool) :
    InV (lnW w g nb X L) g gs T sep { s with ln := { X with last := L } } ta tc av := by
  have h4 := h.tu (O := fun k => k = nb) (tu_set w nb 2 (.bool L)) (fun k _ hk e => hN k hk e) (fun ad e => hTN ad e)
  refine InV.upd (s := { s with ln := { X with last := L } }) ?_ h4.sr (((((tu_set _ g 8 _).set g 9 rfl _).set g 10 rfl _).set g 11 rfl _).set g 12 rfl _) h.ne h.aN h.tN h.len h.asked
  rw [row_set (row_set (row_set (row_set (row_set h4.cell 8 _) 9 _) 10 _) 11 _) 12 _]
  rfl
theorem InV.ans {w : World} {g gs rb : Nat} {T : List In.Tl} {sep : Bool} {s : In.St} {ta : Option Addr} {tc : Nat} {av : Value} (h : InV w g gs T sep s ta tc av) (hN : ∀ k, iOwn g gs av k → k ≠ rb) (hTN : ∀ ad, ta = some ad → ad.block ≠ rb) (f1 : ByteArray) (f3 : Bool) :
    InV (ansW w rb f1 f3) g gs T sep s ta tc av :=
  h.tu (O := fun k => k = rb) ((tu_set w rb 0 _).set rb 1 rfl _) (fun k _ hk e => hN k hk e) (fun ad e => hTN ad e)
theorem lnW_tu {O : Nat → Prop} {A w : World} (h : Tu O A w) {g nb : Nat} (hg : O g) (hn : A.heap.size ≤ nb) (X : In.Tk) (L : Bool) : Tu O A (lnW w g nb X L) :=
  (((((h.setCell (p := ⟨nb, 2, none⟩) (fun e => by have : nb < A.heap.size := e; omega) _).set g 8 hg _).set g 9 hg _).set g 10 hg _).set g 11 hg _).set g 12 hg _
theorem ansW_tu {O : Nat → Prop} {A w : World} (h : Tu O A w) {rb : Nat} (hn : A.heap.size ≤ rb) (f1 : ByteArray) (f3 : Bool) : Tu O A (ansW w rb f1 f3) :=
  (h.setCell (p := ⟨rb, 0, none⟩) (fun e => by have : rb < A.heap.size := e; omega) _).setCell (p := ⟨rb, 1, none⟩) (fun e => by have : rb < A.heap.size := e; omega) _
theorem lnW_row {w : World} {g nb rb : Nat} {o : Obj} (h : w.heap[rb]? = some o) (h1 : rb ≠ g) (h2 : rb ≠ nb) (X : In.Tk) (L : Bool) : (lnW w g nb X L).heap[rb]? = some o := by
  unfold lnW
  rw [heap_setCell_other _ _ _ _ h1, heap_setCell_other _ _ _ _ h1, heap_setCell_other _ _ _ _ h1, heap_setCell_other _ _ _ _ h1, heap_setCell_other _ _ _ _ h1, heap_setCell_other _ _ _ _ h2, h]
theorem ansW_row {w : World} {rb : Nat} {x : ByteArray} {y : Bool} (h : w.heap[rb]? = some (.cells #[.string x, .bool y] 34)) (f1 : ByteArray) (f3 : Bool) : (ansW w rb f1 f3).heap[rb]? = some (.cells #[.string f1, .bool f3] 34) := by
  unfold ansW
  rw [row_set (row_set h 0 _) 1 _]
  rfl
set_option maxRecDepth 100000 in
set_option maxHeartbeats 1000000 in
theorem take_nil (w : World) : Calls Try.prog 11 #[.pointer none] w fun e w' => e = .returned (.tuple #[.agg #[.string ⟨#[]⟩, .bool false], .bool false, .int .i64 1]) ∧ Below w.heap.size w w' := by
  have HE : Hid _ := err_nil (w.alloc (.cells #[.string ⟨#[]⟩, .bool false] 34))
  go_enter Try.func11, Try.ntmps11
  go_wp2_with (go_at_call 12; refine Calls.mono HE.out ?_; rintro e w1 ⟨rfl, rfl⟩)
  refine bodyPost_ret (results_line3 rfl _ _ w.heap.size ⟨#[]⟩ false rfl (heap_alloc_new w _)) rfl ?_
  exact ⟨rfl, alloc_below w _⟩
set_option maxRecDepth 100000 in
set_option maxHeartbeats 1000000 in
theorem take_no (g gs : Nat) (T : List In.Tl) (sep : Bool) (s : In.St) (ta : Option Addr) (tc : Nat) (av : Value) (w : World) (h : InV w g gs T sep s ta tc av) (hn : ¬ (s.why = 0 ∧ s.rest.toList.isEmpty = false)) :
    Calls Try.prog 11 #[.pointer (some ⟨g, 0, none⟩)] w fun e w' => e = .returned (.tuple #[.agg #[.string ⟨#[]⟩, .bool false], .bool false, .int .i64 s.why]) ∧ InV w' g gs T sep s ta tc av ∧ Below w.heap.size w w' := by
  have h1 := h.below (alloc_below w (.cells #[.string ⟨#[]⟩, .bool false] 34))
  have HE : Hid _ := err_any g gs T sep s ta tc av _ h1
  obtain ⟨c0, c1, c2, c3, c4, c5, c6, c7⟩ := icell h.cell
  have HH : Hid (InV _ g gs T sep s ta tc av) := h1
  have HN : Hid _ := hn
  have hgl := h.lt
  have n1 : ¬ g = w.heap.size := by omega
  clear h h1 hn
  go_enter Try.func11, Try.ntmps11
  cases k0 : (s.why != 0)
  · have k1 : s.rest.toList.isEmpty = true := by
      have := HN.out
      simp at k0
      simpa [k0] using this
    go_wp2_with (go_at_call 12; refine Calls.mono HE.out ?_; rintro e w1 ⟨rfl, rfl⟩)
    refine bodyPost_ret (results_line3 rfl _ _ w.heap.size ⟨#[]⟩ false rfl (heap_alloc_new w _)) rfl ?_
    refine ⟨?_, HH.out, alloc_below w _⟩
    rw [show s.why = 0 by simpa using k0]
    rfl
  · go_wp2_with (go_at_call 12; refine Calls.mono HE.out ?_; rintro e w1 ⟨rfl, rfl⟩)
    refine bodyPost_ret (results_line3 rfl _ _ w.heap.size ⟨#[]⟩ false rfl (heap_alloc_new w _)) rfl ?_
    exact ⟨rfl, HH.out, alloc_below w _⟩
set_option maxRecDepth 100000 in
set_option maxHeartbeats 4000000 in
theorem take_go (g gs : Nat) (T : List In.Tl) (sep : Bool) (s : In.St) (ta : Option Addr) (tc : Nat) (av : Value) (w : World) (h : InV w g gs T sep s ta tc av) (hy : s.why = 0) (hr : s.rest.toList.isEmpty = false) (ha : 1 ≤ s.asked) (hno : s.ln.no < 1000000000000) (hz : s.rest.size ≤ 67108864) :
    Calls Try.prog 11 #[.pointer (some ⟨g, 0, none⟩)] w fun e w' => e = .returned (.tuple #[.agg #[.string (In.takeR T sep s).1.1, .bool (In.takeR T sep s).1.2], .bool (In.takeR T sep s).2.1, .int .i64 (In.takeR T sep s).2.2.1]) ∧ ∃ av', InV w' g gs T sep (In.takeR T sep s).2.2.2 ta tc av' ∧ Tu (iOwn g gs av) w w' ∧ moved w av av' := by
  obtain ⟨R, hR⟩ : ∃ R, R = In.takeR T sep s := ⟨_, rfl⟩
  rw [← hR]
  unfold In.takeR at hR
  rw [if_pos ⟨hy, hr⟩] at hR
  have HR : Hid _ := hR
  clear hR
  have h1 := h.below (alloc_below w (.cells #[.string ⟨#[]⟩, .bool false] 34))
  have HE : Hid _ := err_any g gs T sep s ta tc av _ h1
  obtain ⟨c0, c1, c2, c3, c4, c5, c6, c7⟩ := icell h.cell
  have HH : Hid (InV _ g gs T sep s ta tc av) := h1
  have hgl := h.lt
  have n1 : ¬ g = w.heap.size := by omega
  have k0 : (s.why == 0) = true := by simp [hy]
  have HY : Hid (s.why = 0) := hy
  have HH0 : Hid (InV w g gs T sep s ta tc av) := h
  have HF : Hid (∀ n, Calls Try.prog 26 #[.string s.rest] _ _) := fun n => first_any s.rest ((w.alloc (.cells #[.string ⟨#[]⟩, .bool false] 34)).drewN n) hz
  have HG : Hid (∀ n, Calls Try.prog 27 #[.pointer (some ⟨g, 0, none⟩)] _ _) := fun n => following_any g gs T sep s ta tc av ((w.alloc (.cells #[.string ⟨#[]⟩, .bool false] 34)).drewN n) (h1.tu (O := fun _ => False) ((Tu.refl _ _).drewN n) (fun _ _ _ e => e) (fun _ _ e => e)) ha hno
  clear h h1 hy
  go_enter Try.func11, Try.ntmps11
  generalize hr1 : Ln.firstP [] s.rest.data.toList = F at *
  obtain ⟨F1, F2, F3⟩ := F
  have HR1 : Hid _ := hr1
  clear hr1
  generalize hx : In.next sep s = X at *
  have HX : Hid _ := hx
  clear hx
  have HI : Hid (∀ n w1, Below ((w.alloc (.cells #[.string ⟨#[]⟩, .bool false] 34)).drewN n).heap.size ((w.alloc (.cells #[.string ⟨#[]⟩, .bool false] 34)).drewN n) w1 → InV w1 g gs T sep s ta tc av) := fun n w1 hb => (HH.out.tu (O := fun _ => False) ((Tu.refl _ _).drewN n) (fun _ _ _ e => e) (fun _ _ e => e)).below hb
  obtain ⟨S1, hS1⟩ : ∃ S1, S1 = In.lk T { s with rest := Ln.bs F2 } := ⟨_, rfl⟩
  have HS1 : Hid _ := hS1
  have hA1 : Hid (1 ≤ S1.asked) := by have := In.lk_asked T { s with rest := Ln.bs F2 }; rw [← hS1] at this; exact Nat.le_trans ha this
  clear hS1
  have HL0 : Hid (∀ w1, InV w1 g gs T sep s ta tc av → Calls Try.prog 24 #[.pointer (some ⟨g, 0, none⟩)] ((w1.setCell ⟨g, 5, none⟩ (.string (Ln.bs F2))).alloc (.cells (In.tkA X) 58)) fun e w' => e = .returned (.tuple #[]) ∧ ∃ av', InV w' g gs T sep S1 ta tc av' ∧ Tu (iOwn g gs av) ((w1.setCell ⟨g, 5, none⟩ (.string (Ln.bs F2))).alloc (.cells (In.tkA X) 58)) w' ∧ moved ((w1.setCell ⟨g, 5, none⟩ (.string (Ln.bs F2))).alloc (.cells (In.tkA X) 58)) av av') := fun w1 h1 => by
    rw [HS1.out]
    exact look_any g gs T sep { s with rest := Ln.bs F2 } ta tc av _ (h1.rest (.cells (In.tkA X) 58) (Ln.bs F2))
  go_wp2_with (first | (go_at_call 12; refine Calls.mono HE.out ?_; rintro e w1 ⟨rfl, rfl⟩) | (go_at_call 26; refine Calls.mono (HF.out 0) ?_; rintro e w1 ⟨rfl, n, rfl⟩) | (go_at_call 27; refine Calls.mono (HG.out n) ?_; rintro e w1 ⟨rfl, hb1⟩; (have hi1 := HI.out n w1 hb1); (have f5 : w1.frozen? ⟨g, 5, none⟩ = false := free_row hi1.cell 5); (obtain ⟨-, -, -, -, -, v5, -, -⟩ := icell hi1.cell); (have HL : Hid _ := HL0.out w1 hi1); (have g1 : g < w1.heap.size := hi1.lt); (have n2 : ¬ g = w1.heap.size := Nat.ne_of_lt hi1.lt); (have HB1 : Hid _ := hb1); (have HI1 : Hid _ := hi1); (clear hb1 hi1)))
  refine Calls.mono HL.out ?_
  rintro e w3 ⟨rfl, av3, h3, ht3, hm3⟩
  have hrb : w3.heap[w.heap.size]? = some (.cells #[.string ⟨#[]⟩, .bool false] 34) := by
    rw [ht3.block w.heap.size (by have := HB1.out.size; simp at this ⊢; omega) (fun e => by have := HH0.out.own_lt e; omega), heap_alloc_old _ _ (by have := HB1.out.size; simp at this ⊢; omega), heap_setCell_other _ _ _ _ (by show w.heap.size ≠ g; omega), HB1.out.block _ (by simp)]
    exact heap_alloc_new w _
  have hnb : w3.heap[w1.heap.size]? = some (.cells (In.tkA X) 58) := by
    rw [ht3.block w1.heap.size (by simp) (fun e => by have := HI1.out.own_lt e; omega)]
    have := heap_alloc_new (w1.setCell ⟨g, 5, none⟩ (.string (Ln.bs F2))) (.cells (In.tkA X) 58)
    simpa using this
  have HT3 : Hid (Tu (iOwn g gs av) w w3) := by
    refine Tu.trans (O' := iOwn g gs av) ?_ ht3 (fun _ _ e => e)
    refine Tu.alloc (Tu.set ?_ g 5 (.inl rfl) _) _
    exact (((Tu.refl _ w).alloc _).drewN n).trans (O' := fun _ => False) (Tu.of_below HB1.out) (fun _ _ e => e.elim)
  have HM3 : Hid (moved w av av3) := by
    rcases hm3 with e | ⟨b, e, hb⟩
    · exact .inl e
    · refine .inr ⟨b, e, ?_⟩
      have := HB1.out.size
      simp at this hb
      omega
  have hlt3 : w1.heap.size < w3.heap.size := lt_of_block hnb
  have hltn : Hid (w.heap.size < w1.heap.size) := by have := HB1.out.size; simp at this; show _ < _; omega
  have HN3 : Hid (∀ k, iOwn g gs av3 k → k ≠ w.heap.size ∧ k ≠ w1.heap.size) := by
    intro k hk
    have hk0 : iOwn g gs av k ∨ ∃ b, k = b ∧ w1.heap.size + 1 ≤ b := by
      rcases hk with e | e | e
      · exact .inl (.inl e)
      · exact .inl (.inr (.inl e))
      · rcases hm3 with q | ⟨b, q, hb⟩
        · exact .inl (.inr (.inr (by rw [← q]; exact e)))
        · rw [e] at q; cases q; exact .inr ⟨k, rfl, by simpa using hb⟩
    rcases hk0 with e | ⟨b, rfl, hb⟩
    · have := HH0.out.own_lt e; have := HI1.out.own_lt e; omega
    · have := hltn.out; omega
  have H3 : Hid (InV w3 g gs T sep S1 ta tc av3) := h3
  obtain ⟨y0, y1, y2, y3, y4, y5, y6, y7⟩ := icell h3.cell
  obtain ⟨y8, y9, y10, y11, y12⟩ := icell_ln h3.cell
  have z0 : w3.cell? ⟨w1.heap.size, 0, none⟩ = some (.int .i64 (X.pl : Int)) := by rw [cell_of_row w3 _ _ _ _ _ hnb]; rfl
  have z1 : w3.cell? ⟨w1.heap.size, 1, none⟩ = some (.int .i64 (X.no : Int)) := by rw [cell_of_row w3 _ _ _ _ _ hnb]; rfl
  have z2 : w3.cell? ⟨w1.heap.size, 2, none⟩ = some (.bool X.last) := by rw [cell_of_row w3 _ _ _ _ _ hnb]; rfl
  have z3 : w3.cell? ⟨w1.heap.size, 3, none⟩ = some (.bool X.fresh) := by rw [cell_of_row w3 _ _ _ _ _ hnb]; rfl
  have z4 : w3.cell? ⟨w1.heap.size, 4, none⟩ = some (.string X.data) := by rw [cell_of_row w3 _ _ _ _ _ hnb]; rfl
  have q0 : w3.cell? ⟨w.heap.size, 0, none⟩ = some (.string ⟨#[]⟩) := by rw [cell_of_row w3 _ _ _ _ _ hrb]; rfl
  have q1 : w3.cell? ⟨w.heap.size, 1, none⟩ = some (.bool false) := by rw [cell_of_row w3 _ _ _ _ _ hrb]; rfl
  have fg8 := free_row h3.cell 8
  have fg9 := free_row h3.cell 9
  have fg10 := free_row h3.cell 10
  have fg11 := free_row h3.cell 11
  have fg12 := free_row h3.cell 12
  have fn2 := free_row hnb 2
  have fr0 := free_row hrb 0
  have fr1 := free_row hrb 1
  have HNB : Hid _ := hnb
  have HRB : Hid _ := hrb
  have hgr := hltn.out
  have hSl : S1.asked ≤ 1024 := Nat.le_trans h3.asked h3.len
  clear hnb hrb h3 ht3 hm3 HL HL0 HI HB1 HG HF HE c0 c1 c2 c3 c4 c5 c6 c7 f5 v5
  generalize w1.heap.size = nb at *
  have HTN : Hid (∀ ad, ta = some ad → ad.block < w.heap.size) := by
    intro ad e
    obtain ⟨b, off, e', hb, _⟩ := HH0.out.sr.told.cells 0 (by have := HH0.out.asked; omega)
    rw [e] at e'; cases e'; exact hb
  generalize hrbe : w.heap.size = rb at *
  have HRE : Hid (w.heap.size = rb) := hrbe
  clear hrbe
  have n3 : ¬ g = rb := by omega
  have n4 : ¬ g = nb := by omega
  have n5 : ¬ rb = g := by omega
  have n6 : ¬ nb = g := by omega
  have n7 : ¬ rb = nb := by omega
  have n8 : ¬ nb = rb := by omega
  obtain ⟨pl, hpl⟩ : ∃ pl, pl = S1.asked - 1 := ⟨_, rfl⟩
  have e1 : IntKind.i64.wrap ((S1.asked : Int) - 1) = (pl : Int) := by rw [IntKind.wrap_i64]; have := hA1.out; omega
  have HPL : Hid _ := hpl
  clear hpl
  cases k3 : (S1.why != 0)
  · cases k4 : S1.rest.toList.isEmpty
    · cases sep
      · have HQ : Hid (R = ((Ln.bs F1, F3), true, 0, { S1 with ln := { X with last := false } })) := by
          show _ = _
          rw [HR.out]
          unfold In.tkS In.lnOf
          rw [HR1.out, HX.out]
          simp only []
          rw [← HS1.out, if_pos (by simpa using k3)]
          simp [k4]
        go_wp2_with fail
        go_region
        all_goals
          go_wp2_with fail
        all_goals
          refine bodyPost_ret (results_line3 rfl _ _ rb (Ln.bs F1) F3 rfl (drew_row (ansW_row (lnW_row HRB.out n5 n7 X false) (Ln.bs F1) F3))) rfl ?_
          refine ⟨?_, av3, ?_, ?_, HM3.out⟩
          · rw [HQ.out]; rfl
          · rw [HQ.out]
            refine InV.tu (O := fun _ => False) (InV.ans (InV.ln H3.out (fun k hk => (HN3.out k hk).2) (fun ad e => by have := HTN.out ad e; omega) X false) (fun k hk => (HN3.out k hk).1) (fun ad e => by have := HTN.out ad e; omega) (Ln.bs F1) F3) ((Tu.refl _ _).drewN 1) (fun _ _ _ e => e) (fun _ _ e => e)
          · exact (ansW_tu (lnW_tu HT3.out (.inl rfl) (by have := HRE.out; omega) X false) (by have := HRE.out; omega) (Ln.bs F1) F3).drewN 1
      · cases k5 : ((pl : Int) != (X.pl : Int))
        · have HQ : Hid (R = ((Ln.bs F1, F3), true, 0, { S1 with ln := { X with last := false } })) := by
            show _ = _
            rw [HR.out]
            unfold In.tkS In.lnOf
            rw [HR1.out, HX.out]
            simp only []
            rw [← HS1.out, if_pos (by simpa using k3)]
            simp [k4, show S1.asked - 1 = X.pl by have := HPL.out; simp at k5; omega]
          go_wp2_with fail
          go_region
          all_goals
            go_wp2_with fail
          all_goals
            refine bodyPost_ret (results_line3 rfl _ _ rb (Ln.bs F1) F3 rfl (drew_row (ansW_row (lnW_row HRB.out n5 n7 X false) (Ln.bs F1) F3))) rfl ?_
            refine ⟨?_, av3, ?_, ?_, HM3.out⟩
            · rw [HQ.out]; rfl
            · rw [HQ.out]
              refine InV.tu (O := fun _ => False) (InV.ans (InV.ln H3.out (fun k hk => (HN3.out k hk).2) (fun ad e => by have := HTN.out ad e; omega) X false) (fun k hk => (HN3.out k hk).1) (fun ad e => by have := HTN.out ad e; omega) (Ln.bs F1) F3) ((Tu.refl _ _).drewN 1) (fun _ _ _ e => e) (fun _ _ e => e)
            · exact (ansW_tu (lnW_tu HT3.out (.inl rfl) (by have := HRE.out; omega) X false) (by have := HRE.out; omega) (Ln.bs F1) F3).drewN 1
        · have HQ : Hid (R = ((Ln.bs F1, F3), true, 0, { S1 with ln := { X with last := true } })) := by
            show _ = _
            rw [HR.out]
            unfold In.tkS In.lnOf
            rw [HR1.out, HX.out]
            simp only []
            rw [← HS1.out, if_pos (by simpa using k3)]
            simp [k4, show ¬ S1.asked - 1 = X.pl by have := HPL.out; simp at k5; omega]
          go_wp2_with fail
          go_region
          all_goals
            go_wp2_with fail
          all_goals
            refine bodyPost_ret (results_line3 rfl _ _ rb (Ln.bs F1) F3 rfl (drew_row (ansW_row (lnW_row HRB.out n5 n7 X true) (Ln.bs F1) F3))) rfl ?_
            refine ⟨?_, av3, ?_, ?_, HM3.out⟩
            · rw [HQ.out]; rfl
            · rw [HQ.out]
              refine InV.tu (O := fun _ => False) (InV.ans (InV.ln H3.out (fun k hk => (HN3.out k hk).2) (fun ad e => by have := HTN.out ad e; omega) X true) (fun k hk => (HN3.out k hk).1) (fun ad e => by have := HTN.out ad e; omega) (Ln.bs F1) F3) ((Tu.refl _ _).drewN 1) (fun _ _ _ e => e) (fun _ _ e => e)
            · exact (ansW_tu (lnW_tu HT3.out (.inl rfl) (by have := HRE.out; omega) X true) (by have := HRE.out; omega) (Ln.bs F1) F3).drewN 1
    · have HQ : Hid (R = ((Ln.bs F1, F3), true, 0, { S1 with ln := { X with last := true } })) := by
        show _ = _
        rw [HR.out]
        unfold In.tkS In.lnOf
        rw [HR1.out, HX.out]
        simp only []
        rw [← HS1.out, if_pos (by simpa using k3)]
        simp [k4]
      go_wp2_with fail
      go_region
      all_goals
        go_wp2_with fail
      all_goals
        refine bodyPost_ret (results_line3 rfl _ _ rb (Ln.bs F1) F3 rfl (drew_row (ansW_row (lnW_row HRB.out n5 n7 X true) (Ln.bs F1) F3))) rfl ?_
        refine ⟨?_, av3, ?_, ?_, HM3.out⟩
        · rw [HQ.out]; rfl
        · rw [HQ.out]
          refine InV.tu (O := fun _ => False) (InV.ans (InV.ln H3.out (fun k hk => (HN3.out k hk).2) (fun ad e => by have := HTN.out ad e; omega) X true) (fun k hk => (HN3.out k hk).1) (fun ad e => by have := HTN.out ad e; omega) (Ln.bs F1) F3) ((Tu.refl _ _).drewN 1) (fun _ _ _ e => e) (fun _ _ e => e)
        · exact (ansW_tu (lnW_tu HT3.out (.inl rfl) (by have := HRE.out; omega) X true) (by have := HRE.out; omega) (Ln.bs F1) F3).drewN 1
  · have HQ : Hid (R = ((⟨#[]⟩, false), false, S1.why, S1)) := by
      show _ = _
      rw [HR.out]
      unfold In.tkS
      rw [HR1.out]
      simp only []
      rw [← HS1.out, if_neg (by simpa using k3)]
    go_wp2_with fail
    go_region
    all_goals
      go_wp2_with fail
    all_goals
      refine bodyPost_ret (results_line3 rfl _ _ rb ⟨#[]⟩ false rfl (drew_row (ansW_row HRB.out ⟨#[]⟩ false))) rfl ?_
      refine ⟨?_, av3, ?_, ?_, HM3.out⟩
      · rw [HQ.out]; rfl
      · rw [HQ.out]
        exact InV.tu (O := fun _ => False) (InV.ans H3.out (fun k hk => (HN3.out k hk).1) (fun ad e => by have := HTN.out ad e; omega) ⟨#[]⟩ false) ((Tu.refl _ _).drewN 1) (fun _ _ _ e => e) (fun _ _ e => e)
      · exact (ansW_tu HT3.out (by have := HRE.out; omega) ⟨#[]⟩ false).drewN 1
end Go.Proofs.Ythmofbcjhfcokaa
