/- What (*Space).Drop does. -/
import Derived.Test.YtngmaijfahjfcaaSpC
import Derived.BigRegion
namespace Go.Proofs.Ytngmaijfahjfcaa
open Go.RowKit

theorem Aft.more {W w w' : World} {S : Nat → Prop} {g : Nat} {s : Sc.St} {quota : Nat} (h : Aft W S g s quota w) (ht : Tu (fun _ => False) w w') : Aft W S g s quota w' := by
  obtain ⟨S', ⟨pv, hv, qv, h1⟩, h2, h3⟩ := h
  exact ⟨S', ⟨pv, hv, qv, h1.tu ht (fun _ _ e => e)⟩, h2.trans ht (fun _ _ e => e.elim), h3⟩
/-- A variable beside a space is written. -/
theorem SpV.beside {w : World} {S : Nat → Prop} {g : Nat} {s : Sc.St} {quota : Nat} {pv hv qv : Value} (h : SpV w S g s quota pv hv qv) {mb : Nat} {c : Value} (hm : w.heap[mb]? = some (.cells #[c] 4)) (v : Value) : SpV (w.setCell ⟨mb, 0, none⟩ v) S g s quota pv hv qv := by
  have hp : ∀ b, b ≠ mb → (w.setCell ⟨mb, 0, none⟩ v).heap[b]? = w.heap[b]? := fun b e => heap_setCell_other w _ b v e
  have hg : g ≠ mb := by
    rintro rfl
    have := h.cell
    rw [hm] at this
    cases this
  refine { h with cell := by rw [hp g hg]; exact h.cell, p := h.p.keep (fun b e => hp b ?_), h := h.h.keep (fun b e => hp b ?_), q := own_keep h.q (fun b e => hp b ?_) }
  · rintro rfl; exact byt_ne h.p hm (by decide) e
  · rintro rfl; exact byt_ne h.h hm (by decide) e
  · rintro rfl
    rcases h.q.2 with ⟨q, _⟩ | ⟨g', cap, cur, q1, q2, q3, _⟩
    · rw [q] at e; cases e
    · rw [q1] at e
      cases e
      rw [hm] at q3
      cases q3
/-- What Drop's thing leaves: boxes, and the rest of the pattern space. -/
def Dx (w : World) (g : Nat) (l : List UInt8) (w1 : World) : Prop :=
  ∃ v2, Tu (fun _ => False) w w1 ∧ w1.heap[w.heap.size]? = some (.cells #[.pointer (some ⟨g, 0, none⟩)] 71) ∧ w1.heap[w.heap.size + 2]? = some (.cells #[v2] 60) ∧ w1.heap[w.heap.size + 3]? = some (.cells #[.bool (Sc.lf l).isSome] 4) ∧ Byt w1 v2 (Sc.rst l) ∧ ∀ pv, w1.cell? ⟨g, 0, none⟩ = some pv → ∀ b, blk v2 = some b → blk pv = some b
theorem cell_alloc {w : World} {a : Addr} {v : Value} {o : Obj} (h : w.cell? a = some v) : (w.alloc o).cell? a = some v := by
  rw [World.cell?_alloc_lt _ _ _ (World.block_lt_of_cell? w a h)]
  exact h
theorem Dx.of {w : World} {g : Nat} {l : List UInt8} {v2 PV : Value} (n m : Nat) (c0 : w.cell? ⟨g, 0, none⟩ = some PV)
    (hb : Byt ((w.alloc (.cells #[.pointer (some ⟨g, 0, none⟩)] 71)).alloc (.cells #[.int .u8 10] 5)) v2 (Sc.rst l) ∧ (∀ b, blk v2 = some b → blk PV = some b)) :
    Dx w g l ((((((w.alloc (.cells #[.pointer (some ⟨g, 0, none⟩)] 71)).alloc (.cells #[.int .u8 10] 5)).alloc (.cells #[v2] 60)).alloc (.cells #[.bool (Sc.lf l).isSome] 4)).drewN n).drewN m) := by
  have s1 : ∀ (W : World) (o : Obj), (W.alloc o).heap.size = W.heap.size + 1 := fun W o => by simp
  refine ⟨v2, ?_, ?_, ?_, ?_, ?_, fun pv hp => ?_⟩
  · exact ((((((Tu.refl _ w).alloc _).alloc _).alloc _).alloc _).trans (tu_drewN _ n) (fun _ _ e => e)).trans (tu_drewN _ m) (fun _ _ e => e)
  · show (((((w.alloc _).alloc _).alloc _).alloc _)).heap[w.heap.size]? = _
    rw [alloc_keep _ (by rw [s1, s1, s1]; omega), alloc_keep _ (by rw [s1, s1]; omega), alloc_keep _ (by rw [s1]; omega), heap_alloc_new]
  · show (((((w.alloc _).alloc _).alloc _).alloc _)).heap[w.heap.size + 2]? = _
    rw [alloc_keep _ (by rw [s1, s1, s1]; omega)]
    have := heap_alloc_new ((w.alloc (.cells #[.pointer (some ⟨g, 0, none⟩)] 71)).alloc (.cells #[.int .u8 10] 5)) (.cells #[v2] 60)
    rw [s1, s1] at this
    exact this
  · have := heap_alloc_new (((w.alloc (.cells #[.pointer (some ⟨g, 0, none⟩)] 71)).alloc (.cells #[.int .u8 10] 5)).alloc (.cells #[v2] 60)) (.cells #[.bool (Sc.lf l).isSome] 4)
    rw [s1, s1, s1] at this
    exact this
  · exact (((hb.1.alloc _).alloc _).tu (tu_drewN _ n) (fun _ _ e => e)).tu (tu_drewN _ m) (fun _ _ e => e)
  · have e : (((((w.alloc (.cells #[.pointer (some ⟨g, 0, none⟩)] 71)).alloc (.cells #[.int .u8 10] 5)).alloc (.cells #[v2] 60)).alloc (.cells #[.bool (Sc.lf l).isSome] 4))).cell? ⟨g, 0, none⟩ = some pv := hp
    rw [cell_alloc (cell_alloc (cell_alloc (cell_alloc c0)))] at e
    cases e
    exact hb.2
set_option maxRecDepth 100000 in
set_option maxHeartbeats 1000000 in
theorem drop1_any (S : Nat → Prop) (g mb : Nat) (s : Sc.St) (quota : Nat) (w : World) (h : Sp w S g s quota) :
    Calls Try.prog 46 #[.pointer (some ⟨g, 0, none⟩), .pointer (some ⟨mb, 0, none⟩)] w fun e w1 => e = .returned (.tuple #[.int .i64 (((Sc.rst s.p).length : Int) - (s.p.length : Int)), .func (.func 47) #[] #[.pointer (some ⟨w.heap.size + 2, 0, none⟩), .pointer (some ⟨w.heap.size + 3, 0, none⟩), .pointer (some ⟨w.heap.size, 0, none⟩), .pointer (some ⟨mb, 0, none⟩)]]) ∧ Dx w g s.p w1 := by
  obtain ⟨pv, hv, qv, h⟩ := h
  have hgl := h.gl
  obtain ⟨c0, _, _, _, _⟩ := h.cells
  obtain ⟨ap, cp, rfl⟩ := h.p.slice
  have hu := h.used
  have hq := h.quo
  unfold Sc.St.used at hu
  have hz : s.p.length ≤ 1099511627776 := by omega
  have hr := Sc.rst_len s.p
  have e1 : IntKind.i64.wrap (((Sc.rst s.p).length : Int) - (s.p.length : Int)) = ((Sc.rst s.p).length : Int) - (s.p.length : Int) := by rw [IntKind.wrap_i64]; omega
  have HC : Hid (Calls Try.prog 34 #[.slice ap s.p.length cp, .slice (some ⟨w.heap.size + 1, 0, none⟩) 1 1] ((w.alloc (.cells #[.pointer (some ⟨g, 0, none⟩)] 71)).alloc (.cells #[.int .u8 10] 5)) fun e w' => ∃ v1 v2, e = .returned (.tuple #[v1, v2, .bool (Sc.lf s.p).isSome]) ∧ Byt ((w.alloc (.cells #[.pointer (some ⟨g, 0, none⟩)] 71)).alloc (.cells #[.int .u8 10] 5)) v2 (Sc.rst s.p) ∧ (∀ b, blk v2 = some b → blk (.slice ap s.p.length cp) = some b) ∧ ∃ n, w' = ((w.alloc (.cells #[.pointer (some ⟨g, 0, none⟩)] 71)).alloc (.cells #[.int .u8 10] 5)).drewN n) := by
    have hc : ((w.alloc (.cells #[.pointer (some ⟨g, 0, none⟩)] 71)).alloc (.cells #[.int .u8 10] 5)).cell? ⟨w.heap.size + 1, 0, none⟩ = some (.int .u8 10) := by
      have := heap_alloc_new (w.alloc (.cells #[.pointer (some ⟨g, 0, none⟩)] 71)) (.cells #[.int .u8 10] 5)
      rw [show (w.alloc (.cells #[.pointer (some ⟨g, 0, none⟩)] 71)).heap.size = w.heap.size + 1 by simp] at this
      rw [cell_of_row _ _ 0 _ _ _ this]
      rfl
    refine (cut_any _ s.p (w.heap.size + 1) _ ((h.p.alloc _).alloc _) hz hc).mono ?_
    rintro e w' ⟨v1, v2, rfl, _, h2, h3, h4⟩
    exact ⟨v1, v2, rfl, h2, h3, h4⟩
  clear h
  have c4 : ∀ A B C D : Obj, ((((w.alloc A).alloc B).alloc C).alloc D).cell? ⟨g, 0, none⟩ = some (.slice ap s.p.length cp) := fun A B C D => cell_alloc (cell_alloc (cell_alloc (cell_alloc c0)))
  have ad : ∀ (W : World) j o, (W.drewN j).alloc o = (W.alloc o).drewN j := fun _ _ _ => rfl
  have sd : ∀ (W : World) j x v, (W.drewN j).setCell x v = (W.setCell x v).drewN j := fun _ _ _ _ => rfl
  go_enter Try.func46, Try.ntmps46
  go_wp2_with (first | (go_at_call 34; refine HC.out.mono ?_; rintro e w1 ⟨v1, v2, rfl, h1, h2, n1, rfl⟩; obtain ⟨a2, c2, rfl⟩ := h1.slice; have HF : Hid (Byt ((w.alloc (.cells #[.pointer (some ⟨g, 0, none⟩)] 71)).alloc (.cells #[.int .u8 10] 5)) (.slice a2 (Sc.rst s.p).length c2) (Sc.rst s.p) ∧ (∀ b, blk (.slice a2 (Sc.rst s.p).length c2) = some b → blk (.slice ap s.p.length cp) = some b)) := ⟨h1, h2⟩; clear h1 h2))
  go_quiet (fail)
  go_wp2
  go_ret2
  exact ⟨rfl, Dx.of _ _ c0 HF.out⟩
/-- The rest of the pattern space is stored, and whether there was a line feed. -/
theorem drop_end {W : World} {S : Nat → Prop} {g mb : Nat} {s : Sc.St} {quota : Nat} {pv hv qv v2 : Value} {b : Bool} (h : SpV W S g s quota pv hv qv) (hm : W.heap[mb]? = some (.cells #[.bool false] 4)) (hS : S mb) (hl : Byt W v2 (Sc.rst s.p)) (hb : ∀ k, blk v2 = some k → blk pv = some k) :
    Aft W S g ⟨Sc.rst s.p, s.h, s.q⟩ quota ((W.setCell ⟨g, 0, none⟩ v2).setCell ⟨mb, 0, none⟩ (.bool b)) ∧ ((W.setCell ⟨g, 0, none⟩ v2).setCell ⟨mb, 0, none⟩ (.bool b)).cell? ⟨mb, 0, none⟩ = some (.bool b) := by
  have hg : mb ≠ g := by
    rintro rfl
    have := h.cell
    rw [hm] at this
    cases this
  have hm1 : (W.setCell ⟨g, 0, none⟩ v2).heap[mb]? = some (.cells #[.bool false] 4) := by rw [heap_setCell_other W _ mb v2 hg]; exact hm
  obtain ⟨S', ⟨p1, p2, p3, q1⟩, q2, q3⟩ := h.setP (l := Sc.rst s.p) (v := v2) (Tu.refl _ W) hl (fun k e => .inl (hb k e)) (by
    have := h.used
    have := Sc.rst_len s.p
    unfold Sc.St.used at *
    simp only []
    omega)
  refine ⟨⟨S', ⟨p1, p2, p3, q1.beside hm1 _⟩, q2.setCell (fun _ => hS) _, q3⟩, ?_⟩
  rw [cell_of_row _ _ 0 _ _ _ (row_set hm1 0 (.bool b))]
  rfl
theorem row_free {w : World} {b : Nat} {cs : Array Value} {t : TypeId} (h : w.heap[b]? = some (.cells cs t)) (j : Nat) : w.frozen? ⟨b, j, none⟩ = false := by
  unfold World.frozen?
  simp [h]
set_option maxRecDepth 100000 in
set_option maxHeartbeats 1000000 in
theorem drop11_any (S : Nat → Prop) (g tb rb fb mb : Nat) (s : Sc.St) (quota : Nat) (b : Bool) (v2 : Value) (w : World) (h : Sp w S g s quota) (ht : w.heap[tb]? = some (.cells #[.pointer (some ⟨g, 0, none⟩)] 71)) (hr : w.heap[rb]? = some (.cells #[v2] 60)) (hf : w.heap[fb]? = some (.cells #[.bool b] 4)) (hm : w.heap[mb]? = some (.cells #[.bool false] 4)) (hS : S mb) (hfm : fb ≠ mb)
    (hl : Byt w v2 (Sc.rst s.p)) (hb : ∀ pv, w.cell? ⟨g, 0, none⟩ = some pv → ∀ k, blk v2 = some k → blk pv = some k) :
    Calls Try.prog 47 #[.pointer (some ⟨rb, 0, none⟩), .pointer (some ⟨fb, 0, none⟩), .pointer (some ⟨tb, 0, none⟩), .pointer (some ⟨mb, 0, none⟩)] w fun e w2 => e = .returned (.tuple #[]) ∧ Aft w S g ⟨Sc.rst s.p, s.h, s.q⟩ quota w2 ∧ w2.cell? ⟨mb, 0, none⟩ = some (.bool b) := by
  obtain ⟨pv, hv, qv, h⟩ := h
  obtain ⟨c0, _, _, _, _⟩ := h.cells
  have f0 := h.free 0
  have f1 := row_free hm 0
  obtain ⟨a2, n2, rfl⟩ := hl.slice
  have ct : w.cell? ⟨tb, 0, none⟩ = some (.pointer (some ⟨g, 0, none⟩)) := by rw [cell_of_row w tb 0 _ _ _ ht]; rfl
  have cr : w.cell? ⟨rb, 0, none⟩ = some (.slice a2 (Sc.rst s.p).length n2) := by rw [cell_of_row w rb 0 _ _ _ hr]; rfl
  have cf : w.cell? ⟨fb, 0, none⟩ = some (.bool b) := by rw [cell_of_row w fb 0 _ _ _ hf]; rfl
  have cm : w.cell? ⟨mb, 0, none⟩ = some (.bool false) := by rw [cell_of_row w mb 0 _ _ _ hm]; rfl
  have hmg : mb ≠ g := by
    rintro rfl
    have := h.cell
    rw [hm] at this
    cases this
  have hgm : g ≠ mb := Ne.symm hmg
  have n1 : fb ≠ g := fun e => by have := h.cell; rw [← e, hf] at this; cases this
  have n2' : rb ≠ g := fun e => by have := h.cell; rw [← e, hr] at this; cases this
  have n3 : tb ≠ g := fun e => by have := h.cell; rw [← e, ht] at this; cases this
  have n4 : rb ≠ mb := fun e => by rw [e, hm] at hr; cases hr
  have n5 : tb ≠ mb := fun e => by rw [e, hm] at ht; cases ht
  have m1 := n1.symm
  have m2 := n2'.symm
  have m3 := n3.symm
  have m4 := n4.symm
  have m5 := n5.symm
  have m6 := hfm.symm
  have HE : Hid (Aft w S g ⟨Sc.rst s.p, s.h, s.q⟩ quota ((w.setCell ⟨g, 0, none⟩ (.slice a2 (Sc.rst s.p).length n2)).setCell ⟨mb, 0, none⟩ (.bool b)) ∧ ((w.setCell ⟨g, 0, none⟩ (.slice a2 (Sc.rst s.p).length n2)).setCell ⟨mb, 0, none⟩ (.bool b)).cell? ⟨mb, 0, none⟩ = some (.bool b)) := drop_end h hm hS hl (hb pv c0)
  clear h ht hr hf hm hl hb
  go_enter Try.func47, Try.ntmps47
  go_region
  go_end0
  exact ⟨rfl, HE.out.1.more (Tu.refl _ _).drew, HE.out.2⟩
theorem drop_e1 (args : Array Value) (w : World) : (callFunc 46 args).run Try.prog w = .ok (.enter 46 args) w := by go_simp
theorem drop_e2 (args : Array Value) (w : World) : (callFunc 47 args).run Try.prog w = .ok (.enter 47 args) w := by go_simp
set_option maxRecDepth 100000 in
set_option maxHeartbeats 1000000 in
/-- The first line is taken out, with its line feed. -/
theorem drop_any (S : Nat → Prop) (g : Nat) (s : Sc.St) (quota : Nat) (w : World) (h : Sp w S g s quota) :
    Calls Try.prog 26 #[.pointer (some ⟨g, 0, none⟩)] w fun e w' => e = .returned (.tuple #[.bool (Sc.lf s.p).isSome, .int .i64 0]) ∧ Aft w S g ⟨Sc.rst s.p, s.h, s.q⟩ quota w' := by
  have hq : s.used ≤ quota ∧ quota ≤ 1073741824 := by obtain ⟨_, _, _, q⟩ := h; exact ⟨q.used, q.quo⟩
  have hr := Sc.rst_len s.p
  have hpl : s.p.length ≤ s.used := by unfold Sc.St.used; omega
  have ht : Tu (fun _ => False) w (w.alloc (.cells #[.bool false] 4)) := (Tu.refl _ w).alloc _
  have hmb : (w.alloc (.cells #[.bool false] 4)).heap[w.heap.size]? = some (.cells #[.bool false] 4) := heap_alloc_new w _
  have hsz : (w.alloc (.cells #[.bool false] 4)).heap.size = w.heap.size + 1 := by simp
  have h0 : Sp (w.alloc (.cells #[.bool false] 4)) (fun k => S k ∨ k = w.heap.size) g s quota := by obtain ⟨pv, hv, qv, h⟩ := h; exact ⟨pv, hv, qv, (h.tu ht (fun _ _ e => e)).mono (fun _ e => .inl e)⟩
  have HA := ask_any (fun k => S k ∨ k = w.heap.size) g s quota (w.alloc (.cells #[.bool false] 4)) h0 46 47 #[.pointer (some ⟨w.heap.size, 0, none⟩)] _ _ (Dx (w.alloc (.cells #[.bool false] 4)) g s.p) (fun w2 => Aft w S g ⟨Sc.rst s.p, s.h, s.q⟩ quota w2 ∧ w2.cell? ⟨w.heap.size, 0, none⟩ = some (.bool (Sc.lf s.p).isSome))
    (by omega) (by omega) drop_e1 drop_e2 (drop1_any _ g w.heap.size s quota _ h0) (fun w1 ⟨_, q, _⟩ => q) (fun _ w1 n ⟨v2, q1, q2, q3, q4, q5, q6⟩ => by
      have t1 : Tu (fun _ => False) (w.alloc (.cells #[.bool false] 4)) (w1.drewN n) := q1.trans (tu_drewN w1 n) (fun _ _ e => e)
      have h1 : Sp (w1.drewN n) (fun k => S k ∨ k = w.heap.size) g s quota := by obtain ⟨pv, hv, qv, h0⟩ := h0; exact ⟨pv, hv, qv, h0.tu t1 (fun _ _ e => e)⟩
      refine (drop11_any (fun k => S k ∨ k = w.heap.size) g _ _ _ w.heap.size s quota (Sc.lf s.p).isSome v2 (w1.drewN n) h1 q2 q3 q4 (by rw [t1.block w.heap.size (by rw [hsz]; omega) (fun e => e)]; exact hmb) (.inr rfl) (by rw [hsz]; omega) (q5.tu (tu_drewN w1 n) (fun _ _ e => e)) q6).mono ?_
      rintro e w2 ⟨rfl, ⟨S', a1, a2, a3⟩, a4⟩
      have sz := t1.size
      refine ⟨rfl, ⟨S', a1, ((ht.mono (fun _ _ e => e.elim)).trans (t1.mono (fun _ _ e => e.elim)) (fun _ _ e => e)).trans a2 (fun k hk e => ?_), fun k hk => ?_⟩, a4⟩
      · rcases e with q | q
        · exact q
        · omega
      · rcases a3 k hk with (q | q) | q
        · exact .inl q
        · exact .inr (by omega)
        · exact .inr (by omega))
  have HA' : Hid (Calls Try.prog 36 #[.pointer (some ⟨g, 0, none⟩), .func (.func 46) #[] #[.pointer (some ⟨w.heap.size, 0, none⟩)]] (w.alloc (.cells #[.bool false] 4)) fun e w' => e = .returned (.int .i64 0) ∧ Aft w S g ⟨Sc.rst s.p, s.h, s.q⟩ quota w' ∧ w'.cell? ⟨w.heap.size, 0, none⟩ = some (.bool (Sc.lf s.p).isSome)) := by
    refine HA.mono ?_
    rintro e w' ⟨q, _⟩
    obtain ⟨rfl, q1, q2⟩ := q (by omega)
    exact ⟨rfl, q1, q2⟩
  generalize (Sc.lf s.p).isSome = L at *
  clear HA h hq hr hpl ht hmb hsz h0
  go_enter Try.func26, Try.ntmps26
  go_wp2_with (first | (go_at_call 36; refine HA'.out.mono ?_; rintro e w1 ⟨rfl, hP, hc⟩; have HP : Hid (Aft w S g ⟨Sc.rst s.p, s.h, s.q⟩ quota w1) := hP; clear hP))
  go_ret2
  exact ⟨rfl, HP.out⟩
end Go.Proofs.Ytngmaijfahjfcaa
