/- What (*Space).Set and (*Space).Join do. -/
import Derived.Test.YtngmaijfahjfcaaSpV2
namespace Go.Proofs.Ytngmaijfahjfcaa
open Go.RowKit

set_option maxRecDepth 100000 in
set_option maxHeartbeats 1000000 in
theorem set1_any (S : Nat → Prop) (g xb : Nat) (s : Sc.St) (quota : Nat) (x : ByteArray) (w : World) (h : Sp w S g s quota) (hx : w.cell? ⟨xb, 0, none⟩ = some (.string x)) (hs : x.size ≤ 281474976710656) :
    Calls Try.prog 37 #[.pointer (some ⟨g, 0, none⟩), .pointer (some ⟨xb, 0, none⟩)] w fun e w1 => e = .returned (.tuple #[.int .i64 ((x.size : Int) - (s.p.length : Int)), .func (.func 38) #[] #[.pointer (some ⟨xb, 0, none⟩), .pointer (some ⟨w.heap.size, 0, none⟩)]]) ∧ Bx w g w1 := by
  obtain ⟨pv, hv, qv, h⟩ := h
  have hgl := h.gl
  have hxl : xb < w.heap.size := World.block_lt_of_cell? w _ hx
  obtain ⟨c0, c1, c2, c3, c4⟩ := h.cells
  obtain ⟨ap, cp, rfl⟩ := h.p.slice
  have hu := h.used
  have hq := h.quo
  unfold Sc.St.used at hu
  have e1 : IntKind.i64.wrap ((x.size : Int) - (s.p.length : Int)) = (x.size : Int) - (s.p.length : Int) := by rw [IntKind.wrap_i64]; omega
  clear h
  go_enter Try.func37, Try.ntmps37
  go_wp2
  go_quiet (fail)
  go_wp2
  go_ret2
  exact ⟨rfl, _, rfl⟩
set_option maxRecDepth 100000 in
set_option maxHeartbeats 1000000 in
theorem set11_any (S : Nat → Prop) (g tb xb : Nat) (s : Sc.St) (quota : Nat) (x : ByteArray) (w : World) (h : Sp w S g s quota) (hb : w.heap[tb]? = some (.cells #[.pointer (some ⟨g, 0, none⟩)] 71)) (hx : w.cell? ⟨xb, 0, none⟩ = some (.string x)) (hu : (Sc.St.mk x.data.toList s.h s.q).used ≤ quota) :
    Calls Try.prog 38 #[.pointer (some ⟨xb, 0, none⟩), .pointer (some ⟨tb, 0, none⟩)] w fun e w2 => e = .returned (.tuple #[]) ∧ Aft w S g ⟨x.data.toList, s.h, s.q⟩ quota w2 := by
  obtain ⟨pv, hv, qv, h⟩ := h
  have hgl := h.gl
  have htl := lt_of_block hb
  obtain ⟨c0, c1, c2, c3, c4⟩ := h.cells
  have ct : w.cell? ⟨tb, 0, none⟩ = some (.pointer (some ⟨g, 0, none⟩)) := by rw [cell_of_row w tb 0 _ _ _ hb]; rfl
  have f1 := h.free 0
  have hz : x.size ≤ 1099511627776 := by have := h.quo; unfold Sc.St.used at hu; simp only [Sc.szL] at hu; omega
  obtain ⟨g1, cap, w1, hr, hB, hW, hg1⟩ := conv_byt w x hz
  obtain ⟨hc, hf⟩ := bcell hW
  have HE : Hid (Aft w S g ⟨x.data.toList, s.h, s.q⟩ quota (w1.setCell ⟨g, 0, none⟩ (.slice (some ⟨g1, 0, none⟩) x.size cap))) := h.setP (Tu.of_below hW) hB (fun b hb => .inr (by cases hb; show w.heap.size ≤ g1; omega)) hu
  clear h hb hu hB hW hg1
  go_enter Try.func38, Try.ntmps38
  go_wp2
  go_end0
  exact ⟨rfl, HE.out⟩
theorem set_e1 (args : Array Value) (w : World) : (callFunc 37 args).run Try.prog w = .ok (.enter 37 args) w := by go_simp
theorem set_e2 (args : Array Value) (w : World) : (callFunc 38 args).run Try.prog w = .ok (.enter 38 args) w := by go_simp
theorem box_at (w : World) (v : Value) (t : TypeId) {w1 : World} (ht : Tu (fun _ => False) (w.alloc (.cells #[v] t)) w1) : w1.cell? ⟨w.heap.size, 0, none⟩ = some v := by
  have e := ht.block w.heap.size (by simp) (fun e => e)
  rw [cell_of_row w1 w.heap.size 0 #[v] t (0, 0) (by rw [e]; exact heap_alloc_new w _)]
  rfl
set_option maxRecDepth 100000 in
set_option maxHeartbeats 1000000 in
/-- A text is put into the pattern space. -/
theorem set_any (S : Nat → Prop) (g : Nat) (s : Sc.St) (quota : Nat) (x : ByteArray) (w : World) (h : Sp w S g s quota) (hs : x.size ≤ 281474976710656) :
    Calls Try.prog 22 #[.pointer (some ⟨g, 0, none⟩), .string x] w fun e w' => e = .returned (.int .i64 (Sc.ask quota s ⟨x.data.toList, s.h, s.q⟩).1) ∧ Aft w S g (Sc.ask quota s ⟨x.data.toList, s.h, s.q⟩).2 quota w' := by
  have hq : s.used ≤ quota ∧ quota ≤ 1073741824 := by obtain ⟨_, _, _, q⟩ := h; exact ⟨q.used, q.quo⟩
  have ht : Tu (fun _ => False) w (w.alloc (.cells #[.string x] 9)) := (Tu.refl _ w).alloc _
  have h0 : Sp (w.alloc (.cells #[.string x] 9)) S g s quota := by obtain ⟨pv, hv, qv, h⟩ := h; exact ⟨pv, hv, qv, h.tu ht (fun _ _ e => e)⟩
  have HA := ask_sp S g s ⟨x.data.toList, s.h, s.q⟩ quota (w.alloc (.cells #[.string x] 9)) h0 37 38 #[.pointer (some ⟨w.heap.size, 0, none⟩)] #[.pointer (some ⟨w.heap.size, 0, none⟩), .pointer (some ⟨(w.alloc (.cells #[.string x] 9)).heap.size, 0, none⟩)] ((x.size : Int) - (s.p.length : Int)) (Bx (w.alloc (.cells #[.string x] 9)) g) (by omega) (by unfold Sc.St.used; simp only [Sc.szL]; omega) set_e1 set_e2
    (set1_any S g w.heap.size s quota x _ h0 (box_at w _ _ (Tu.refl _ _)) hs) (fun _ q => q.tu)
    (fun hf w1 n h1 h2 => set11_any S g _ w.heap.size s quota x _ h2 (h1.atN n) (box_at w _ 9 (h1.tu.trans (tu_drewN w1 n) (fun _ _ e => e))) hf)
  have HB : Hid (∀ t w', Aft (w.alloc (.cells #[.string x] 9)) S g t quota w' → Aft w S g t quota w') := fun t w' q => q.before ht
  generalize Sc.ask quota s ⟨x.data.toList, s.h, s.q⟩ = r at *
  obtain ⟨r1, r2⟩ := r
  clear h hq h0 ht
  go_enter Try.func22, Try.ntmps22
  go_wp2_with (first | (go_at_call 36; refine HA.mono ?_; rintro e w1 ⟨rfl, hP⟩))
  go_ret
  exact ⟨rfl, HB.out _ _ hP⟩
set_option maxRecDepth 100000 in
set_option maxHeartbeats 1000000 in
theorem join1_any (S : Nat → Prop) (g xb : Nat) (s : Sc.St) (quota : Nat) (x : ByteArray) (w : World) (h : Sp w S g s quota) (hx : w.cell? ⟨xb, 0, none⟩ = some (.string x)) (hs : x.size ≤ 281474976710655) :
    Calls Try.prog 53 #[.pointer (some ⟨g, 0, none⟩), .pointer (some ⟨xb, 0, none⟩)] w fun e w1 => e = .returned (.tuple #[.int .i64 (1 + (x.size : Int)), .func (.func 54) #[] #[.pointer (some ⟨w.heap.size, 0, none⟩), .pointer (some ⟨xb, 0, none⟩)]]) ∧ Bx w g w1 := by
  obtain ⟨pv, hv, qv, h⟩ := h
  have hgl := h.gl
  have hxl : xb < w.heap.size := World.block_lt_of_cell? w _ hx
  clear h
  go_enter Try.func53, Try.ntmps53
  go_wp2
  go_ret2
  exact ⟨rfl, 0, rfl⟩
set_option maxRecDepth 100000 in
set_option maxHeartbeats 8000000 in
theorem join11_any (S : Nat → Prop) (g tb xb : Nat) (s : Sc.St) (quota : Nat) (x : ByteArray) (w : World) (h : Sp w S g s quota) (hb : w.heap[tb]? = some (.cells #[.pointer (some ⟨g, 0, none⟩)] 71)) (hx : w.heap[xb]? = some (.cells #[.string x] 9)) (hu : (Sc.St.mk (s.p ++ 10 :: x.data.toList) s.h s.q).used ≤ quota) :
    Calls Try.prog 54 #[.pointer (some ⟨tb, 0, none⟩), .pointer (some ⟨xb, 0, none⟩)] w fun e w2 => e = .returned (.tuple #[]) ∧ Aft w S g ⟨s.p ++ 10 :: x.data.toList, s.h, s.q⟩ quota w2 := by
  obtain ⟨pv, hv, qv, h⟩ := h
  obtain ⟨c0, c1, c2, c3, c4⟩ := h.cells
  have ct : w.cell? ⟨tb, 0, none⟩ = some (.pointer (some ⟨g, 0, none⟩)) := by rw [cell_of_row w tb 0 _ _ _ hb]; rfl
  have cx : w.cell? ⟨xb, 0, none⟩ = some (.string x) := by rw [cell_of_row w xb 0 _ _ _ hx]; rfl
  have f1 := h.free 0
  have hz : s.p.length + x.size ≤ 1000000000000 := by have := h.quo; unfold Sc.St.used at hu; simp only [List.length_append, List.length_cons, Sc.szL] at hu; omega
  have HC : Hid (∀ n, Calls Try.prog 55 #[pv, .string x] (w.drewN n) fun e w' => ∃ v', e = .returned v' ∧ Byt w' v' (s.p ++ 10 :: x.data.toList) ∧ Tu (fun k => blk pv = some k) w w' ∧ (∀ b, blk v' = some b → blk pv = some b ∨ w.heap.size ≤ b) ∧ (w'.cell? ⟨tb, 0, none⟩ = some (.pointer (some ⟨g, 0, none⟩)) ∧ w'.frozen? ⟨g, 0, none⟩ = false ∧ w'.cell? ⟨g, 0, none⟩ = some pv)) := fun n => by
    refine (sjoined_any pv s.p x (w.drewN n) (h.p.tu (tu_drewN w n) (fun _ _ e => e)) hz).mono ?_
    rintro e w' ⟨v', h1, h2, h3, h4⟩
    have h3' : Tu (fun k => blk pv = some k) w w' := (tu_drewN w n).trans h3 (fun _ _ e => e)
    have k1 := kept h3' hb (byt_ne h.p hb (by decide))
    have k2 := kept h3' h.cell (fun e => (h.pS g e).2 rfl)
    exact ⟨v', h1, h2, h3', h4, by rw [k1.1]; exact ct, by rw [k2.2]; exact f1, by rw [k2.1]; exact c0⟩
  have HE : Hid (∀ w1 v, Tu (fun k => blk pv = some k) w w1 → Byt w1 v (s.p ++ 10 :: x.data.toList) → (∀ b, blk v = some b → blk pv = some b ∨ w.heap.size ≤ b) → Aft w S g ⟨s.p ++ 10 :: x.data.toList, s.h, s.q⟩ quota (w1.setCell ⟨g, 0, none⟩ v)) := fun w1 v h1 h2 h3 => h.setP h1 h2 h3 hu
  clear h hb hx hu hz c1 c2 c3 c4
  generalize hJ : s.p ++ 10 :: x.data.toList = J at *
  have HJ : Hid (s.p ++ 10 :: x.data.toList = J) := hJ
  clear hJ
  go_enter Try.func54, Try.ntmps54
  go_region_with (first | (go_at_call 55; refine (HC.out _).mono ?_; rintro e w1 ⟨v1, rfl, hB1, hW1, hk1, hc1, hf1, hd1⟩; obtain ⟨a1, n1, rfl⟩ := hB1.slice; have HF : Hid (Byt w1 (.slice a1 J.length n1) J ∧ Tu (fun k => blk pv = some k) w w1 ∧ ∀ b, blk (.slice a1 J.length n1) = some b → blk pv = some b ∨ w.heap.size ≤ b) := ⟨hB1, hW1, hk1⟩; clear hB1 hW1 hk1))
  all_goals (go_end0; (try rw [HJ.out]); exact ⟨rfl, HE.out _ _ HF.out.2.1 HF.out.1 HF.out.2.2⟩)
theorem join_e1 (args : Array Value) (w : World) : (callFunc 53 args).run Try.prog w = .ok (.enter 53 args) w := by go_simp
theorem join_e2 (args : Array Value) (w : World) : (callFunc 54 args).run Try.prog w = .ok (.enter 54 args) w := by go_simp
theorem box_blk (w : World) (v : Value) (t : TypeId) {w1 : World} (ht : Tu (fun _ => False) (w.alloc (.cells #[v] t)) w1) : w1.heap[w.heap.size]? = some (.cells #[v] t) := by
  rw [ht.block w.heap.size (by simp) (fun e => e)]
  exact heap_alloc_new w _
set_option maxRecDepth 100000 in
set_option maxHeartbeats 1000000 in
/-- A line feed and a text come behind the pattern space. -/
theorem join_any (S : Nat → Prop) (g : Nat) (s : Sc.St) (quota : Nat) (x : ByteArray) (w : World) (h : Sp w S g s quota) (hs : x.size ≤ 281474976710655) :
    Calls Try.prog 29 #[.pointer (some ⟨g, 0, none⟩), .string x] w fun e w' => e = .returned (.int .i64 (Sc.ask quota s ⟨s.p ++ 10 :: x.data.toList, s.h, s.q⟩).1) ∧ Aft w S g (Sc.ask quota s ⟨s.p ++ 10 :: x.data.toList, s.h, s.q⟩).2 quota w' := by
  have hq : s.used ≤ quota ∧ quota ≤ 1073741824 := by obtain ⟨_, _, _, q⟩ := h; exact ⟨q.used, q.quo⟩
  have ht : Tu (fun _ => False) w (w.alloc (.cells #[.string x] 9)) := (Tu.refl _ w).alloc _
  have h0 : Sp (w.alloc (.cells #[.string x] 9)) S g s quota := by obtain ⟨pv, hv, qv, h⟩ := h; exact ⟨pv, hv, qv, h.tu ht (fun _ _ e => e)⟩
  have HA := ask_sp S g s ⟨s.p ++ 10 :: x.data.toList, s.h, s.q⟩ quota (w.alloc (.cells #[.string x] 9)) h0 53 54 #[.pointer (some ⟨w.heap.size, 0, none⟩)] #[.pointer (some ⟨(w.alloc (.cells #[.string x] 9)).heap.size, 0, none⟩), .pointer (some ⟨w.heap.size, 0, none⟩)] (1 + (x.size : Int)) (Bx (w.alloc (.cells #[.string x] 9)) g) (by omega) (by unfold Sc.St.used; simp only [List.length_append, List.length_cons, Sc.szL]; omega) join_e1 join_e2
    (join1_any S g w.heap.size s quota x _ h0 (box_at w _ _ (Tu.refl _ _)) hs) (fun _ q => q.tu)
    (fun hf w1 n h1 h2 => join11_any S g _ w.heap.size s quota x _ h2 (h1.atN n) (box_blk w _ 9 (h1.tu.trans (tu_drewN w1 n) (fun _ _ e => e))) hf)
  have HB : Hid (∀ t w', Aft (w.alloc (.cells #[.string x] 9)) S g t quota w' → Aft w S g t quota w') := fun t w' q => q.before ht
  generalize Sc.ask quota s ⟨s.p ++ 10 :: x.data.toList, s.h, s.q⟩ = r at *
  obtain ⟨r1, r2⟩ := r
  clear h hq h0 ht
  go_enter Try.func29, Try.ntmps29
  go_wp2_with (first | (go_at_call 36; refine HA.mono ?_; rintro e w1 ⟨rfl, hP⟩))
  go_ret
  exact ⟨rfl, HB.out _ _ hP⟩
end Go.Proofs.Ytngmaijfahjfcaa
