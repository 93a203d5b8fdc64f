/- What slices.Grow, bytes.Clone and space.joined answer. -/
import Derived.Test.YtngmaijfahjfcaaSpA
import Derived.Lib.SliceRun
namespace Go.Proofs.Ytngmaijfahjfcaa
open Go.RowKit

set_option maxRecDepth 100000 in
set_option maxHeartbeats 1000000 in
theorem grow_room (a : Option Addr) (l c n : Nat) (w : World) (hlc : l + n ≤ c) (hc : c ≤ maxLen) :
    Calls Try.prog 61 #[.slice a l c, .int .i64 n] w fun e w' => e = .returned (.slice a l c) ∧ w' = w := by
  unfold maxLen at hc
  have h1 : ¬ ((n : Int) < 0) := by omega
  have h2 : wrap64 ((c : Int) - (l : Int)) = (c : Int) - (l : Int) := by unfold wrap64; omega
  have h3 : wrap64 ((n : Int) - ((c : Int) - (l : Int))) = (n : Int) - ((c : Int) - (l : Int)) := by unfold wrap64; omega
  have h4 : ¬ ((n : Int) - ((c : Int) - (l : Int)) > 0) := by omega
  go_enter Try.func61, Try.ntmps61
  go_wp2
  go_ret
  exact ⟨rfl, rfl⟩
set_option maxRecDepth 100000 in
set_option maxHeartbeats 1000000 in
theorem grow_more (v : Value) (l : List UInt8) (a : Option Addr) (c n : Nat) (w : World) (hv : v = .slice a l.length c) (h : Byt w v l) (hlc : c < l.length + n) (hn : l.length + n ≤ 1099511627776) :
    Calls Try.prog 61 #[v, .int .i64 n] w fun e w' => ∃ cap, e = .returned (.slice (some ⟨w.heap.size, 0, none⟩) l.length cap) ∧ Byt w' (.slice (some ⟨w.heap.size, 0, none⟩) l.length cap) l ∧ Below w.heap.size w w' := by
  obtain ⟨i0, hi, hz0, hz1, hz2⟩ := info_parts Try.infoByte
  obtain ⟨cs, hcl, hcf, hct⟩ : ∃ cs : List Value, cs.length = c ∧ (Builtin.firstCells i0.size c (.slice a c c)).run Try.prog w.drew = .ok cs.toArray w.drew ∧ ∀ j (hj : j < l.length), cs[j]? = some (.int .u8 ((l[j]'hj).toNat : Int)) := by
    rcases h with ⟨rfl, rfl⟩ | ⟨g, o, cap, cur, fr, rfl, h2, h3, h4, h5, h6, h7⟩
    · cases hv
      exact ⟨[], rfl, run_firstCells_none w.drew i0.size 0 0 0, fun j hj => by simp at hj⟩
    · cases hv
      refine ⟨(cur.toList.drop o).take c, by simp; omega, ?_, fun j hj => ?_⟩
      · refine run_firstCells_some w.drew i0.size c ⟨g, o, none⟩ c c _ (by rw [hz1]; simp; omega) (fun j u hu => ?_)
        rw [add_at]
        show w.cell? _ = _
        rw [cell_of_row w g (o + j) cur 5 fr h2, ← hu]
        have hj : j < c := by
          have := (List.getElem?_eq_some_iff.1 hu).1
          simp at this
          omega
        rw [List.getElem?_take, if_pos hj, List.getElem?_drop]
        simp
      · rw [List.getElem?_take, if_pos (by omega), List.getElem?_drop, ← h7 j hj]
        simp
  have hlc' : l.length ≤ c := by
    rcases h with ⟨rfl, rfl⟩ | ⟨g, o, cap, cur, fr, rfl, h2, h3, _⟩
    · simp
    · cases hv; exact h3
  have ha : a = none → c = 0 ∧ l = [] := by
    rintro rfl
    rcases h with ⟨rfl, rfl⟩ | ⟨g, o, cap, cur, fr, rfl, _⟩
    · cases hv; exact ⟨rfl, rfl⟩
    · cases hv
  obtain ⟨k, hk⟩ : ∃ k, k = l.length + n - c := ⟨_, rfl⟩
  have hr := fun ty => Lib.run_append_grow_zeros w 60 3 ty 5 i0 (.int .u8 0) .i64 .i64 Try.underlying60 Try.underlying3 hi hz0 a c c cs hcf k (by omega) (by rw [hz1]; omega) (by omega) (by omega) (by rw [hz2]; omega) (growslice_fits (by omega) (by rw [hz2]; omega))
  have hge := grownCap_ge w (c + k) c 5
  have hle := grownCap_le_maxLen w (c + k) c 5 (by unfold maxLen; omega)
  generalize grownCap w (c + k) c 5 = gc at *
  have HB : Hid (Byt (w.drew.alloc (.cells (cs.toArray ++ Builtin.zeroCells (Value.int .u8 0).cells k ++ Builtin.zeroCells (Value.int .u8 0).cells (gc - (c + k))) 5)) (.slice (some ⟨w.heap.size, 0, none⟩) l.length gc) l) := by
    refine .inr ⟨w.heap.size, 0, gc, _, (0, 0), rfl, heap_alloc_new w.drew _, by omega, hle, ?_, .inl rfl, fun j hj => ?_⟩
    · simp only [Array.size_append, size_zeroCells]
      simp [hcl, Value.cells]
      omega
    · rw [Nat.zero_add, Array.append_assoc, Array.getElem?_append_left (by simp; omega)]
      simpa using hct j hj
  have HW : Hid (Below w.heap.size w (w.drew.alloc (.cells (cs.toArray ++ Builtin.zeroCells (Value.int .u8 0).cells k ++ Builtin.zeroCells (Value.int .u8 0).cells (gc - (c + k))) 5))) := (Below.refl _ _).drew.alloc (Nat.le_refl _) _
  have hki : (n : Int) - ((c : Int) - (l.length : Int)) = (k : Int) := by omega
  generalize hcz : cs.toArray ++ Builtin.zeroCells (Value.int .u8 0).cells k ++ Builtin.zeroCells (Value.int .u8 0).cells (gc - (c + k)) = CZ at *
  clear hcf hct hcz
  unfold maxLen at hle
  have h1 : ¬ ((n : Int) < 0) := by omega
  have h2 : wrap64 ((c : Int) - (l.length : Int)) = (c : Int) - (l.length : Int) := by unfold wrap64; omega
  have h3 : wrap64 ((n : Int) - ((c : Int) - (l.length : Int))) = (k : Int) := by unfold wrap64; omega
  have h4 : (k : Int) > 0 := by omega
  subst hv
  clear h
  go_enter Try.func61, Try.ntmps61
  cases a with
  | none =>
    obtain ⟨rfl, rfl⟩ := ha rfl
    obtain rfl : k = n := by simpa using hk
    clear hk h2 h3 hlc' ha hki
    go_wp2_with (at_builtin; refine Lib.wpList_append_run _ rfl _ _ _ _ rfl _ _ rfl rfl _ _ (hr _) ?_)
    all_goals (go_ret; exact ⟨gc, rfl, HB.out, HW.out⟩)
  | some a =>
    obtain ⟨ab, ao, asp⟩ := a
    rw [← hki] at hr
    clear hk ha hki h3
    have h3 : wrap64 ((n : Int) - ((c : Int) - (l.length : Int))) = (n : Int) - ((c : Int) - (l.length : Int)) := by unfold wrap64; omega
    have h5 : (n : Int) - ((c : Int) - (l.length : Int)) > 0 := by omega
    go_wp2_with (at_builtin; refine Lib.wpList_append_run _ rfl _ _ _ _ rfl _ _ rfl rfl _ _ (hr _) ?_)
    all_goals (go_ret; exact ⟨gc, rfl, HB.out, HW.out⟩)
/-- Room for n bytes more behind l. -/
theorem grow_any (v : Value) (l : List UInt8) (n : Nat) (w : World) (h : Byt w v l) (h1 : 1 ≤ n) (hn : l.length + n ≤ 1099511627776) :
    Calls Try.prog 61 #[v, .int .i64 n] w fun e w' => ∃ g o cap, e = .returned (.slice (some ⟨g, o, none⟩) l.length cap) ∧ Byt w' (.slice (some ⟨g, o, none⟩) l.length cap) l ∧ Below w.heap.size w w' ∧ (blk v = some g ∨ g = w.heap.size) := by
  rcases h with ⟨rfl, rfl⟩ | ⟨g, o, cap, cur, fr, rfl, h2, h3, h4, r⟩
  · refine (grow_more _ [] none 0 n w rfl (.inl ⟨rfl, rfl⟩) (by simp; omega) hn).mono ?_
    rintro e w' ⟨cap, rfl, hB, hW⟩
    exact ⟨_, _, _, rfl, hB, hW, .inr rfl⟩
  · have h : Byt w (.slice (some ⟨g, o, none⟩) l.length cap) l := .inr ⟨g, o, cap, cur, fr, rfl, h2, h3, h4, r⟩
    by_cases hr : l.length + n ≤ cap
    · refine (grow_room _ _ _ n w hr h4).mono ?_
      rintro e w' ⟨rfl, rfl⟩
      exact ⟨_, _, _, rfl, h, Below.refl _ _, .inl rfl⟩
    · refine (grow_more _ l _ cap n w rfl h (by omega) hn).mono ?_
      rintro e w' ⟨cap, rfl, hB, hW⟩
      exact ⟨_, _, _, rfl, hB, hW, .inr rfl⟩
theorem eql_nil (w : World) (a : Option Addr) (n c n' c' : Nat) : (binOp .eql 60 (.slice a n c) (.slice none n' c')).run Try.prog w = .ok (.bool a.isNone) w := Lib.run_eql_slice_nil w _ _ a n c n' c' Try.underlying60
set_option maxRecDepth 100000 in
set_option maxHeartbeats 1000000 in
/-- A copy of bytes: nil of nil, else memory of its own. -/
theorem bclone_any (v : Value) (l : List UInt8) (w : World) (h : Byt w v l) (hn : l.length ≤ 1099511627776) :
    Calls Try.prog 41 #[v] w fun e w' => ∃ v', e = .returned v' ∧ Byt w' v' l ∧ Below w.heap.size w w' ∧ ∀ b, blk v' = some b → w.heap.size ≤ b := by
  have q := eql_nil
  rcases h with ⟨rfl, rfl⟩ | ⟨g, o, cap, cur, fr, rfl, h2, r⟩
  · go_enter Try.func41, Try.ntmps41
    go_wp2
    go_ret
    exact ⟨_, rfl, .inl ⟨rfl, rfl⟩, Below.refl _ _, fun b hb => by cases hb⟩
  · have h : Byt w (.slice (some ⟨g, o, none⟩) l.length cap) l := .inr ⟨g, o, cap, cur, fr, rfl, h2, r⟩
    have hB : Below w.heap.size w (w.alloc (.cells #[] 5)) := (Below.refl _ _).alloc (Nat.le_refl _) _
    have h0 : Byt (w.alloc (.cells #[] 5)) (.slice (some ⟨w.heap.size, 0, none⟩) ([] : List UInt8).length 0) [] := .inr ⟨w.heap.size, 0, 0, #[], (0, 0), rfl, heap_alloc_new w _, Nat.le_refl _, by unfold maxLen; omega, by simp, .inl rfl, fun j hj => by simp at hj⟩
    obtain ⟨v', w', hr, hb, ht, hk, _⟩ := run_app (w.alloc (.cells #[] 5)) 60 60 w.heap.size 0 0 [] l _ h0 (byt_src (h.keep (fun b hb => hB.block b (h.lt hb)))) (by simpa using hn)
    have HB : Hid (Byt w' v' l ∧ Below w.heap.size w w' ∧ ∀ b, blk v' = some b → w.heap.size ≤ b) := by
      refine ⟨hb, hB.trans ⟨ht.os, ht.tape, ht.output, ht.size, fun k hk => ht.block k (by simp; omega) (by omega)⟩, fun b e => ?_⟩
      rcases hk with q | q <;> rw [q] at e <;> cases e <;> simp
    clear hb ht hk hB h0 r h2 h
    go_enter Try.func41, Try.ntmps41
    go_wp2_with (at_builtin; refine Lib.wpList_append_run _ rfl _ _ _ _ rfl _ _ rfl rfl _ _ hr ?_)
    go_ret
    exact ⟨v', rfl, HB.out⟩
/-- An append in the walk. -/
theorem wp_app (w : World) {ops : Array Oper} {rest : List Oper} {o : Oper} {a : Act} {Q : Exit → Act → World → Prop} (hgd : o.guard = none) (s x : Operand) (tx : TypeId)
    (ho : o.op = .call { callee := .builtin .append, args := #[s, x], argTypes := #[60, tx] })
    (g p n cap : Nat) (vx : Value) (O N : List UInt8) (hs : a.eval s = .slice (some ⟨g, p, none⟩) n cap) (hn : n = O.length) (hx : a.eval x = vx) (h : Byt w (.slice (some ⟨g, p, none⟩) O.length cap) O) (src : Src Try.prog 1 tx vx N.length (bcells N) w)
    (hO : O.length + N.length ≤ 1099511627776)
    (hk : ∀ g' p' cap' w', Byt w' (.slice (some ⟨g', p', none⟩) (O ++ N).length cap') (O ++ N) → Tu (fun k => k = g) w w' → (g' = g ∨ g' = w.heap.size) → wpList Try.prog ops Q rest (a.put o.dst (.slice (some ⟨g', p', none⟩) (O ++ N).length cap')) w') : wpList Try.prog ops Q (o :: rest) a w := by
  subst hn
  obtain ⟨v', w', hr, h2, h3, h4, g', p', cap', rfl⟩ := run_app w tx o.type g p cap O N vx h src hO
  exact Lib.wpList_append_run w hgd s x _ _ ho _ _ hs hx _ _ hr (hk g' p' cap' w' h2 h3 (by rcases h4 with e | e <;> cases e <;> simp))
theorem alloc_keep {w : World} {b : Nat} (o : Obj) (h : b < w.heap.size) : (w.alloc o).heap[b]? = w.heap[b]? := ((Below.refl w.heap.size w).alloc (Nat.le_refl _) o).block b h
theorem Byt.alloc {w : World} {v : Value} {l : List UInt8} (h : Byt w v l) (o : Obj) : Byt (w.alloc o) v l := h.keep (fun _ hb => alloc_keep o (h.lt hb))
theorem lf_src (w : World) : Src Try.prog 1 60 (.slice (some ⟨w.heap.size, 0, none⟩) 1 1) [(10 : UInt8)].length (bcells [10]) (w.alloc (.cells #[.int .u8 10] 5)) :=
  byt_src (l := [10]) (.inr ⟨w.heap.size, 0, 1, #[.int .u8 10], (0, 0), rfl, heap_alloc_new w _, Nat.le_refl _, by unfold maxLen; omega, by simp, .inl rfl, fun j hj => by
    obtain rfl : j = 0 := by simpa using hj
    rfl⟩)
theorem str_src (w : World) (s : ByteArray) : Src Try.prog 1 9 (.string s) s.data.toList.length (bcells s.data.toList) w := by
  rw [Sc.szL]
  exact Src.ofString w Try.underlying9 s
theorem join_keep {w w1 w2 : World} {v x : Value} {m : List UInt8} {g : Nat} {o : Obj} (hx : Byt w x m) (hap : ∀ b, blk v = some b → blk x ≠ some b) (hW : Below w.heap.size w w1) (hg : blk v = some g ∨ g = w.heap.size) (hT : Tu (fun k => k = g) (w1.alloc o) w2) : Byt w2 x m := by
  have h1 : Byt w1 x m := hx.keep (fun b hb => hW.block b (hx.lt hb))
  refine (h1.alloc o).tu hT (fun b hb e => ?_)
  subst e
  rcases hg with q | q
  · exact hap b q hb
  · have := hx.lt hb
    omega
theorem join_end {w w1 w2 w3 : World} {v : Value} {l m : List UInt8} {g g2 g3 p3 c3 n : Nat} {o : Obj} (_hl : Byt w v l) (hW : Below w.heap.size w w1) (hg : blk v = some g ∨ g = w.heap.size) (h2 : Tu (fun k => k = g) (w1.alloc o) w2 ∧ (g2 = g ∨ g2 = w1.heap.size + 1)) (hn : n = (l ++ [10] ++ m).length)
    (h3 : Byt w3 (.slice (some ⟨g3, p3, none⟩) (l ++ [10] ++ m).length c3) (l ++ [10] ++ m) ∧ Tu (fun k => k = g2) w2 w3 ∧ (g3 = g2 ∨ g3 = w2.heap.size)) :
    ∃ v', Ending.returned (.slice (some ⟨g3, p3, none⟩) n c3) = .returned v' ∧ Byt w3 v' (l ++ 10 :: m) ∧ Tu (fun k => blk v = some k) w w3 ∧ ∀ b, blk v' = some b → blk v = some b ∨ w.heap.size ≤ b := by
  subst hn
  have hs := hW.size
  have hs2 : w1.heap.size + 1 ≤ w2.heap.size := by have := h2.1.size; simpa using this
  refine ⟨_, rfl, by simpa using h3.1, ?_, fun b hb => ?_⟩
  · refine (((Tu.of_below hW).alloc o).trans h2.1 (fun k hk e => ?_)).trans h3.2.1 (fun k hk e => ?_)
    · subst e
      rcases hg with q | q
      · exact q
      · omega
    · subst e
      rcases h2.2 with q | q
      · subst q
        rcases hg with q | q
        · exact q
        · omega
      · omega
  · cases hb
    show blk v = some g3 ∨ w.heap.size ≤ g3
    rcases h3.2.2 with q | q
    · subst q
      rcases h2.2 with q | q
      · subst q
        rcases hg with q | q
        · exact .inl q
        · exact .inr (by omega)
      · exact .inr (by omega)
    · exact .inr (by omega)
set_option maxRecDepth 100000 in
set_option maxHeartbeats 1000000 in
/-- A line feed and bytes behind bytes. -/
theorem joined_any (v x : Value) (l m : List UInt8) (w : World) (h : Byt w v l) (hx : Byt w x m) (hap : ∀ b, blk v = some b → blk x ≠ some b) (hn : l.length + m.length ≤ 1000000000000) :
    Calls Try.prog 50 #[v, x] w fun e w' => ∃ v', e = .returned v' ∧ Byt w' v' (l ++ 10 :: m) ∧ Tu (fun k => blk v = some k) w w' ∧ ∀ b, blk v' = some b → blk v = some b ∨ w.heap.size ≤ b := by
  obtain ⟨ax, cx, rfl⟩ := hx.slice
  have HX : Hid (Byt w (.slice ax m.length cx) m) := hx
  have HA : Hid (∀ b, blk v = some b → blk (.slice ax m.length cx) ≠ some b) := hap
  have HL : Hid (Byt w v l) := h
  clear hx hap h
  have hml : ((1 + m.length : Nat) : Int) = 1 + (m.length : Int) := by omega
  have hgr := grow_any v l (1 + m.length) w HL.out (by omega) (by omega)
  rw [hml] at hgr
  clear hml
  go_enter Try.func50, Try.ntmps50
  go_wp2_with (first
    | (go_at_call 61; refine hgr.mono ?_; rintro e w1 ⟨g, o, cap, rfl, hB, hW, hg⟩; have HB : Hid (Byt w1 (.slice (some ⟨g, o, none⟩) l.length cap) l) := hB; have HW : Hid (Below w.heap.size w w1 ∧ (blk v = some g ∨ g = w.heap.size)) := ⟨hW, hg⟩; clear hB hW hg)
    | (at_builtin; refine wp_app _ rfl _ _ _ rfl g o _ cap _ l [10] rfl rfl rfl (HB.out.alloc _) (lf_src _) (by simp; omega) ?_; intro g2 p2 c2 w2 hB2 hT2 hg2; have H2 : Hid (Byt w2 (.slice (some ⟨g2, p2, none⟩) (l ++ [10]).length c2) (l ++ [10]) ∧ Tu (fun k => k = g) (w1.alloc (.cells #[.int .u8 10] 5)) w2 ∧ (g2 = g ∨ g2 = w1.heap.size + 1)) := ⟨hB2, hT2, by simpa using hg2⟩; clear hB2 hT2 hg2)
    | (at_builtin; refine wp_app _ rfl _ _ _ rfl g2 p2 _ c2 _ (l ++ [10]) m rfl (by simp) rfl H2.out.1 (byt_src (join_keep HX.out HA.out HW.out.1 HW.out.2 H2.out.2.1)) (by simp; omega) ?_; intro g3 p3 c3 w3 hB3 hT3 hg3; have H3 : Hid (Byt w3 (.slice (some ⟨g3, p3, none⟩) (l ++ [10] ++ m).length c3) (l ++ [10] ++ m) ∧ Tu (fun k => k = g2) w2 w3 ∧ (g3 = g2 ∨ g3 = w2.heap.size)) := ⟨hB3, hT3, hg3⟩; clear hB3 hT3 hg3))
  go_ret
  exact join_end HL.out HW.out.1 HW.out.2 H2.out.2 (by simp) H3.out
set_option maxRecDepth 100000 in
set_option maxHeartbeats 1000000 in
/-- A line feed and a text behind bytes. -/
theorem sjoined_any (v : Value) (l : List UInt8) (s : ByteArray) (w : World) (h : Byt w v l) (hn : l.length + s.size ≤ 1000000000000) :
    Calls Try.prog 55 #[v, .string s] w fun e w' => ∃ v', e = .returned v' ∧ Byt w' v' (l ++ 10 :: s.data.toList) ∧ Tu (fun k => blk v = some k) w w' ∧ ∀ b, blk v' = some b → blk v = some b ∨ w.heap.size ≤ b := by
  have HL : Hid (Byt w v l) := h
  clear h
  have hml : ((1 + s.size : Nat) : Int) = 1 + (s.size : Int) := by omega
  have hgr := grow_any v l (1 + s.size) w HL.out (by omega) (by omega)
  rw [hml] at hgr
  clear hml
  go_enter Try.func55, Try.ntmps55
  go_wp2_with (first
    | (go_at_call 61; refine hgr.mono ?_; rintro e w1 ⟨g, o, cap, rfl, hB, hW, hg⟩; have HB : Hid (Byt w1 (.slice (some ⟨g, o, none⟩) l.length cap) l) := hB; have HW : Hid (Below w.heap.size w w1 ∧ (blk v = some g ∨ g = w.heap.size)) := ⟨hW, hg⟩; clear hB hW hg)
    | (at_builtin; refine wp_app _ rfl _ _ _ rfl g o _ cap _ l [10] rfl rfl rfl (HB.out.alloc _) (lf_src _) (by simp; omega) ?_; intro g2 p2 c2 w2 hB2 hT2 hg2; have H2 : Hid (Byt w2 (.slice (some ⟨g2, p2, none⟩) (l ++ [10]).length c2) (l ++ [10]) ∧ Tu (fun k => k = g) (w1.alloc (.cells #[.int .u8 10] 5)) w2 ∧ (g2 = g ∨ g2 = w1.heap.size + 1)) := ⟨hB2, hT2, by simpa using hg2⟩; clear hB2 hT2 hg2)
    | (at_builtin; refine wp_app _ rfl _ _ _ rfl g2 p2 _ c2 _ (l ++ [10]) s.data.toList rfl (by simp) rfl H2.out.1 (str_src _ s) (by rw [Sc.szL]; simp; omega) ?_; intro g3 p3 c3 w3 hB3 hT3 hg3; have H3 : Hid (Byt w3 (.slice (some ⟨g3, p3, none⟩) (l ++ [10] ++ s.data.toList).length c3) (l ++ [10] ++ s.data.toList) ∧ Tu (fun k => k = g2) w2 w3 ∧ (g3 = g2 ∨ g3 = w2.heap.size)) := ⟨hB3, hT3, hg3⟩; clear hB3 hT3 hg3))
  go_ret
  exact join_end HL.out HW.out.1 HW.out.2 H2.out.2 (by simp) H3.out
end Go.Proofs.Ytngmaijfahjfcaa
