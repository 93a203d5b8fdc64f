/- What (*reading).operands does. -/
import Derived.Test.YtklcfjakhabbgaaArOl
import Derived.Test.YtklcfjakhabbgaaArAd
namespace Go.Proofs.Ytklcfjakhabbgaa
open Go.RowKit

/-- append at a step of a region that draws its order; what is appended may be nothing. -/
theorem step_append_at {P : Program} {w : World} {ops : Array Oper} {o : Oper} {a : Act} {K : Act → World → Prop} {Q : Exit → Act → World → Prop} {E : Prop} (hgd : o.guard = none) (s x : Operand) (t : TypeId)
    (ho : o.op = .call { callee := .builtin .append, args := #[s, x], argTypes := #[t, t] })
    (base : Nat) (e : TypeId) (i : TypeInfo) (z : Value) (size bytes : Nat) (ht : P.underlying t = some (.slice e)) (hi : P.info? e = some i) (hz : i.zero = some z)
    (hsize : i.size = size) (hby : i.bytes = bytes) (hzs : z.cells.size = size) (hsz : 0 < size)
    (v : Value) (n : Nat) (xs : List Value) (hs : a.eval s = v) (hown : w.ownsRow base e size v n xs)
    (ad : Addr) (m c : Nat) (news : List Value) (hx : a.eval x = .slice (some ad) m c) (hl : news.length = m * size) (hnews : ∀ j u, news[j]? = some u → w.cell? (ad.add j) = some u) (h1 : ∀ u ∈ news, u.oneCell' = true)
    (h63 : n + m ≤ maxLen) (hbytes : (n + m) * bytes ≤ 140737488355328) (hbase : base ≤ w.heap.size)
    (h : ∀ v' w', w'.ownsRow base e size v' (n + m) (xs ++ news) → w.grownBy w' v.ownBlock → (v'.ownBlock = v.ownBlock ∨ v'.ownBlock = some w.heap.size) → K (a.put o.dst v') w') :
    if Region.wanted o (yielded ops a.tmps) = true then Oper.wp P o a w K Q else E := by
  have hw : Region.wanted o (yielded ops a.tmps) = true := by simp [Region.wanted, hgd]
  rw [if_pos hw]
  obtain ⟨v', w', hr, h2, h3, _, h5⟩ := run_append_own_at (P := P) w base t o.type e i z size bytes ht hi hz hsize hby hzs hsz v n xs hown ad m c news hl hnews h1 h63 hbytes hbase
  unfold Oper.wp execOp
  simp only [ho, resolve, invoke, builtin, Sem.run_bind, Sem.run_pure, Result.andThen_ok, List.map_toArray, List.map_cons, List.map_nil, hs, hx, hr]
  exact h v' w' h2 h3 h5
theorem add_off (b q j : Nat) : (⟨b, q, none⟩ : Addr).add j = ⟨b, q + j, none⟩ := by unfold Addr.add; split <;> simp_all
theorem strs_rest {w : World} {b off cap : Nat} {l : List ByteArray} (h : Strs w (some ⟨b, off, none⟩) cap l) (k : Nat) : ∀ j u, ((l.drop k).map Value.string)[j]? = some u → w.cell? ((if cap = k then (⟨b, off, none⟩ : Addr) else ⟨b, off + k, none⟩).add j) = some u := by
  intro j u hj
  split
  · have hr := h.room
    rw [List.drop_eq_nil_of_le (by omega)] at hj
    exact nomatch hj
  · have := h.news (k + j) u (by rw [← hj, List.map_drop, List.getElem?_drop])
    rw [add_off] at this ⊢
    rw [Nat.add_assoc]
    exact this
theorem slice_from (b off n c a : Nat) (h : a ≤ n) (hn : n ≤ c) (wx : World) : (Instr.slice 22 (.slice (some ⟨b, off, none⟩) n c) (some (.int .i64 a)) none none).run Try.prog wx = .ok (.slice (some (if c = a then ⟨b, off, none⟩ else ⟨b, off + a, none⟩)) (n - a) (c - a)) wx := by
  have h1 : (a : Int) ≤ (n : Int) := by omega
  have h2 : (n : Int) ≤ (c : Int) := by omega
  simp [Instr.slice, Instr.sliceBounds, Instr.sliceBound, asIntOf, run_underlying Try.underlying22, go_sem, h]
  split <;> rfl
/-- The row of the names has grown. -/
theorem RdM.grownN {w0 W w3 : World} {n0 g B : Nat} {al : Option Addr} {cl : Nat} {L : List ByteArray} {at' : Nat} {x : Ar.Av} {vs vn v3 : Value} {l : List ByteArray} (h : RdM w0 n0 g B al cl L at' x vs vn W) (hg : W.grownBy w3 vn.ownBlock) (ho : w3.ownsRow (g + 1) 9 1 v3 (x.nm.length + l.length) (x.nm.map Value.string ++ l.map Value.string)) (hat : ∀ k, blk v3 = some k → blk vn = some k ∨ W.heap.size ≤ k) :
    RdM w0 n0 g B al cl L at' { x with nm := x.nm ++ l } vs v3 (w3.setCell ⟨g, 9, none⟩ v3) := by
  have hlo := h.lo
  have hbg := h.bg
  have hgl := h.lt
  have same : ∀ k, k < g + 1 → w3.heap[k]? = W.heap[k]? := fun k hk => hg.block k (by omega) (fun e => by have := (h.rn.lt k e.symm).1; omega)
  have hB : Below n0 W w3 := ⟨hg.os, hg.tape, hg.output, hg.size, fun k hk => same k (by omega)⟩
  refine ⟨(below_tr h.below hB).setCell (p := ⟨g, 9, none⟩) (by show n0 ≤ g; omega) v3, h.lo, h.bg, ?_, ?_, ?_, ?_, ?_, ?_, h.af, h.n0, h.len⟩
  · exact row_set ((same g (by omega)).trans h.rd) 9 v3
  · exact h.kt.keep (fun k _ hk => (heap_setCell_other w3 ⟨g, 9, none⟩ k v3 (by show k ≠ g; omega)).trans (same k (by omega)))
  · exact own_set (own_keep h.rs (fun k e => hg.block k (h.rs.lt k e).2 (fun e2 => h.ne k e e2.symm))) _ _ _ (fun e => by have := (h.rs.lt _ e).1; omega)
  · show (w3.setCell _ v3).ownsRow (g + 1) _ 1 v3 (x.nm ++ l).length ((x.nm ++ l).map Value.string)
    rw [List.length_append, List.map_append]
    exact own_set ho _ _ _ (fun e => by have := (ho.lt _ e).1; omega)
  · intro k e e2
    rcases hat k e2 with q | q
    · exact h.ne k e q
    · have := (h.rs.lt k e).2; omega
  · exact h.ar.keep (by have := hg.size; simp; omega) (fun ad e _ => (heap_setCell_other w3 ⟨g, 9, none⟩ _ v3 (by have := h.af ad e; show ad.block ≠ g; omega)).trans (same _ (by have := h.af ad e; omega)))
theorem RdM.names {w0 W : World} {n0 g B : Nat} {al : Option Addr} {cl : Nat} {L : List ByteArray} {a1 : Nat} {x : Ar.Av} {vs vn : Value} (h : RdM w0 n0 g B al cl L a1 x vs vn W) (hnm : x.nm = []) (v3 : Value) (w3 : World) (l : List ByteArray) (hgr : W.drew.grownBy w3 vn.ownBlock) (ho : w3.ownsRow (g + 1) 9 1 v3 l.length (l.map Value.string)) (hat : v3.ownBlock = vn.ownBlock ∨ v3.ownBlock = some W.drew.heap.size) :
    RdM w0 n0 g B al cl L a1 { x with nm := l } vs v3 (w3.setCell ⟨g, 9, none⟩ v3) ∧ w3.cell? ⟨g, 9, none⟩ = some vn ∧ w3.frozen? ⟨g, 9, none⟩ = false := by
  have hgb : W.grownBy w3 vn.ownBlock := ⟨hgr.os, hgr.tape, hgr.output, hgr.size, hgr.block⟩
  have h3 : w3.heap[g]? = _ := (hgb.block _ h.lt (fun e => by have := (World.ownsRow.lt h.rn _ e.symm).1; omega)).trans h.rd
  have hr := h.grownN (l := l) hgb (by rw [hnm, List.length_nil, Nat.zero_add]; exact ho) (fun k e => by
    rcases hat with q | q
    · exact .inl (q.symm.trans e)
    · right
      have := q.symm.trans e
      have := Option.some.inj this
      show W.drew.heap.size ≤ k
      omega)
  rw [hnm] at hr
  exact ⟨hr, cell_of_row _ _ _ _ _ _ h3, free_row h3 9⟩

set_option maxRecDepth 100000 in
set_option maxHeartbeats 8000000 in
theorem oper_any {w0 W : World} {n0 g B : Nat} {al : Option Addr} {cl : Nat} {L : List ByteArray} {a1 : Nat} {x : Ar.Av} {vs vn : Value} (h : RdM w0 n0 g B al cl L a1 x vs vn W) (ha : a1 ≤ L.length) (hsc : x.sc.length ≤ L.length) (hnm : x.nm = []) :
    Calls Try.prog 25 #[.pointer (some ⟨g, 0, none⟩)] W fun e w' => e = .returned (.bool (Ar.operF L a1 x).1) ∧ ∃ vs' vn', RdM w0 n0 g B al cl L (Ar.operF L a1 x).2.1 (Ar.operF L a1 x).2.2 vs' vn' w' := by
  obtain ⟨i0, hi, hz0, hz1, hz2⟩ := info_parts Try.infoStr
  have hLl := h.len
  have g0 : W.cell? ⟨g, 0, none⟩ = some (.slice al L.length cl) := h.cell 0
  have g1 : W.cell? ⟨g, 1, none⟩ = some (.int .i64 (a1 : Int)) := h.cell 1
  have g8 : W.cell? ⟨g, 8, none⟩ = some vs := h.cell 8
  obtain ⟨sb, sc, rfl⟩ := own_slice h.rs
  have HH : Hid _ := h
  clear h
  by_cases h0 : x.sc = []
  · have hl0 : ((x.sc.length : Int) == 0) = true := by rw [h0]; rfl
    by_cases hlt : a1 < L.length
    · have hd : ((a1 : Int) == (L.length : Int)) = false := by rw [beq_eq_false_iff_ne]; omega
      have hd2 : (a1 : Int) < (L.length : Int) := by omega
      have hw : IntKind.i64.wrap ((a1 : Int) + 1) = (a1 : Int) + 1 := by rw [IntKind.wrap_i64]; omega
      obtain ⟨bb, off, rfl, hbb, d0⟩ := HH.out.ar.cells a1 hlt
      have HY : Hid (Ar.operF L a1 x = (true, a1 + 1, { x with sc := [(false, L[a1]'hlt)], nm := L.drop (a1 + 1) })) := by show _ = _; rw [Ar.operF, if_pos h0, if_pos hlt, List.getD_eq_getElem?_getD, List.getElem?_eq_getElem hlt]; rfl
      rw [HY.out]
      have HV : Hid (∀ V : World, RdM w0 n0 g B (some ⟨bb, off, none⟩) cl L a1 x (.slice sb x.sc.length sc) vn V → V.cell? ⟨bb, off + a1, none⟩ = some (.string (L[a1]'hlt))) := fun V hV => by
        obtain ⟨_, _, e, _, q⟩ := hV.ar.cells a1 hlt
        cases e
        exact q
      generalize L[a1]'hlt = v at *
      have hLb := HH.out.lt
      have hx1 : ({ x with sc := x.sc ++ [(false, v)] } : Ar.Av) = { x with sc := [(false, v)] } := by rw [h0]; rfl
      have HDo : Hid (∀ V : World, RdM w0 n0 g B (some ⟨bb, off, none⟩) cl L a1 x (.slice sb x.sc.length sc) vn V → V.cell? ⟨W.heap.size, 0, none⟩ = some (.bool false) → Calls Try.prog 50 #[.pointer (some ⟨g, 3, none⟩), .string v, .pointer (some ⟨W.heap.size, 0, none⟩)] V fun e w' => e = .returned (.bool true) ∧ ∃ vs', RdM w0 n0 g B (some ⟨bb, off, none⟩) cl L a1 { x with sc := [(false, v)] } vs' vn w') := fun V hV hc => by
        have := doesP hV v false W.heap.size hc (by omega)
        rw [hx1] at this
        exact this
      clear hx1
      go_enter Try.func25, Try.ntmps25
      go_wp2_with fail
      go_quiet (fail)
      go_wp2_with fail
      go_region_with (first | (go_at_call 39; refine Calls.mono (piece_any false _) ?_; rintro e w1 ⟨rfl, hw1⟩; have HR1 : Hid (RdM w0 n0 g B (some ⟨bb, off, none⟩) cl L a1 x (.slice sb x.sc.length sc) vn w1) := (by rw [hw1]; first | exact ((HH.out.still (drewN_below _ _)).alloc _) | exact (((HH.out.still (drewN_below _ _)).still (drewN_below _ _)).alloc _)); have HC1 : Hid (w1.cell? ⟨W.heap.size, 0, none⟩ = some (.bool false)) := (by rw [hw1]; exact cell_of_row _ _ _ _ _ _ (heap_alloc_new _ _)); clear hw1; have g01 : w1.cell? ⟨g, 0, none⟩ = some (.slice (some ⟨bb, off, none⟩) L.length cl) := HR1.out.cell 0; have g11 : w1.cell? ⟨g, 1, none⟩ = some (.int .i64 (a1 : Int)) := HR1.out.cell 1; have d01 := HV.out _ HR1.out) | (go_at_call 50; refine Calls.mono (HDo.out _ HR1.out HC1.out) ?_; rintro e w3 ⟨rfl, vs2, hr2⟩; have HR3 : Hid _ := hr2; clear hr2))
      all_goals
        have g03 : w3.cell? ⟨g, 0, none⟩ = some (.slice (some ⟨bb, off, none⟩) L.length cl) := HR3.out.cell 0
        have g13 : w3.cell? ⟨g, 1, none⟩ = some (.int .i64 (a1 : Int)) := HR3.out.cell 1
        have g93 : w3.cell? ⟨g, 9, none⟩ = some vn := HR3.out.cell 9
        have f13 := HR3.out.free 1
        have HR4 : Hid (RdM w0 n0 g B (some ⟨bb, off, none⟩) cl L (a1 + 1) { x with sc := [(false, v)] } vs2 vn (w3.setCell ⟨g, 1, none⟩ (.int .i64 ((a1 : Int) + 1)))) := HR3.out.set 1 _ (at2 := a1 + 1) (x2 := { x with sc := [(false, v)] }) rfl rfl rfl
        have Hb : Hid _ := fun v3 w5 => HR4.out.names hnm v3 w5 (L.drop (a1 + 1))
        have HD : Hid (RdM w0 n0 g B (some ⟨bb, off, none⟩) cl L (a1 + 1) { x with sc := [(false, v)] } vs2 vn (w3.setCell ⟨g, 1, none⟩ (.int .i64 ((a1 : Int) + 1))).drew) := HR4.out.still (drewN_below _ 1)
        have HRN : Hid ((w3.setCell ⟨g, 1, none⟩ (.int .i64 ((a1 : Int) + 1))).drew.ownsRow (g + 1) 9 1 vn 0 []) := by have := HD.out.rn; rw [hnm] at this; exact this
        have hs1 : ∀ wx, (Instr.slice 22 (.slice (some ⟨bb, off, none⟩) L.length cl) (some (.int .i64 ((a1 : Int) + 1))) none none).run Try.prog wx = _ := fun wx => slice_from bb off L.length cl (a1 + 1) hlt HH.out.ar.room wx
        have HNW : Hid _ := strs_rest HD.out.ar (a1 + 1)
        generalize (if cl = a1 + 1 then (⟨bb, off, none⟩ : Addr) else ⟨bb, off + (a1 + 1), none⟩) = ad at hs1 HNW
        clear hnm HH HR1 HC1 HR3 HV HDo HR4 g01 g11 d01 g0 g1 g8 d0
        go_wp2_with fail
        go_region_law (refine step_append_at rfl (.tmp 47) (.tmp 56) 22 rfl (g + 1) 9 i0 (.string ⟨#[]⟩) 1 16 Try.underlying22 hi hz0 hz1 hz2 rfl (by decide) vn 0 [] rfl HRN.out ad (L.length - (a1 + 1)) (cl - (a1 + 1)) ((L.drop (a1 + 1)).map Value.string) rfl (by simp) HNW.out (strings_oneCell _) (by unfold maxLen; omega) (by omega) (by have := HD.out.lt; omega) ?_; intro v3 w5 ho hgr hat; rw [Nat.zero_add, List.nil_append, ← List.length_drop] at ho; obtain ⟨va, vc, rfl⟩ := own_slice ho; obtain ⟨c3', s2, g2⟩ := Hb.out _ w5 hgr ho hat; rw [List.length_drop] at c3'; have HC3 : Hid _ := c3'; clear c3' ho hgr hat)
        go_wp2_with fail
        all_goals
          go_ret
          exact ⟨rfl, _, _, HC3.out⟩
    · have hd : ((a1 : Int) == (L.length : Int)) = true := by rw [beq_iff_eq]; omega
      have HY : Hid (Ar.operF L a1 x = (false, a1, x)) := by show _ = _; rw [Ar.operF, if_pos h0, if_neg hlt]
      rw [HY.out]
      go_enter Try.func25, Try.ntmps25
      go_wp2_with fail
      go_quiet (fail)
      go_wp2_with fail
      go_ret
      exact ⟨rfl, _, _, HH.out.still (drewN_below _ _)⟩
  · have hl0 : ((x.sc.length : Int) == 0) = false := by rw [beq_eq_false_iff_ne]; cases hx : x.sc with | nil => exact absurd hx h0 | cons c r => simp; omega
    have hLp : 0 < L.length := by cases hx : x.sc with | nil => exact absurd hx h0 | cons c r => rw [hx] at hsc; simp at hsc; omega
    obtain ⟨bb, off, rfl, hbb, _⟩ := HH.out.ar.cells 0 hLp
    have g9 : W.cell? ⟨g, 9, none⟩ = some vn := HH.out.cell 9
    have f9 := HH.out.free 9
    have HY : Hid (Ar.operF L a1 x = (true, a1, { x with nm := L.drop a1 })) := by show _ = _; rw [Ar.operF, if_neg h0]
    rw [HY.out]
    have Hb : Hid _ := fun v3 w3 => HH.out.names hnm v3 w3 (L.drop a1)
    have HD : Hid (RdM w0 n0 g B (some ⟨bb, off, none⟩) cl L a1 x (.slice sb x.sc.length sc) vn W.drew) := HH.out.still (drewN_below _ 1)
    have HRN : Hid (W.drew.ownsRow (g + 1) 9 1 vn 0 []) := by have := HD.out.rn; rw [hnm] at this; exact this
    have hs1 := fun wx => slice_from bb off L.length cl a1 ha HH.out.ar.room wx
    have HNW : Hid _ := strs_rest HD.out.ar a1
    generalize (if cl = a1 then (⟨bb, off, none⟩ : Addr) else ⟨bb, off + a1, none⟩) = ad at hs1 HNW
    clear hnm
    go_enter Try.func25, Try.ntmps25
    go_wp2_with fail
    go_region_law (refine step_append_at rfl (.tmp 47) (.tmp 56) 22 rfl (g + 1) 9 i0 (.string ⟨#[]⟩) 1 16 Try.underlying22 hi hz0 hz1 hz2 rfl (by decide) vn 0 [] rfl HRN.out ad (L.length - a1) (cl - a1) ((L.drop a1).map Value.string) rfl (by simp) HNW.out (strings_oneCell _) (by unfold maxLen; omega) (by omega) (by have := HD.out.lt; omega) ?_; intro v3 w3 ho hgr hat; rw [Nat.zero_add, List.nil_append, ← List.length_drop] at ho; obtain ⟨va, vc, rfl⟩ := own_slice ho; obtain ⟨c3', s2, g2⟩ := Hb.out _ w3 hgr ho hat; rw [List.length_drop] at c3'; have HC3 : Hid _ := c3'; clear c3' ho hgr hat)
    go_wp2_with fail
    all_goals
      go_ret
      exact ⟨rfl, _, _, HC3.out⟩
end Go.Proofs.Ytklcfjakhabbgaa
