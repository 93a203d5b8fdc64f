/- InputAll answers true. -/
import Derived.Test.YthmofbcjhfcokaaInG
import Derived.Test.YthmofbcjhfcokaaInR
import Derived.Test.YthmofbcjhfcokaaLawInN
namespace Go.Proofs.Ythmofbcjhfcokaa
open Go.RowKit

/-- The slice at address a, of capacity cap, reads in w as texts. -/
structure Txs (w : World) (a : Option Addr) (cap : Nat) (l : List ByteArray) : Prop where
  len : l.length ≤ 1048576
  room : l.length ≤ cap
  cells : ∀ i (h : i < l.length), ∃ b off, a = some ⟨b, off, none⟩ ∧ b < w.heap.size ∧ w.cell? ⟨b, off + i, none⟩ = some (.string (l[i]'h))
theorem Txs.below {w w' : World} {a : Option Addr} {cap : Nat} {l : List ByteArray} (h : Txs w a cap l) (hb : Below w.heap.size w w') : Txs w' a cap l := by
  refine ⟨h.len, h.room, fun i hi => ?_⟩
  obtain ⟨b, off, e, hlt, h1⟩ := h.cells i hi
  exact ⟨b, off, e, Nat.lt_of_lt_of_le hlt hb.size, (hb.cell (p := ⟨b, off + i, none⟩) hlt).trans h1⟩
/-- Behind so many texts: what the source is told, and the lines that are wanted. -/
structure Fl (W2 : World) (gs : Nat) (LA : List In.Tl) (LB : List (ByteArray × Bool)) (vA vB : Value) (w : World) : Prop where
  c : w.heap[gs]? = some (.cells #[vA, .slice none 0 0] 27)
  A : w.ownsRow (gs + 1) 48 2 vA LA.length (tcells LA)
  B : w.ownsRow (gs + 1) 34 2 vB LB.length (lcells LB)
  sep : ∀ b, blk vA = some b → blk vB ≠ some b
  tu : Tu (fun q => q = gs) W2 w
  top : W2.heap.size = gs + 1
theorem Fl.lt {W2 w : World} {gs : Nat} {LA : List In.Tl} {LB : List (ByteArray × Bool)} {vA vB : Value} (h : Fl W2 gs LA LB vA vB w) : gs < w.heap.size := lt_of_block h.c
theorem Fl.still {W2 w w' : World} {gs : Nat} {LA : List In.Tl} {LB : List (ByteArray × Bool)} {vA vB : Value} (h : Fl W2 gs LA LB vA vB w) (hb : Below w.heap.size w w') : Fl W2 gs LA LB vA vB w' :=
  ⟨(hb.block gs h.lt).trans h.c, own_keep h.A (fun b e => hb.block b (own_lt h.A e)), own_keep h.B (fun b e => hb.block b (own_lt h.B e)), h.sep, h.tu.trans (O' := fun _ => False) (Tu.of_below hb) (fun _ _ e => e.elim), h.top⟩
/-- One more is told. -/
theorem Fl.tell {W2 w w9 : World} {gs : Nat} {LA : List In.Tl} {LB : List (ByteArray × Bool)} {vA vB v' : Value} {o : Obj} {x : In.Tl} (h : Fl W2 gs LA LB vA vB w) (hown : w9.ownsRow (gs + 1) 48 2 v' (LA.length + 1) (tcells LA ++ [.string x.1, .int .i64 x.2])) (hg : (w.alloc o).grownBy w9 (blk vA)) (hat : blk v' = blk vA ∨ blk v' = some (w.heap.size + 1)) :
    w9.heap[gs]? = some (.cells #[vA, .slice none 0 0] 27) ∧ Fl W2 gs (LA ++ [x]) LB v' vB (w9.setCell ⟨gs, 0, none⟩ v') := by
  have ht : Tu (fun q => blk vA = some q) w w9 := ((Tu.refl _ w).alloc o).trans (Tu.of_grown hg (fun q e => e)) (fun _ _ e => e)
  have n1 : blk vA ≠ some gs := fun e => by have := (h.A.lt _ e).1; omega
  have n2 : blk v' ≠ some gs := fun e => by have := (hown.lt _ e).1; omega
  have hc9 := (ht.block gs h.lt n1).trans h.c
  refine ⟨hc9, ⟨?_, ?_, ?_, ?_, ?_, h.top⟩⟩
  · rw [row_set hc9]; rfl
  · have := own_keep (w' := w9.setCell ⟨gs, 0, none⟩ v') hown (fun b hb => heap_setCell_other w9 _ b v' (fun e => n2 (by rw [hb, e])))
    rw [tcells_append, List.length_append]
    exact this
  · refine own_keep h.B (fun b hb => ?_)
    rw [heap_setCell_other w9 _ b v' (fun e => by have : b = gs := e; have := (h.B.lt _ hb).1; omega)]
    exact ht.block b (own_lt h.B hb) (fun e => h.sep b e hb)
  · intro b hb
    rcases hat with e | e
    · exact h.sep b (by rw [← e]; exact hb)
    · intro q
      rw [hb] at e
      cases e
      have := own_lt h.B q
      omega
  · refine Tu.set (O := fun q => q = gs) ?_ gs 0 rfl v'
    refine h.tu.trans ht (fun q hq e => ?_)
    have := (h.A.lt _ e).1
    have := h.top
    omega
/-- More lines are wanted. -/
theorem Fl.want {W2 w w' : World} {gs : Nat} {LA : List In.Tl} {LB M : List (ByteArray × Bool)} {vA vB v' : Value} (h : Fl W2 gs LA LB vA vB w) (hown : w'.ownsRow (gs + 1) 34 2 v' (LB ++ M).length (lcells (LB ++ M))) (hg : w.grownBy w' (blk vB)) (hat : blk v' = blk vB ∨ blk v' = some w.heap.size) : Fl W2 gs LA (LB ++ M) vA v' w' := by
  have ht : Tu (fun q => blk vB = some q) w w' := Tu.of_grown hg (fun q e => e)
  have n1 : blk vB ≠ some gs := fun e => by have := (h.B.lt _ e).1; omega
  refine ⟨(ht.block gs h.lt n1).trans h.c, own_keep h.A (fun b e => ht.block b (own_lt h.A e) (h.sep b e)), hown, fun b hb => ?_, ?_, h.top⟩
  · rcases hat with e | e
    · rw [e]; exact h.sep b hb
    · rw [e]
      intro q
      cases q
      have := own_lt h.A hb
      omega
  · refine h.tu.trans ht (fun q hq e => ?_)
    have := (h.B.lt _ e).1
    have := h.top
    omega
def tb (l : List ByteArray) : Nat := (l.map (·.size)).sum
theorem tb_append (a b : List ByteArray) : tb (a ++ b) = tb a + tb b := by simp [tb]
theorem tb_take (l : List ByteArray) (k : Nat) : tb (l.take k) ≤ tb l := by
  have := tb_append (l.take k) (l.drop k)
  rw [List.take_append_drop] at this
  omega
theorem allB_len : ∀ (l : List ByteArray), (allB l).length ≤ tb l
  | [] => Nat.le_refl _
  | s :: r => by
    have := allB_len r
    have := Ln.splB_len s
    simp only [allB, tb, List.flatMap_cons, List.length_append, List.map_cons, List.sum_cons] at *
    omega
theorem take_snocL {α : Type} {l : List α} {k : Nat} (h : k < l.length) : l.take (k + 1) = l.take k ++ [l[k]'h] := List.take_succ_eq_append_getElem h
theorem allB_snoc {l : List ByteArray} {k : Nat} (h : k < l.length) : allB (l.take (k + 1)) = allB (l.take k) ++ Ln.splB (l[k]'h) := by
  rw [take_snocL h]
  unfold allB
  rw [List.flatMap_append, List.flatMap_cons, List.flatMap_nil, List.append_nil]
theorem tb_mem {l : List ByteArray} {k : Nat} (h : k < l.length) : (l[k]'h).size ≤ tb l := by
  have := tb_take l (k + 1)
  rw [take_snocL h, tb_append] at this
  have e : tb [l[k]'h] = (l[k]'h).size := by simp [tb]
  omega
theorem tlT_snoc {l : List ByteArray} {k : Nat} (h : k < l.length) : tlT (l.take (k + 1)) = tlT (l.take k) ++ [(l[k]'h, 0)] := by rw [take_snocL h]; unfold tlT; rw [List.map_append]; rfl

/-- The block of a row of the law's own. -/
def bN (v : Value) : List Nat := (blk v).toList
theorem bN_mem {v : Value} {k : Nat} : k ∈ bN v ↔ blk v = some k := by simp [bN]
theorem Fl.new {W W2 w : World} {gs : Nat} {LA : List In.Tl} {LB : List (ByteArray × Bool)} {vA vB : Value} (h : Fl W2 gs LA LB vA vB w) (hl : LA.length ≤ 1024) (hb : Below W.heap.size W W2) (hg : W.heap.size ≤ gs) (sep : Bool) :
    Calls Try.prog 7 #[.iface 24 (.pointer (some ⟨gs, 0, none⟩)), .int .i64 (LA.length : Int), .bool sep] w fun e w' => e = .returned (.pointer (some ⟨w.heap.size, 0, none⟩)) ∧ Ob W w.heap.size gs LA sep (bN vB) (In.lk LA In.st0) w' ∧ Kp (bN vB) w w' := by
  obtain ⟨ta, tc, hv, htl, hta⟩ := own_tls h.A
  have hnb : blk (.slice none 0 0) = none := rfl
  refine Ob.new gs LA sep (bN vB) ta tc (.slice none 0 0) W w ⟨?_, htl, World.ownsRow_nil _ _ _ _, fun ad e => ?_, by rw [hnb]; simp⟩ hl (fun ad e => (hta ad e).2.1) ?_ ?_ ?_
  · rw [← hv]; exact h.c
  · have := (hta ad e).1
    exact ⟨by omega, by rw [hnb]; simp⟩
  · exact below_tr hb (h.tu.below hb.size (fun k e => by omega))
  · rintro k (e | e)
    · omega
    · rw [hnb] at e; cases e
  · intro k hk
    rw [bN_mem] at hk
    have h1 := h.B.lt _ hk
    refine ⟨by omega, h1.2, ?_, fun ad e q => ?_⟩
    · rintro (e | e)
      · omega
      · rw [hnb] at e; cases e
    · exact h.sep _ (hta ad e).2.2 (by rw [q]; exact hk)
theorem tsz_tb (l : List ByteArray) : In.tsz (tlT l) = tb l := by simp [In.tsz, tlT, tb, Function.comp_def]
/-- An input beside the rows that are wanted and got, and what else is kept. -/
structure Lp (W : World) (g gs : Nat) (T : List In.Tl) (sep : Bool) (b0 : Nat) (vW vG : Value) (LW LG : List (ByteArray × Bool)) (X : List (Nat × Obj)) (s : In.St) (w : World) : Prop where
  ob : ∃ N, Ob W g gs T sep N s w ∧ (∀ k, blk vW = some k → k ∈ N) ∧ (∀ k, blk vG = some k → k ∈ N)
  want : w.ownsRow b0 34 2 vW LW.length (lcells LW)
  got : w.ownsRow b0 34 2 vG LG.length (lcells LG)
  sp : ∀ b, blk vG = some b → blk vW ≠ some b
  keep : ∀ x ∈ X, w.heap[x.1]? = some x.2
  b0_le : W.heap.size ≤ b0
theorem Lp.below {W w : World} {g gs : Nat} {T : List In.Tl} {sep : Bool} {b0 : Nat} {vW vG : Value} {LW LG : List (ByteArray × Bool)} {X : List (Nat × Obj)} {s : In.St} (h : Lp W g gs T sep b0 vW vG LW LG X s w) : Below W.heap.size W w := by
  obtain ⟨N, h1, _⟩ := h.ob
  exact h1.below
theorem Lp.gs_lt {W w : World} {g gs : Nat} {T : List In.Tl} {sep : Bool} {b0 : Nat} {vW vG : Value} {LW LG : List (ByteArray × Bool)} {X : List (Nat × Obj)} {s : In.St} (h : Lp W g gs T sep b0 vW vG LW LG X s w) : gs < w.heap.size := by
  obtain ⟨N, h1, _⟩ := h.ob
  obtain ⟨ta, tc, av, h2, _⟩ := h1.ex
  exact h2.sr.lt
theorem Lp.still {W w w' : World} {g gs : Nat} {T : List In.Tl} {sep : Bool} {b0 : Nat} {vW vG : Value} {LW LG : List (ByteArray × Bool)} {X : List (Nat × Obj)} {s : In.St} (h : Lp W g gs T sep b0 vW vG LW LG X s w) (hb : Below w.heap.size w w') : Lp W g gs T sep b0 vW vG LW LG X s w' := by
  obtain ⟨N, h1, h2⟩ := h.ob
  exact ⟨⟨N, h1.still hb, h2⟩, own_keep h.want (fun b e => hb.block b (own_lt h.want e)), own_keep h.got (fun b e => hb.block b (own_lt h.got e)), h.sp, fun x hx => (hb.block _ (lt_of_block (h.keep x hx))).trans (h.keep x hx), h.b0_le⟩
theorem Lp.alloc {W w : World} {g gs : Nat} {T : List In.Tl} {sep : Bool} {b0 : Nat} {vW vG : Value} {LW LG : List (ByteArray × Bool)} {X : List (Nat × Obj)} {s : In.St} (h : Lp W g gs T sep b0 vW vG LW LG X s w) (o : Obj) : Lp W g gs T sep b0 vW vG LW LG [(w.heap.size, o)] s (w.alloc o) := by
  have h' := h.still (alloc_below w o)
  exact ⟨h'.ob, h'.want, h'.got, h'.sp, fun x hx => by simp at hx; subst hx; exact heap_alloc_new w o, h.b0_le⟩
theorem Lp.take {W w : World} {g gs : Nat} {T : List In.Tl} {sep : Bool} {b0 : Nat} {vW vG : Value} {LW LG : List (ByteArray × Bool)} {X : List (Nat × Obj)} {s : In.St} (h : Lp W g gs T sep b0 vW vG LW LG X s w) (ha : s.rest.toList.isEmpty = false → 1 ≤ s.asked) (hno : s.ln.no < 1000000000000) (hz : s.rest.size ≤ 67108864) :
    Calls Try.prog 11 #[.pointer (some ⟨g, 0, none⟩)] w fun e w' => e = .returned (.tuple #[.agg #[.string (In.takeR T sep s).1.1, .bool (In.takeR T sep s).1.2], .bool (In.takeR T sep s).2.1, .int .i64 (In.takeR T sep s).2.2.1]) ∧ Lp W g gs T sep b0 vW vG LW LG [] (In.takeR T sep s).2.2.2 w' := by
  obtain ⟨N, h1, h2, h3⟩ := h.ob
  refine (h1.take ha hno hz).mono fun e w' ⟨he, h4, h5⟩ => ⟨he, ⟨N, h4, h2, h3⟩, own_keep h.want (fun b e => h5 b (h2 b e)), own_keep h.got (fun b e => h5 b (h3 b e)), h.sp, fun x hx => by (cases hx), h.b0_le⟩
theorem Lp.now {W w : World} {g gs : Nat} {T : List In.Tl} {sep : Bool} {b0 : Nat} {vW vG : Value} {LW LG : List (ByteArray × Bool)} {X : List (Nat × Obj)} {s : In.St} (h : Lp W g gs T sep b0 vW vG LW LG X s w) : Calls Try.prog 28 #[.pointer (some ⟨g, 0, none⟩)] w fun e w' => e = .returned (.agg (In.tkA s.ln)) ∧ Below w.heap.size w w' := by
  obtain ⟨N, h1, _⟩ := h.ob
  exact h1.now
/-- A line is got. -/
theorem Lp.push {W w w9 : World} {g gs : Nat} {T : List In.Tl} {sep : Bool} {b0 : Nat} {vW vG v' : Value} {LW LG : List (ByteArray × Bool)} {X : List (Nat × Obj)} {s : In.St} {o : Obj} {x : ByteArray × Bool} (h : Lp W g gs T sep b0 vW vG LW LG X s w) (hown : w9.ownsRow b0 34 2 v' (LG.length + 1) (lcells LG ++ [.string x.1, .bool x.2])) (hg : (w.alloc o).grownBy w9 (blk vG)) (hat : blk v' = blk vG ∨ blk v' = some (w.heap.size + 1)) :
    Lp W g gs T sep b0 vW v' LW (LG ++ [x]) [] s w9 := by
  obtain ⟨N, h1, h2, h3⟩ := h.ob
  have ht : Tu (fun q => blk vG = some q) w w9 := ((Tu.refl _ w).alloc o).trans (Tu.of_grown hg (fun q e => e)) (fun _ _ e => e)
  have hlt : ∀ k, blk v' = some k → k ∈ N ∨ w.heap.size ≤ k ∧ k < w9.heap.size := by
    intro k hk
    rcases hat with e | e
    · exact .inl (h3 k (by rw [← e]; exact hk))
    · rw [hk] at e; cases e; exact .inr ⟨by omega, own_lt hown hk⟩
  refine ⟨⟨N ++ bN v', h1.put (ht.mono (fun k _ e => h3 k e)) ?_, fun k hk => List.mem_append_left _ (h2 k hk), fun k hk => List.mem_append_right _ (bN_mem.2 hk)⟩, own_keep h.want (fun b e => ht.block b (own_lt h.want e) (fun q => h.sp b q e)), ?_, ?_, fun x hx => by (cases hx), h.b0_le⟩
  · intro k hk
    rcases List.mem_append.1 hk with e | e
    · exact .inl e
    · exact hlt k (bN_mem.1 e)
  · rw [lcells_append, List.length_append]; exact hown
  · intro b hb q
    rcases hat with e | e
    · exact h.sp b (by rw [← e]; exact hb) q
    · rw [hb] at e; cases e
      have := own_lt h.want q
      omega
theorem Lp.asks {W w : World} {g gs : Nat} {T : List In.Tl} {sep : Bool} {b0 : Nat} {vW vG : Value} {LW LG : List (ByteArray × Bool)} {X : List (Nat × Obj)} {s : In.St} (h : Lp W g gs T sep b0 vW vG LW LG X s w) : ∃ av, w.cell? ⟨gs, 1, none⟩ = some av ∧ w.ownsRow 0 3 1 av s.asked (In.ints s.asked) := by
  obtain ⟨N, h1, _⟩ := h.ob
  obtain ⟨ta, tc, av, h2, _⟩ := h1.ex
  exact ⟨av, by rw [cell_of_row w gs _ _ _ _ h2.sr.src]; rfl, h2.sr.ask⟩
theorem Lp.passed {W w : World} {g gs : Nat} {T : List In.Tl} {sep : Bool} {b0 : Nat} {vW vG : Value} {LW LG : List (ByteArray × Bool)} {X : List (Nat × Obj)} {s : In.St} (h : Lp W g gs T sep b0 vW vG LW LG X s w) : Calls Try.prog 23 #[.pointer (some ⟨g, 0, none⟩)] w fun e w' => e = .returned (.bool s.passed) ∧ w = w' := by
  obtain ⟨N, h1, _⟩ := h.ob
  exact h1.passed
theorem own_lns' {w : World} {base c : Nat} {e : TypeId} {a : Option Addr} {L : List (ByteArray × Bool)} (h : w.ownsRow base e 2 (.slice a L.length c) L.length (lcells L)) (hl : L.length ≤ 67108864) (hs : ∀ x ∈ L, x.1.size ≤ 67108864) : Lns w a c L := by
  obtain ⟨a', c', e, h'⟩ := own_lns h hl hs
  cases e
  exact h'
theorem allB_mem {l : List ByteArray} {x : ByteArray × Bool} (h : x ∈ allB l) : x.1.size ≤ 2 * tb l := by
  obtain ⟨s, hs, hx⟩ := List.mem_flatMap.1 h
  have h1 := Ln.splB_mem s x hx
  obtain ⟨k, hk, rfl⟩ := List.getElem_of_mem hs
  have := tb_mem hk
  omega
/-- The lines that were got are the ones that are wanted. -/
theorem Lp.same {W w : World} {g gs : Nat} {T : List In.Tl} {sep : Bool} {b0 cw cg : Nat} {aw ag : Option Addr} {l : List ByteArray} {X : List (Nat × Obj)} {s : In.St} (h : Lp W g gs T sep b0 (.slice aw (allB l).length cw) (.slice ag (allB l).length cg) (allB l) (allB l) X s w) (hl : tb l ≤ 1048576) :
    Calls Try.prog 22 #[.slice ag (allB l).length cg, .slice aw (allB l).length cw] w fun e w' => e = .returned (.bool true) ∧ ∃ n, w' = w.drewN n := by
  have hn := allB_len l
  have hs : ∀ x ∈ allB l, x.1.size ≤ 67108864 := fun x hx => by have := allB_mem hx; omega
  have := lsame_any ag aw cg cw (allB l) (allB l) w (own_lns' h.got (by omega) hs) (own_lns' h.want (by omega) hs)
  rw [Ln.same_refl] at this
  exact this
theorem Lp.drew {W w : World} {g gs : Nat} {T : List In.Tl} {sep : Bool} {b0 : Nat} {vW vG : Value} {LW LG : List (ByteArray × Bool)} {X : List (Nat × Obj)} {s : In.St} (h : Lp W g gs T sep b0 vW vG LW LG X s w) (n : Nat) : Lp W g gs T sep b0 vW vG LW LG X s (w.drewN n) := h.still (below_drewN (Below.refl _ _) n)
set_option maxRecDepth 100000 in
set_option maxHeartbeats 1000000 in
theorem law_all (a : Option Addr) (cap : Nat) (l : List ByteArray) (sep : Bool) (w : World) (h : Txs w a cap l) (hl : tb l ≤ 1048576) :
    Calls Try.prog 4 #[.slice a l.length cap, .bool sep] w fun e w' => e = .returned (.bool true) ∧ Below w.heap.size w w' := by
  obtain ⟨i0, hi, hz0, hz1, hz2⟩ := info_parts Try.infoTold
  have HLv : Hid _ := lives_any w
  have HX : Hid (Txs w a cap l) := h
  have hlen := h.len
  clear h
  go_enter Try.func4, Try.ntmps4
  go_wp2_with (go_at_call 8; refine Calls.mono HLv.out ?_; rintro e w1 ⟨rfl, hb1⟩)
  obtain ⟨W2, hW2⟩ : ∃ W2, W2 = w1.alloc (.cells #[.slice none 0 0, .slice none 0 0] 27) := ⟨_, rfl⟩
  have HF0 : Hid (Fl W2 w1.heap.size [] [] (.slice none 0 0) (.slice none 0 0) W2) := by
    show Fl _ _ _ _ _ _ _
    rw [hW2]
    exact ⟨heap_alloc_new _ _, World.ownsRow_nil _ _ _ _, World.ownsRow_nil _ _ _ _, fun b e => by simp [blk, Value.ownBlock] at e, Tu.refl _ _, by simp⟩
  have HB2 : Hid (Below w.heap.size w W2 ∧ W2.heap.size = w1.heap.size + 1 ∧ w.heap.size ≤ w1.heap.size) := by
    show _ ∧ _ ∧ _
    rw [hW2]
    exact ⟨hb1.alloc hb1.size _, by simp, hb1.size⟩
  have HXT : Hid (∀ i (hi : i < l.length) w', Tu (fun q => q = w1.heap.size) W2 w' → ∃ b off, a = some ⟨b, off, none⟩ ∧ w'.cell? ⟨b, off + i, none⟩ = some (.string (l[i]'hi))) := by
    intro i hi w' ht
    obtain ⟨b, off, e, hb, hc⟩ := HX.out.cells i hi
    refine ⟨b, off, e, ?_⟩
    have e1 := HB2.out.2
    rw [ht.cell (by omega) (by omega)]
    exact (HB2.out.1.cell (p := ⟨b, off + i, none⟩) hb).trans hc
  rw [← hW2]
  clear hW2 hb1 HLv
  generalize w1.heap.size = gs at *
  go_loopw [6, 23] (fun vB i wr => ∃ (k : Nat) (vA : Value), k ≤ l.length ∧ i = .int .i64 k ∧ Hid (Fl W2 gs (tlT (l.take k)) (allB (l.take k)) vA vB wr)) (fun _ i _ => l.length - (intOf i).toNat)
  case atStart => exact ⟨0, _, Nat.zero_le _, rfl, HF0⟩
  case round =>
    obtain ⟨k, vA, hk, rfl, HF⟩ := hrel
    have hgl := HF.out.lt
    have c0 : wr.cell? ⟨gs, 0, none⟩ = some vA := by rw [cell_of_row wr _ _ _ _ _ HF.out.c]; rfl
    have c1 : wr.cell? ⟨gs, 1, none⟩ = some (.slice none 0 0) := by rw [cell_of_row wr _ _ _ _ _ HF.out.c]; rfl
    by_cases hlt : k < l.length
    · obtain ⟨b, off, rfl, hcb⟩ := HXT.out k hlt wr HF.out.tu
      have hki : (k : Int) < (l.length : Int) := by omega
      have HN1 : Hid _ := allB_snoc hlt
      have HN2 : Hid _ := tlT_snoc hlt
      have hsz : (l[k]'hlt).size ≤ 1048576 := Nat.le_trans (tb_mem hlt) hl
      have HLL : Hid ((allB (l.take k)).length + (Ln.splB (l[k]'hlt)).length ≤ 1048576) := by
        show _ ≤ _
        rw [← List.length_append, ← HN1.out]
        exact Nat.le_trans (allB_len _) (Nat.le_trans (tb_take _ _) hl)
      have HTL : Hid ((tlT (l.take k)).length = k) := by show _ = _; simp [tlT]; omega
      generalize l[k]'hlt = s at *
      have hown : wr.ownsRow (gs + 1) 48 2 vA k (tcells (tlT (l.take k))) := by have := HF.out.A; rw [HTL.out] at this; exact this
      go_wp2_with (at_builtin; refine wpList_append_own_at _ rfl _ _ 22 rfl (gs + 1) 48 i0 (.agg #[.string ⟨#[]⟩, .int .i64 0]) 2 24 Try.underlying22 hi hz0 hz1 hz2 rfl (by decide) _ _ _ rfl (hown.alloc _) ⟨wr.heap.size, 0, none⟩ 1 1 [.string s, .int .i64 0] rfl rfl (cell_two_new _ _ _ _) ?c2 ?c3 ?c4 ?c5 ?_)
      case c2 => first | rfl | (intro u hu; simp at hu; rcases hu with rfl | rfl <;> rfl)
      case c3 => unfold maxLen; omega
      case c4 => omega
      case c5 => simp; omega
      intro v' w9 hown' hgrow _ hat
      obtain ⟨hc9, hF9⟩ := HF.out.tell (x := (s, 0)) (by rw [HTL.out]; exact hown') hgrow hat
      have f0 : w9.frozen? ⟨gs, 0, none⟩ = false := free_row hc9 0
      have d0 : w9.cell? ⟨gs, 0, none⟩ = some vA := by rw [cell_of_row w9 _ _ _ _ _ hc9]; rfl
      have HF9 : Hid _ := hF9
      obtain ⟨a9, c9, hv9⟩ := own_slice hown'
      subst hv9
      have HSp : Hid _ := split_any s (w9.setCell ⟨gs, 0, none⟩ (.slice a9 (k + 1) c9)) (by omega)
      clear hc9 hF9 hown' hgrow hat hown HF c0 c1
      go_wp2_with (first
        | (go_at_call 16; refine Calls.mono HSp.out ?_; rintro e w10 ⟨v10, rfl, ho10, hb10⟩; (have HF10 : Hid _ := HF9.out.still hb10); (have HO10 : Hid _ := ho10); clear ho10 hb10)
        | (at_builtin; refine wpList_append_lns rfl _ _ rfl (gs + 1) _ _ _ _ _ rfl HF10.out.B rfl HO10.out ?d1 ?d2 ?_))
      case d1 => have := HLL.out; omega
      case d2 => have := HF10.out.lt; omega
      intro v12 w12 ho12 hg12 hat12
      have HF12 : Hid _ := HF10.out.want (M := Ln.splB s) (by rw [List.length_append]; exact ho12) hg12 hat12
      clear ho12 hg12 hat12
      go_wp2_with fail
      go_roundw
      case rel => exact ⟨k + 1, _, by omega, by go_num, by rw [HN1.out, HN2.out]; exact HF12⟩
      case measure => simp [intOf]; omega
    · obtain rfl : k = l.length := by omega
      have HFe : Hid (Fl W2 gs (tlT l) (allB l) vA u6 wr) := by have := HF.out; rw [List.take_length] at this; exact this
      have hki : ¬ (l.length : Int) < (l.length : Int) := by omega
      clear HF HF0 HXT
      by_cases h24 : 1024 < l.length
      · have h24i : (1024 : Int) < (l.length : Int) := by omega
        have h24d : decide ((1024 : Int) < (l.length : Int)) = true := by simp; omega
        have HNB : Hid _ := new_bad ⟨gs, 0, none⟩ (l.length : Int) sep wr (.inr (by omega))
        go_wp2_with (go_at_call 7; refine Calls.mono HNB.out ?_; rintro e w3 ⟨rfl, m, rfl⟩)
        go_ret
        refine ⟨rfl, ?_⟩
        have := HB2.out
        exact below_drewN (below_tr this.1 (HFe.out.tu.below this.1.size (fun q e => by omega))) m
      · have HNW : Hid (Calls Try.prog 7 #[.iface 24 (.pointer (some ⟨gs, 0, none⟩)), .int .i64 (l.length : Int), .bool sep] wr fun e w' => e = .returned (.pointer (some ⟨wr.heap.size, 0, none⟩)) ∧ Ob w wr.heap.size gs (tlT l) sep (bN u6) (In.lk (tlT l) In.st0) w' ∧ Kp (bN u6) wr w') := by
          have := HFe.out.new (W := w) (by simp [tlT]; omega) HB2.out.1 (by have := HB2.out; omega) sep
          rw [show (tlT l).length = l.length by simp [tlT]] at this
          exact this
        go_wp2_with (go_at_call 7; refine Calls.mono HNW.out ?_; rintro e w3 ⟨rfl, hO, hK⟩; (have HO : Hid _ := hO); (have HK : Hid _ := hK); clear hO hK)
        have HL0 : Hid (Lp w wr.heap.size gs (tlT l) sep (gs + 1) u6 (.slice none 0 0) (allB l) [] [] (In.lk (tlT l) In.st0) w3) := by
          refine ⟨⟨bN u6, HO.out, fun k hk => bN_mem.2 hk, fun k hk => by simp [blk, Value.ownBlock] at hk⟩, ?_, World.ownsRow_nil _ _ _ _, fun b hb => by simp [blk, Value.ownBlock] at hb, fun x hx => by (cases hx), by have := HB2.out; omega⟩
          exact own_keep HFe.out.B (fun b hb => HK.out b (bN_mem.2 hb))
        generalize wr.heap.size = g at *
        obtain ⟨aw, cw, hu6⟩ := own_slice HL0.out.want
        subst hu6
        have htsz : In.tsz (tlT l) ≤ 1048576 := by rw [tsz_tb]; exact hl
        have hal : (allB l).length ≤ 1048576 := Nat.le_trans (allB_len l) hl
        obtain ⟨j0, hj, hy0, hy1, hy2⟩ := info_parts Try.infoLine
        clear HO HK HNW HFe
        go_loopw [10, 11, 12, 13] (fun vG lv zv nv wr => ∃ (t : Nat) (s : In.St) (lb : Bool) (z : Int), Hid (Lp w g gs (tlT l) sep (gs + 1) (.slice aw (allB l).length cw) vG (allB l) ((allB l).take t) [] s wr) ∧ Hid (In.Cur (tlT l) t s) ∧ Hid (In.Lnv (tlT l) sep t s) ∧ lv = .bool lb ∧ zv = .int .i64 z ∧ nv = .int .i64 (s.ln.no : Int) ∧ Hid (lb = (decide (0 < t) && s.ln.last)) ∧ Hid (z = if t = 0 then -1 else (s.ln.pl : Int)) ∧ t ≤ (allB l).length) (fun vG _ _ _ _ => (allB l).length - (match vG with | .slice _ n _ => n | _ => 0))
        case atStart =>
          refine ⟨0, _, false, -1, ?_, (In.cur_0 _).1, In.lnv_0 _ _, rfl, rfl, ?_, rfl, rfl, Nat.zero_le _⟩
          · rw [List.take_zero]; exact HL0
          · rw [(In.cur_0 (tlT l)).2]; rfl
        case round =>
          obtain ⟨t, s, lb, z, HL, HC, HV, rfl, rfl, rfl, HLB, HZ, htl⟩ := hrel
          obtain ⟨LG, hLG⟩ : ∃ LG, LG = (allB l).take t := ⟨_, rfl⟩
          have HLG : Hid (LG.length = t) := by show _ = _; rw [hLG]; simp; omega
          have HLE : Hid (LG = (allB l).take t) := hLG
          rw [← hLG] at HL
          clear hLG
          obtain ⟨a10, c10, hgo⟩ := own_slice HL.out.got
          subst hgo
          have hno : s.ln.no < 1000000000000 := by
            have := HV.out
            unfold In.Lnv at this
            split at this
            · rw [this]; decide
            · rw [this]; exact Nat.lt_of_le_of_lt (In.num_le _ _ _ _) (by omega)
          have HTk0 : Hid _ := HL.out.take (fun e => (HC.out.rel.text ((In.emp_not _).1 e)).1) hno (by have := HC.out.rel.sz; omega)
          by_cases hn : s.rest.data.toList = []
          · obtain ⟨et, ea, ep⟩ := HC.out.end_all hn
            have hLG : LG = allB l := by rw [HLE.out, et, List.take_length]
            subst hLG
            have HTn : Hid (Calls Try.prog 11 #[.pointer (some ⟨g, 0, none⟩)] wr fun e w' => e = .returned (.tuple #[.agg #[.string ⟨#[]⟩, .bool false], .bool false, .int .i64 0]) ∧ Lp w g gs (tlT l) sep (gs + 1) (.slice aw (allB l).length cw) (.slice a10 (allB l).length c10) (allB l) (allB l) [] s w') := by
              have := HTk0.out
              rw [In.take_none HC.out hn] at this
              have e0 := HC.out.no_err
              simp only [e0] at this
              exact this
            have HSm : Hid (∀ X wx, Lp w g gs (tlT l) sep (gs + 1) (.slice aw (allB l).length cw) (.slice a10 (allB l).length c10) (allB l) (allB l) X s wx → _) := fun X wx (h : Lp w g gs (tlT l) sep (gs + 1) (.slice aw (allB l).length cw) (.slice a10 (allB l).length c10) (allB l) (allB l) X s wx) => h.same hl
            have HAs : Hid (∀ av wx, wx.ownsRow 0 3 1 av s.asked (In.ints s.asked) → Calls Try.prog 13 #[av, .int .i64 (l.length : Int)] wx fun e w' => e = .returned (.bool true) ∧ ∃ k, w' = wx.drewN k) := by
              intro av wx h
              have := asked_any av s.asked (l.length : Int) wx h (by omega)
              rw [ea] at this
              simpa using this
            have HPs : Hid (∀ X wx, Lp w g gs (tlT l) sep (gs + 1) (.slice aw (allB l).length cw) (.slice a10 (allB l).length c10) (allB l) (allB l) X s wx → Calls Try.prog 23 #[.pointer (some ⟨g, 0, none⟩)] wx fun e w' => e = .returned (.bool false) ∧ wx = w') := by
              intro X wx h
              have := h.passed
              rw [ep] at this
              exact this
            have HLb : Hid ((allB l).length = 0 ∨ lb = true) := by
              by_cases t0 : t = 0
              · exact .inl (by omega)
              · refine .inr ?_
                rw [HLB.out, decide_eq_true (by omega : 0 < t), Bool.true_and]
                have := HV.out
                unfold In.Lnv at this
                rw [if_neg t0] at this
                rw [this]
                show (decide (t = (In.ls (tlT l)).length) || _) = true
                rw [In.ls_len, decide_eq_true et, Bool.true_or]
            clear HTk0 HLE HLG HL HC HV HLB HZ et ea ep hn hno
            cases hz9 : (((allB l).length : Int) == 0)
            · obtain rfl : lb = true := by
                rcases HLb.out with e | e
                · rw [e] at hz9; simp at hz9
                · exact e
              go_wp2_with (first
                | (go_at_call 11; refine Calls.mono HTn.out ?_; rintro e w4 ⟨rfl, hL4⟩; (have KO : Hid _ := hL4.alloc (.cells #[.string ⟨#[]⟩, .bool false] 34)); clear hL4)
                | (go_at_call 22; refine Calls.mono (HSm.out _ _ KO.out) ?_; rintro e w6 ⟨rfl, n6, rfl⟩; (have K2 : Hid _ := KO.out.drew n6); (obtain ⟨av6, hv6, ho6⟩ := K2.out.asks); (have HO6 : Hid _ := ho6); clear ho6)
                | (go_at_call 13; refine Calls.mono (HAs.out _ _ HO6.out) ?_; rintro e w7 ⟨rfl, n7, rfl⟩; (have K3 : Hid _ := KO.out.drew (n6 + n7)))
                | (go_at_call 23; refine Calls.mono (HPs.out _ _ K3.out) ?_; rintro e w8 ⟨rfl, rfl⟩))
              go_ret
              exact ⟨rfl, K3.out.below⟩
            · go_wp2_with (first
                | (go_at_call 11; refine Calls.mono HTn.out ?_; rintro e w4 ⟨rfl, hL4⟩; (have KO : Hid _ := hL4.alloc (.cells #[.string ⟨#[]⟩, .bool false] 34)); clear hL4)
                | (go_at_call 22; refine Calls.mono (HSm.out _ _ KO.out) ?_; rintro e w6 ⟨rfl, n6, rfl⟩; (have K2 : Hid _ := KO.out.drew n6); (obtain ⟨av6, hv6, ho6⟩ := K2.out.asks); (have HO6 : Hid _ := ho6); clear ho6)
                | (go_at_call 13; refine Calls.mono (HAs.out _ _ HO6.out) ?_; rintro e w7 ⟨rfl, n7, rfl⟩; (have K3 : Hid _ := KO.out.drew (n6 + n7)))
                | (go_at_call 23; refine Calls.mono (HPs.out _ _ K3.out) ?_; rintro e w8 ⟨rfl, rfl⟩))
              go_ret
              exact ⟨rfl, K3.out.below⟩
          · obtain ⟨s', p, x, hN⟩ := HC.out.next_all HV.out hn
            obtain ⟨x1, x2⟩ := x
            have HTk : Hid (Calls Try.prog 11 #[.pointer (some ⟨g, 0, none⟩)] wr fun e w' => e = .returned (.tuple #[.agg #[.string x1, .bool x2], .bool true, .int .i64 0]) ∧ Lp w g gs (tlT l) sep (gs + 1) (.slice aw (allB l).length cw) (.slice a10 LG.length c10) (allB l) LG [] s' w') := by have := HTk0.out; rw [hN.ans] at this; exact this
            have HN : Hid _ := hN
            have hpl := hN.p_lt
            have htlt := hN.lt
            obtain ⟨b, off, ha, hb0, hcb⟩ := HX.out.cells p hpl
            subst ha
            have HD : Hid (s'.ln.data = l[p]'hpl) := hN.data
            generalize l[p]'hpl = D at *
            have HXL : Hid (∀ wx, Below w.heap.size w wx → wx.cell? ⟨b, off + p, none⟩ = some (.string D)) := fun wx hb => (hb.cell (p := ⟨b, off + p, none⟩) hb0).trans hcb
            obtain ⟨lst, hlst⟩ : ∃ lst, lst = s'.ln.last := ⟨_, rfl⟩
            have HLS : Hid _ := hlst
            clear hlst hcb hN HTk0
            have HAt : Hid (∀ X wx, Lp w g gs (tlT l) sep (gs + 1) (.slice aw (allB l).length cw) (.slice a10 LG.length c10) (allB l) LG X s' wx → Calls Try.prog 17 #[.pointer (some ⟨g, 0, none⟩)] wx fun e w' => e = .returned (.int .i64 (p : Int)) ∧ Lp w g gs (tlT l) sep (gs + 1) (.slice aw (allB l).length cw) (.slice a10 LG.length c10) (allB l) LG X s' w') := fun X wx h => (at_of _ _ wx h.now).mono fun e w' ⟨he, hb⟩ => ⟨by rw [he, HN.out.pl], h.still hb⟩
            have HDa : Hid (∀ X wx, Lp w g gs (tlT l) sep (gs + 1) (.slice aw (allB l).length cw) (.slice a10 LG.length c10) (allB l) LG X s' wx → Calls Try.prog 20 #[.pointer (some ⟨g, 0, none⟩)] wx fun e w' => e = .returned (.string D) ∧ Lp w g gs (tlT l) sep (gs + 1) (.slice aw (allB l).length cw) (.slice a10 LG.length c10) (allB l) LG X s' w') := fun X wx h => (data_of _ _ wx h.now).mono fun e w' ⟨he, hb⟩ => ⟨by rw [he, HD.out], h.still hb⟩
            have HLa : Hid (∀ X wx, Lp w g gs (tlT l) sep (gs + 1) (.slice aw (allB l).length cw) (.slice a10 LG.length c10) (allB l) LG X s' wx → Calls Try.prog 21 #[.pointer (some ⟨g, 0, none⟩)] wx fun e w' => e = .returned (.bool lst) ∧ Lp w g gs (tlT l) sep (gs + 1) (.slice aw (allB l).length cw) (.slice a10 LG.length c10) (allB l) LG X s' w') := fun X wx h => (last_of _ _ wx h.now).mono fun e w' ⟨he, hb⟩ => ⟨by rw [he, HLS.out], h.still hb⟩
            have hpi : (p : Int) < (l.length : Int) := by omega
            have hpd : decide ((l.length : Int) ≤ (p : Int)) = false := by simp; omega
            have hnw : IntKind.i64.wrap ((s.ln.no : Int) + 1) = (s.ln.no : Int) + 1 := by rw [IntKind.wrap_i64]; omega
            have HTT : Hid ((allB l).take (t + 1) = LG ++ [(x1, x2)]) := by show _ = _; rw [HN.out.line, HLE.out]
            have HCN : Hid (In.Cur (tlT l) (t + 1) s') := HN.out.cur
            have HLN : Hid (In.Lnv (tlT l) sep (t + 1) s') := HN.out.lnv
            have HLS' : Hid (lst = (decide (0 < t + 1) && s'.ln.last)) := by show _ = _; rw [HLS.out]; simp
            have HZ' : Hid ((p : Int) = if t + 1 = 0 then -1 else (s'.ln.pl : Int)) := by show _ = _; rw [if_neg (by omega), HN.out.pl]
            have hle9 : ¬ ((allB l).length : Int) < (LG.length : Int) + 1 := by have := HLG.out; omega
            have hle9d : decide (((allB l).length : Int) < (LG.length : Int) + 1) = false := by simp; have := HLG.out; omega
            by_cases t0 : t = 0
            · obtain rfl : lb = false := by rw [HLB.out]; simp [t0]
              obtain rfl : z = -1 := by rw [HZ.out]; simp [t0]
              have HNN : Hid (s'.ln.no = 1) := (HN.out.first t0).1
              have HFF : Hid (s'.ln.fresh = false) := (HN.out.first t0).2
              have hn0 : (s.ln.no : Int) = 0 := by have := HN.out.no_le; omega
              have hne : ((p : Int) != -1) = true := by simp <;> omega
              have hlt : decide ((p : Int) < -1) = false := by simp <;> omega
              clear HN t0 HLB HZ hnw hn hno
              cases sep
              · have HNo : Hid (∀ X wx, Lp w g gs (tlT l) false (gs + 1) (.slice aw (allB l).length cw) (.slice a10 LG.length c10) (allB l) LG X s' wx → Calls Try.prog 18 #[.pointer (some ⟨g, 0, none⟩)] wx fun e w' => e = .returned (.int .i64 (1)) ∧ Lp w g gs (tlT l) false (gs + 1) (.slice aw (allB l).length cw) (.slice a10 LG.length c10) (allB l) LG X s' w') := fun X wx h => (number_of _ _ wx h.now).mono fun e w' ⟨he, hb⟩ => ⟨by rw [he, HNN.out]; first | rfl | simp, h.still hb⟩
                have HFr : Hid (∀ X wx, Lp w g gs (tlT l) false (gs + 1) (.slice aw (allB l).length cw) (.slice a10 LG.length c10) (allB l) LG X s' wx → Calls Try.prog 19 #[.pointer (some ⟨g, 0, none⟩)] wx fun e w' => e = .returned (.bool false) ∧ Lp w g gs (tlT l) false (gs + 1) (.slice aw (allB l).length cw) (.slice a10 LG.length c10) (allB l) LG X s' w') := fun X wx h => (fresh_of _ _ wx h.now).mono fun e w' ⟨he, hb⟩ => ⟨by rw [he, HFF.out], h.still hb⟩
                go_wp2_with (first
                  | (go_at_call 11; refine Calls.mono HTk.out ?_; rintro e w4 ⟨rfl, hL4⟩; (have KO : Hid _ := hL4.alloc (.cells #[.string x1, .bool x2] 34)); clear hL4)
                  | (go_at_call 17; refine Calls.mono (HAt.out _ _ KO.out) ?_; clear KO; rintro e wX ⟨rfl, hLX⟩; (try clear hcl); (have hcl := HXL.out wX hLX.below); (have KO : Hid _ := hLX); clear hLX)
                  | (go_at_call 18; refine Calls.mono (HNo.out _ _ KO.out) ?_; clear KO; rintro e wX ⟨rfl, hLX⟩; (try clear hcl); (have hcl := HXL.out wX hLX.below); (have KO : Hid _ := hLX); clear hLX)
                  | (go_at_call 19; refine Calls.mono (HFr.out _ _ KO.out) ?_; clear KO; rintro e wX ⟨rfl, hLX⟩; (try clear hcl); (have hcl := HXL.out wX hLX.below); (have KO : Hid _ := hLX); clear hLX)
                  | (go_at_call 20; refine Calls.mono (HDa.out _ _ KO.out) ?_; clear KO; rintro e wX ⟨rfl, hLX⟩; (try clear hcl); (have hcl := HXL.out wX hLX.below); (have KO : Hid _ := hLX); clear hLX)
                  | (go_at_call 21; refine Calls.mono (HLa.out _ _ KO.out) ?_; clear KO; rintro e wX ⟨rfl, hLX⟩; (obtain ⟨la0, la1⟩ := line_cells (hLX.keep _ (List.mem_singleton.2 rfl))); (have HG : Hid _ := hLX.got); (have hgx := hLX.gs_lt); (have KO : Hid _ := hLX); clear hLX)
                  | (at_builtin; refine wpList_append_own_at _ rfl _ _ 46 rfl (gs + 1) 34 j0 (.agg #[.string ⟨#[]⟩, .bool false]) 2 24 Try.underlying46 hj hy0 hy1 hy2 rfl (by decide) _ _ _ rfl (World.ownsRow.alloc HG.out _) ⟨wX.heap.size, 0, none⟩ 1 1 [.string x1, .bool x2] rfl rfl (cell_two_new _ _ _ _) ?q12 ?q13 ?q14 ?q15 ?_))
                case q12 => first | rfl | (intro u hu; simp at hu; rcases hu with rfl | rfl <;> rfl)
                case q13 => have := HLG.out; unfold maxLen; omega
                case q14 => have := HLG.out; omega
                case q15 => simp; omega
                intro v' w9 hown' hgrow _ hat
                have HL9 : Hid _ := KO.out.push (x := (x1, x2)) hown' hgrow hat
                obtain ⟨a9, c9, hv9⟩ := own_slice hown'
                subst hv9
                clear hown' hgrow hat HG KO
                go_wp2_with fail
                go_roundw
                case rel => exact ⟨t + 1, s', lst, (p : Int), by rw [HTT.out]; exact HL9, HCN, HLN, rfl, rfl, by rw [HNN.out]; first | rfl | simp | go_num, HLS', HZ', by omega⟩
                case measure => have := HLG.out; simp; omega
              · have HNo : Hid (∀ X wx, Lp w g gs (tlT l) true (gs + 1) (.slice aw (allB l).length cw) (.slice a10 LG.length c10) (allB l) LG X s' wx → Calls Try.prog 18 #[.pointer (some ⟨g, 0, none⟩)] wx fun e w' => e = .returned (.int .i64 (1)) ∧ Lp w g gs (tlT l) true (gs + 1) (.slice aw (allB l).length cw) (.slice a10 LG.length c10) (allB l) LG X s' w') := fun X wx h => (number_of _ _ wx h.now).mono fun e w' ⟨he, hb⟩ => ⟨by rw [he, HNN.out]; first | rfl | simp, h.still hb⟩
                have HFr : Hid (∀ X wx, Lp w g gs (tlT l) true (gs + 1) (.slice aw (allB l).length cw) (.slice a10 LG.length c10) (allB l) LG X s' wx → Calls Try.prog 19 #[.pointer (some ⟨g, 0, none⟩)] wx fun e w' => e = .returned (.bool false) ∧ Lp w g gs (tlT l) true (gs + 1) (.slice aw (allB l).length cw) (.slice a10 LG.length c10) (allB l) LG X s' w') := fun X wx h => (fresh_of _ _ wx h.now).mono fun e w' ⟨he, hb⟩ => ⟨by rw [he, HFF.out], h.still hb⟩
                go_wp2_with (first
                  | (go_at_call 11; refine Calls.mono HTk.out ?_; rintro e w4 ⟨rfl, hL4⟩; (have KO : Hid _ := hL4.alloc (.cells #[.string x1, .bool x2] 34)); clear hL4)
                  | (go_at_call 17; refine Calls.mono (HAt.out _ _ KO.out) ?_; clear KO; rintro e wX ⟨rfl, hLX⟩; (try clear hcl); (have hcl := HXL.out wX hLX.below); (have KO : Hid _ := hLX); clear hLX)
                  | (go_at_call 18; refine Calls.mono (HNo.out _ _ KO.out) ?_; clear KO; rintro e wX ⟨rfl, hLX⟩; (try clear hcl); (have hcl := HXL.out wX hLX.below); (have KO : Hid _ := hLX); clear hLX)
                  | (go_at_call 19; refine Calls.mono (HFr.out _ _ KO.out) ?_; clear KO; rintro e wX ⟨rfl, hLX⟩; (try clear hcl); (have hcl := HXL.out wX hLX.below); (have KO : Hid _ := hLX); clear hLX)
                  | (go_at_call 20; refine Calls.mono (HDa.out _ _ KO.out) ?_; clear KO; rintro e wX ⟨rfl, hLX⟩; (try clear hcl); (have hcl := HXL.out wX hLX.below); (have KO : Hid _ := hLX); clear hLX)
                  | (go_at_call 21; refine Calls.mono (HLa.out _ _ KO.out) ?_; clear KO; rintro e wX ⟨rfl, hLX⟩; (obtain ⟨la0, la1⟩ := line_cells (hLX.keep _ (List.mem_singleton.2 rfl))); (have HG : Hid _ := hLX.got); (have hgx := hLX.gs_lt); (have KO : Hid _ := hLX); clear hLX)
                  | (at_builtin; refine wpList_append_own_at _ rfl _ _ 46 rfl (gs + 1) 34 j0 (.agg #[.string ⟨#[]⟩, .bool false]) 2 24 Try.underlying46 hj hy0 hy1 hy2 rfl (by decide) _ _ _ rfl (World.ownsRow.alloc HG.out _) ⟨wX.heap.size, 0, none⟩ 1 1 [.string x1, .bool x2] rfl rfl (cell_two_new _ _ _ _) ?q22 ?q23 ?q24 ?q25 ?_))
                case q22 => first | rfl | (intro u hu; simp at hu; rcases hu with rfl | rfl <;> rfl)
                case q23 => have := HLG.out; unfold maxLen; omega
                case q24 => have := HLG.out; omega
                case q25 => simp; omega
                intro v' w9 hown' hgrow _ hat
                have HL9 : Hid _ := KO.out.push (x := (x1, x2)) hown' hgrow hat
                obtain ⟨a9, c9, hv9⟩ := own_slice hown'
                subst hv9
                clear hown' hgrow hat HG KO
                go_wp2_with fail
                go_roundw
                case rel => exact ⟨t + 1, s', lst, (p : Int), by rw [HTT.out]; exact HL9, HCN, HLN, rfl, rfl, by rw [HNN.out]; first | rfl | simp | go_num, HLS', HZ', by omega⟩
                case measure => have := HLG.out; simp; omega
            · have hM := HN.out.more (by omega)
              have hZ : z = (s.ln.pl : Int) := by rw [HZ.out, if_neg t0]
              have hLB : lb = (sep && decide (p ≠ s.ln.pl)) := by rw [HLB.out, ← hM.2.2.2, decide_eq_true (by omega : 0 < t), Bool.true_and]
              obtain ⟨q, hq⟩ : ∃ q, q = s.ln.pl := ⟨_, rfl⟩
              rw [← hq] at hM hZ hLB
              subst hZ
              have hqp := hM.1
              clear HN t0 HLB HZ hn hno hq
              by_cases hpq : p = q
              · subst hpq
                have HFF : Hid (s'.ln.fresh = false) := by show _ = _; have := hM.2.1; simpa using this
                have HNN : Hid (s'.ln.no = s.ln.no + 1) := by show _ = _; have := hM.2.2.1; simpa using this
                obtain rfl : lb = false := by rw [hLB]; simp
                clear hM hLB
                cases sep
                · have HNo : Hid (∀ X wx, Lp w g gs (tlT l) false (gs + 1) (.slice aw (allB l).length cw) (.slice a10 LG.length c10) (allB l) LG X s' wx → Calls Try.prog 18 #[.pointer (some ⟨g, 0, none⟩)] wx fun e w' => e = .returned (.int .i64 ((s.ln.no : Int) + 1)) ∧ Lp w g gs (tlT l) false (gs + 1) (.slice aw (allB l).length cw) (.slice a10 LG.length c10) (allB l) LG X s' w') := fun X wx h => (number_of _ _ wx h.now).mono fun e w' ⟨he, hb⟩ => ⟨by rw [he, HNN.out]; first | rfl | simp, h.still hb⟩
                  have HFr : Hid (∀ X wx, Lp w g gs (tlT l) false (gs + 1) (.slice aw (allB l).length cw) (.slice a10 LG.length c10) (allB l) LG X s' wx → Calls Try.prog 19 #[.pointer (some ⟨g, 0, none⟩)] wx fun e w' => e = .returned (.bool false) ∧ Lp w g gs (tlT l) false (gs + 1) (.slice aw (allB l).length cw) (.slice a10 LG.length c10) (allB l) LG X s' w') := fun X wx h => (fresh_of _ _ wx h.now).mono fun e w' ⟨he, hb⟩ => ⟨by rw [he, HFF.out], h.still hb⟩
                  go_wp2_with (first
                    | (go_at_call 11; refine Calls.mono HTk.out ?_; rintro e w4 ⟨rfl, hL4⟩; (have KO : Hid _ := hL4.alloc (.cells #[.string x1, .bool x2] 34)); clear hL4)
                    | (go_at_call 17; refine Calls.mono (HAt.out _ _ KO.out) ?_; clear KO; rintro e wX ⟨rfl, hLX⟩; (try clear hcl); (have hcl := HXL.out wX hLX.below); (have KO : Hid _ := hLX); clear hLX)
                    | (go_at_call 18; refine Calls.mono (HNo.out _ _ KO.out) ?_; clear KO; rintro e wX ⟨rfl, hLX⟩; (try clear hcl); (have hcl := HXL.out wX hLX.below); (have KO : Hid _ := hLX); clear hLX)
                    | (go_at_call 19; refine Calls.mono (HFr.out _ _ KO.out) ?_; clear KO; rintro e wX ⟨rfl, hLX⟩; (try clear hcl); (have hcl := HXL.out wX hLX.below); (have KO : Hid _ := hLX); clear hLX)
                    | (go_at_call 20; refine Calls.mono (HDa.out _ _ KO.out) ?_; clear KO; rintro e wX ⟨rfl, hLX⟩; (try clear hcl); (have hcl := HXL.out wX hLX.below); (have KO : Hid _ := hLX); clear hLX)
                    | (go_at_call 21; refine Calls.mono (HLa.out _ _ KO.out) ?_; clear KO; rintro e wX ⟨rfl, hLX⟩; (obtain ⟨la0, la1⟩ := line_cells (hLX.keep _ (List.mem_singleton.2 rfl))); (have HG : Hid _ := hLX.got); (have hgx := hLX.gs_lt); (have KO : Hid _ := hLX); clear hLX)
                    | (at_builtin; refine wpList_append_own_at _ rfl _ _ 46 rfl (gs + 1) 34 j0 (.agg #[.string ⟨#[]⟩, .bool false]) 2 24 Try.underlying46 hj hy0 hy1 hy2 rfl (by decide) _ _ _ rfl (World.ownsRow.alloc HG.out _) ⟨wX.heap.size, 0, none⟩ 1 1 [.string x1, .bool x2] rfl rfl (cell_two_new _ _ _ _) ?q32 ?q33 ?q34 ?q35 ?_))
                  case q32 => first | rfl | (intro u hu; simp at hu; rcases hu with rfl | rfl <;> rfl)
                  case q33 => have := HLG.out; unfold maxLen; omega
                  case q34 => have := HLG.out; omega
                  case q35 => simp; omega
                  intro v' w9 hown' hgrow _ hat
                  have HL9 : Hid _ := KO.out.push (x := (x1, x2)) hown' hgrow hat
                  obtain ⟨a9, c9, hv9⟩ := own_slice hown'
                  subst hv9
                  clear hown' hgrow hat HG KO
                  go_wp2_with fail
                  go_roundw
                  case rel => exact ⟨t + 1, s', lst, (p : Int), by rw [HTT.out]; exact HL9, HCN, HLN, rfl, rfl, by rw [HNN.out]; first | rfl | simp | go_num, HLS', HZ', by omega⟩
                  case measure => have := HLG.out; simp; omega
                · have HNo : Hid (∀ X wx, Lp w g gs (tlT l) true (gs + 1) (.slice aw (allB l).length cw) (.slice a10 LG.length c10) (allB l) LG X s' wx → Calls Try.prog 18 #[.pointer (some ⟨g, 0, none⟩)] wx fun e w' => e = .returned (.int .i64 ((s.ln.no : Int) + 1)) ∧ Lp w g gs (tlT l) true (gs + 1) (.slice aw (allB l).length cw) (.slice a10 LG.length c10) (allB l) LG X s' w') := fun X wx h => (number_of _ _ wx h.now).mono fun e w' ⟨he, hb⟩ => ⟨by rw [he, HNN.out]; first | rfl | simp, h.still hb⟩
                  have HFr : Hid (∀ X wx, Lp w g gs (tlT l) true (gs + 1) (.slice aw (allB l).length cw) (.slice a10 LG.length c10) (allB l) LG X s' wx → Calls Try.prog 19 #[.pointer (some ⟨g, 0, none⟩)] wx fun e w' => e = .returned (.bool false) ∧ Lp w g gs (tlT l) true (gs + 1) (.slice aw (allB l).length cw) (.slice a10 LG.length c10) (allB l) LG X s' w') := fun X wx h => (fresh_of _ _ wx h.now).mono fun e w' ⟨he, hb⟩ => ⟨by rw [he, HFF.out], h.still hb⟩
                  go_wp2_with (first
                    | (go_at_call 11; refine Calls.mono HTk.out ?_; rintro e w4 ⟨rfl, hL4⟩; (have KO : Hid _ := hL4.alloc (.cells #[.string x1, .bool x2] 34)); clear hL4)
                    | (go_at_call 17; refine Calls.mono (HAt.out _ _ KO.out) ?_; clear KO; rintro e wX ⟨rfl, hLX⟩; (try clear hcl); (have hcl := HXL.out wX hLX.below); (have KO : Hid _ := hLX); clear hLX)
                    | (go_at_call 18; refine Calls.mono (HNo.out _ _ KO.out) ?_; clear KO; rintro e wX ⟨rfl, hLX⟩; (try clear hcl); (have hcl := HXL.out wX hLX.below); (have KO : Hid _ := hLX); clear hLX)
                    | (go_at_call 19; refine Calls.mono (HFr.out _ _ KO.out) ?_; clear KO; rintro e wX ⟨rfl, hLX⟩; (try clear hcl); (have hcl := HXL.out wX hLX.below); (have KO : Hid _ := hLX); clear hLX)
                    | (go_at_call 20; refine Calls.mono (HDa.out _ _ KO.out) ?_; clear KO; rintro e wX ⟨rfl, hLX⟩; (try clear hcl); (have hcl := HXL.out wX hLX.below); (have KO : Hid _ := hLX); clear hLX)
                    | (go_at_call 21; refine Calls.mono (HLa.out _ _ KO.out) ?_; clear KO; rintro e wX ⟨rfl, hLX⟩; (obtain ⟨la0, la1⟩ := line_cells (hLX.keep _ (List.mem_singleton.2 rfl))); (have HG : Hid _ := hLX.got); (have hgx := hLX.gs_lt); (have KO : Hid _ := hLX); clear hLX)
                    | (at_builtin; refine wpList_append_own_at _ rfl _ _ 46 rfl (gs + 1) 34 j0 (.agg #[.string ⟨#[]⟩, .bool false]) 2 24 Try.underlying46 hj hy0 hy1 hy2 rfl (by decide) _ _ _ rfl (World.ownsRow.alloc HG.out _) ⟨wX.heap.size, 0, none⟩ 1 1 [.string x1, .bool x2] rfl rfl (cell_two_new _ _ _ _) ?q42 ?q43 ?q44 ?q45 ?_))
                  case q42 => first | rfl | (intro u hu; simp at hu; rcases hu with rfl | rfl <;> rfl)
                  case q43 => have := HLG.out; unfold maxLen; omega
                  case q44 => have := HLG.out; omega
                  case q45 => simp; omega
                  intro v' w9 hown' hgrow _ hat
                  have HL9 : Hid _ := KO.out.push (x := (x1, x2)) hown' hgrow hat
                  obtain ⟨a9, c9, hv9⟩ := own_slice hown'
                  subst hv9
                  clear hown' hgrow hat HG KO
                  go_wp2_with fail
                  go_roundw
                  case rel => exact ⟨t + 1, s', lst, (p : Int), by rw [HTT.out]; exact HL9, HCN, HLN, rfl, rfl, by rw [HNN.out]; first | rfl | simp | go_num, HLS', HZ', by omega⟩
                  case measure => have := HLG.out; simp; omega
              · have HFF : Hid (s'.ln.fresh = true) := by show _ = _; have := hM.2.1; simpa [hpq] using this
                have hne : ((p : Int) != (q : Int)) = true := by simp; omega
                have hlt : decide ((p : Int) < (q : Int)) = false := by simp; omega
                have hlti : ¬ (p : Int) < (q : Int) := by omega
                cases sep
                · have HNN : Hid (s'.ln.no = s.ln.no + 1) := by show _ = _; have := hM.2.2.1; simpa using this
                  obtain rfl : lb = false := by rw [hLB]; simp
                  clear hM hLB
                  have HNo : Hid (∀ X wx, Lp w g gs (tlT l) false (gs + 1) (.slice aw (allB l).length cw) (.slice a10 LG.length c10) (allB l) LG X s' wx → Calls Try.prog 18 #[.pointer (some ⟨g, 0, none⟩)] wx fun e w' => e = .returned (.int .i64 ((s.ln.no : Int) + 1)) ∧ Lp w g gs (tlT l) false (gs + 1) (.slice aw (allB l).length cw) (.slice a10 LG.length c10) (allB l) LG X s' w') := fun X wx h => (number_of _ _ wx h.now).mono fun e w' ⟨he, hb⟩ => ⟨by rw [he, HNN.out]; first | rfl | simp, h.still hb⟩
                  have HFr : Hid (∀ X wx, Lp w g gs (tlT l) false (gs + 1) (.slice aw (allB l).length cw) (.slice a10 LG.length c10) (allB l) LG X s' wx → Calls Try.prog 19 #[.pointer (some ⟨g, 0, none⟩)] wx fun e w' => e = .returned (.bool true) ∧ Lp w g gs (tlT l) false (gs + 1) (.slice aw (allB l).length cw) (.slice a10 LG.length c10) (allB l) LG X s' w') := fun X wx h => (fresh_of _ _ wx h.now).mono fun e w' ⟨he, hb⟩ => ⟨by rw [he, HFF.out], h.still hb⟩
                  go_wp2_with (first
                    | (go_at_call 11; refine Calls.mono HTk.out ?_; rintro e w4 ⟨rfl, hL4⟩; (have KO : Hid _ := hL4.alloc (.cells #[.string x1, .bool x2] 34)); clear hL4)
                    | (go_at_call 17; refine Calls.mono (HAt.out _ _ KO.out) ?_; clear KO; rintro e wX ⟨rfl, hLX⟩; (try clear hcl); (have hcl := HXL.out wX hLX.below); (have KO : Hid _ := hLX); clear hLX)
                    | (go_at_call 18; refine Calls.mono (HNo.out _ _ KO.out) ?_; clear KO; rintro e wX ⟨rfl, hLX⟩; (try clear hcl); (have hcl := HXL.out wX hLX.below); (have KO : Hid _ := hLX); clear hLX)
                    | (go_at_call 19; refine Calls.mono (HFr.out _ _ KO.out) ?_; clear KO; rintro e wX ⟨rfl, hLX⟩; (try clear hcl); (have hcl := HXL.out wX hLX.below); (have KO : Hid _ := hLX); clear hLX)
                    | (go_at_call 20; refine Calls.mono (HDa.out _ _ KO.out) ?_; clear KO; rintro e wX ⟨rfl, hLX⟩; (try clear hcl); (have hcl := HXL.out wX hLX.below); (have KO : Hid _ := hLX); clear hLX)
                    | (go_at_call 21; refine Calls.mono (HLa.out _ _ KO.out) ?_; clear KO; rintro e wX ⟨rfl, hLX⟩; (obtain ⟨la0, la1⟩ := line_cells (hLX.keep _ (List.mem_singleton.2 rfl))); (have HG : Hid _ := hLX.got); (have hgx := hLX.gs_lt); (have KO : Hid _ := hLX); clear hLX)
                    | (at_builtin; refine wpList_append_own_at _ rfl _ _ 46 rfl (gs + 1) 34 j0 (.agg #[.string ⟨#[]⟩, .bool false]) 2 24 Try.underlying46 hj hy0 hy1 hy2 rfl (by decide) _ _ _ rfl (World.ownsRow.alloc HG.out _) ⟨wX.heap.size, 0, none⟩ 1 1 [.string x1, .bool x2] rfl rfl (cell_two_new _ _ _ _) ?q52 ?q53 ?q54 ?q55 ?_))
                  case q52 => first | rfl | (intro u hu; simp at hu; rcases hu with rfl | rfl <;> rfl)
                  case q53 => have := HLG.out; unfold maxLen; omega
                  case q54 => have := HLG.out; omega
                  case q55 => simp; omega
                  intro v' w9 hown' hgrow _ hat
                  have HL9 : Hid _ := KO.out.push (x := (x1, x2)) hown' hgrow hat
                  obtain ⟨a9, c9, hv9⟩ := own_slice hown'
                  subst hv9
                  clear hown' hgrow hat HG KO
                  go_wp2_with fail
                  go_roundw
                  case rel => exact ⟨t + 1, s', lst, (p : Int), by rw [HTT.out]; exact HL9, HCN, HLN, rfl, rfl, by rw [HNN.out]; first | rfl | simp | go_num, HLS', HZ', by omega⟩
                  case measure => have := HLG.out; simp; omega
                · have HNN : Hid (s'.ln.no = 1) := by show _ = _; have := hM.2.2.1; simpa [hpq] using this
                  obtain rfl : lb = true := by rw [hLB]; simp [hpq]
                  clear hM hLB
                  have HNo : Hid (∀ X wx, Lp w g gs (tlT l) true (gs + 1) (.slice aw (allB l).length cw) (.slice a10 LG.length c10) (allB l) LG X s' wx → Calls Try.prog 18 #[.pointer (some ⟨g, 0, none⟩)] wx fun e w' => e = .returned (.int .i64 (1)) ∧ Lp w g gs (tlT l) true (gs + 1) (.slice aw (allB l).length cw) (.slice a10 LG.length c10) (allB l) LG X s' w') := fun X wx h => (number_of _ _ wx h.now).mono fun e w' ⟨he, hb⟩ => ⟨by rw [he, HNN.out]; first | rfl | simp, h.still hb⟩
                  have HFr : Hid (∀ X wx, Lp w g gs (tlT l) true (gs + 1) (.slice aw (allB l).length cw) (.slice a10 LG.length c10) (allB l) LG X s' wx → Calls Try.prog 19 #[.pointer (some ⟨g, 0, none⟩)] wx fun e w' => e = .returned (.bool true) ∧ Lp w g gs (tlT l) true (gs + 1) (.slice aw (allB l).length cw) (.slice a10 LG.length c10) (allB l) LG X s' w') := fun X wx h => (fresh_of _ _ wx h.now).mono fun e w' ⟨he, hb⟩ => ⟨by rw [he, HFF.out], h.still hb⟩
                  go_wp2_with (first
                    | (go_at_call 11; refine Calls.mono HTk.out ?_; rintro e w4 ⟨rfl, hL4⟩; (have KO : Hid _ := hL4.alloc (.cells #[.string x1, .bool x2] 34)); clear hL4)
                    | (go_at_call 17; refine Calls.mono (HAt.out _ _ KO.out) ?_; clear KO; rintro e wX ⟨rfl, hLX⟩; (try clear hcl); (have hcl := HXL.out wX hLX.below); (have KO : Hid _ := hLX); clear hLX)
                    | (go_at_call 18; refine Calls.mono (HNo.out _ _ KO.out) ?_; clear KO; rintro e wX ⟨rfl, hLX⟩; (try clear hcl); (have hcl := HXL.out wX hLX.below); (have KO : Hid _ := hLX); clear hLX)
                    | (go_at_call 19; refine Calls.mono (HFr.out _ _ KO.out) ?_; clear KO; rintro e wX ⟨rfl, hLX⟩; (try clear hcl); (have hcl := HXL.out wX hLX.below); (have KO : Hid _ := hLX); clear hLX)
                    | (go_at_call 20; refine Calls.mono (HDa.out _ _ KO.out) ?_; clear KO; rintro e wX ⟨rfl, hLX⟩; (try clear hcl); (have hcl := HXL.out wX hLX.below); (have KO : Hid _ := hLX); clear hLX)
                    | (go_at_call 21; refine Calls.mono (HLa.out _ _ KO.out) ?_; clear KO; rintro e wX ⟨rfl, hLX⟩; (obtain ⟨la0, la1⟩ := line_cells (hLX.keep _ (List.mem_singleton.2 rfl))); (have HG : Hid _ := hLX.got); (have hgx := hLX.gs_lt); (have KO : Hid _ := hLX); clear hLX)
                    | (at_builtin; refine wpList_append_own_at _ rfl _ _ 46 rfl (gs + 1) 34 j0 (.agg #[.string ⟨#[]⟩, .bool false]) 2 24 Try.underlying46 hj hy0 hy1 hy2 rfl (by decide) _ _ _ rfl (World.ownsRow.alloc HG.out _) ⟨wX.heap.size, 0, none⟩ 1 1 [.string x1, .bool x2] rfl rfl (cell_two_new _ _ _ _) ?q62 ?q63 ?q64 ?q65 ?_))
                  case q62 => first | rfl | (intro u hu; simp at hu; rcases hu with rfl | rfl <;> rfl)
                  case q63 => have := HLG.out; unfold maxLen; omega
                  case q64 => have := HLG.out; omega
                  case q65 => simp; omega
                  intro v' w9 hown' hgrow _ hat
                  have HL9 : Hid _ := KO.out.push (x := (x1, x2)) hown' hgrow hat
                  obtain ⟨a9, c9, hv9⟩ := own_slice hown'
                  subst hv9
                  clear hown' hgrow hat HG KO
                  go_wp2_with fail
                  go_roundw
                  case rel => exact ⟨t + 1, s', lst, (p : Int), by rw [HTT.out]; exact HL9, HCN, HLN, rfl, rfl, by rw [HNN.out]; first | rfl | simp | go_num, HLS', HZ', by omega⟩
                  case measure => have := HLG.out; simp; omega
end Go.Proofs.Ythmofbcjhfcokaa
