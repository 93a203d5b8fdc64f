/- The memory of (*run).ends beside its run's: what stays, the last beginning, the ways behind the byte. The body of the range over states within (*run).ends. The memory of (*run).ends with its run's. -/
import Derived.Test.YtdiokclbdaojpaaDoorNfM8
namespace Go.Proofs.YtdiokclbdaojpaaDoor
open Go Go.RowKit Go.Shelf

namespace Nt
/-- The blocks of F stay; La holds the last beginning, Th the ways behind the byte, in a row. -/
structure Mx (W : World) (O2 O : Nat → Prop) (F : List (Nat × Obj)) (La Th last : Nat) (tv : Value) (thn : List (Nat × Nat)) : Prop where
  fx : ∀ p ∈ F, W.heap[p.1]? = some p.2 ∧ O p.1 ∧ ¬ O2 p.1 ∧ p.1 ≠ La ∧ p.1 ≠ Th ∧ tv.ownBlock ≠ some p.1
  ml : W.heap[La]? = some (.cells #[.int .i64 (last : Int)] 3 (0, 0))
  ol : O La ∧ ¬ O2 La
  mt : W.heap[Th]? = some (.cells #[tv] 118 (0, 0))
  ot : O Th ∧ ¬ O2 Th
  lt : La < Th
  tn : Wy W (Th + 1) tv thn
  on : ∀ k, tv.ownBlock = some k → O k ∧ ¬ O2 k
  sub : ∀ k, O2 k → O k
  bd : ∀ k, O k → k < W.heap.size
section
variable {A B : World} {O2 O O2' : Nat → Prop} {F : List (Nat × Obj)} {La Th last : Nat} {tv tv' : Value} {thn thn' : List (Nat × Nat)}
theorem Mx.tu (h : Mx A O2 O F La Th last tv thn) (hT : Tu O2 A B) (hO : ∀ k, O2' k → (O2 k ∨ A.heap.size ≤ k) ∧ k < B.heap.size) : Mx B O2' (fun k => O k ∨ O2' k) F La Th last tv thn := by
  have sz := hT.size
  have out : ∀ k, O k → ¬ O2 k → ¬ O2' k := fun k hk hn h2 => (hO k h2).1.elim hn (fun hh => by have := h.bd k hk; omega)
  have same : ∀ k, O k → ¬ O2 k → B.heap[k]? = A.heap[k]? := fun k hk hn => hT.block k (h.bd k hk) hn
  refine ⟨fun p hp => ?_, (same La h.ol.1 h.ol.2).trans h.ml, ⟨.inl h.ol.1, out La h.ol.1 h.ol.2⟩, (same Th h.ot.1 h.ot.2).trans h.mt, ⟨.inl h.ot.1, out Th h.ot.1 h.ot.2⟩, h.lt, own_blk h.tn (fun k e => same k (h.on k e).1 (h.on k e).2), fun k e => ⟨.inl (h.on k e).1, out k (h.on k e).1 (h.on k e).2⟩, fun k hk => .inr hk, fun k hk => hk.elim (fun hk => by have := h.bd k hk; omega) (fun hk => (hO k hk).2)⟩
  obtain ⟨h1, h2, h3, h4⟩ := h.fx p hp
  exact ⟨(same p.1 h2 h3).trans h1, .inl h2, out p.1 h2 h3, h4⟩
theorem Mx.ke {Z : Nat → Prop} (h : Mx A O2 O F La Th last tv thn) (hK : Ke (fun k => O k ∨ Z k) A B) : Mx B O2 O F La Th last tv thn := by
  have sz := hK.size
  refine ⟨fun p hp => ?_, (hK.block La (.inl h.ol.1)).trans h.ml, h.ol, (hK.block Th (.inl h.ot.1)).trans h.mt, h.ot, h.lt, own_blk h.tn (fun k e => hK.block k (.inl (h.on k e).1)), h.on, h.sub, fun k hk => by have := h.bd k hk; omega⟩
  obtain ⟨h1, h2, h4⟩ := h.fx p hp
  exact ⟨(hK.block p.1 (.inl h2)).trans h1, h2, h4⟩
theorem Mx.lastS (h : Mx A O2 O F La Th last tv thn) (b : Nat) : Mx (A.setCell ⟨La, 0, none⟩ (.int .i64 (b : Int))) O2 O F La Th b tv thn := by
  have oth : ∀ k, k ≠ La → (A.setCell ⟨La, 0, none⟩ (.int .i64 (b : Int))).heap[k]? = A.heap[k]? := fun k hk => heap_setCell_other A ⟨La, 0, none⟩ k _ hk
  have sz := ((Below.refl 0 A).setCell (p := ⟨La, 0, none⟩) (Nat.zero_le _) (.int .i64 (b : Int))).size
  refine ⟨fun p hp => ?_, heap_setCell_same A La 0 _ _ _ h.ml, h.ol, (oth Th (by have := h.lt; omega)).trans h.mt, h.ot, h.lt, own_blk h.tn (fun k e => oth k (by have := (World.ownsRow.lt h.tn k e).1; have := h.lt; omega)), h.on, h.sub, fun k hk => by have := h.bd k hk; omega⟩
  obtain ⟨h1, h2, h3, h4, h5⟩ := h.fx p hp
  exact ⟨(oth p.1 h4).trans h1, h2, h3, h4, h5⟩
theorem Mx.thenS (h : Mx A O2 O F La Th last tv thn) (hg : A.grownBy B tv.ownBlock) (hw : Wy B (Th + 1) tv' thn') (hat : tv'.ownBlock = tv.ownBlock ∨ ∃ g, tv'.ownBlock = some g ∧ A.heap.size ≤ g) :
    Mx (B.setCell ⟨Th, 0, none⟩ tv') O2 (fun k => O k ∨ (A.heap.size ≤ k ∧ k < B.heap.size)) F La Th last tv' thn' := by
  have oth : ∀ k, k ≠ Th → (B.setCell ⟨Th, 0, none⟩ tv').heap[k]? = B.heap[k]? := fun k hk => heap_setCell_other B ⟨Th, 0, none⟩ k _ hk
  have sz := ((Below.refl 0 B).setCell (p := ⟨Th, 0, none⟩) (Nat.zero_le _) tv').size
  have sg := hg.size
  have same : ∀ k, O k → tv.ownBlock ≠ some k → B.heap[k]? = A.heap[k]? := fun k hk hn => hg.block k (h.bd k hk) (fun e => hn e.symm)
  have low : ∀ k, k ≤ Th → tv.ownBlock ≠ some k := fun k hk e => by have := (World.ownsRow.lt h.tn k e).1; omega
  have new2 : ∀ k, A.heap.size ≤ k → ¬ O2 k := fun k hk e => by have := h.bd k (h.sub k e); omega
  have row : ∀ k, tv'.ownBlock = some k → tv.ownBlock = some k ∨ A.heap.size ≤ k := fun k e => by
    rcases hat with h1 | ⟨g, h1, h2⟩
    · exact .inl (h1 ▸ e)
    · rw [h1] at e; cases e; exact .inr h2
  have lt := h.lt
  refine ⟨fun p hp => ?_, (oth La (by omega)).trans ((same La h.ol.1 (low La (by omega))).trans h.ml), ⟨.inl h.ol.1, h.ol.2⟩, heap_setCell_same B Th 0 _ _ _ ((same Th h.ot.1 (low Th (Nat.le_refl _))).trans h.mt), ⟨.inl h.ot.1, h.ot.2⟩, h.lt, ownsRow_setCell_below hw (Nat.lt_succ_self Th) _, fun k e => ?_, fun k hk => .inl (h.sub k hk), fun k hk => hk.elim (fun hk => by have := h.bd k hk; omega) (fun hk => by omega)⟩
  · obtain ⟨h1, h2, h3, h4, h5, h6⟩ := h.fx p hp
    refine ⟨(oth p.1 h5).trans ((same p.1 h2 h6).trans h1), .inl h2, h3, h4, h5, fun e => ?_⟩
    rcases row p.1 e with e | e
    · exact h6 e
    · have := h.bd p.1 h2; omega
  · rcases row k e with e2 | e2
    · exact ⟨.inl (h.on k e2).1, (h.on k e2).2⟩
    · exact ⟨.inr ⟨e2, (World.ownsRow.lt hw k e).2⟩, new2 k e2⟩
theorem Mx.drew (h : Mx A O2 O F La Th last tv thn) : Mx A.drew O2 O F La Th last tv thn := ⟨h.fx, h.ml, h.ol, h.mt, h.ot, h.lt, h.tn, h.on, h.sub, h.bd⟩
end
theorem Wy.form {W : World} {B : Nat} {v : Value} {l : List (Nat × Nat)} (h : Wy W B v l) : ∃ q0 q1 q2, v = .slice q0 q1 q2 := by
  obtain ⟨_, ⟨rfl, _⟩ | ⟨_, _, _, rfl, _⟩⟩ := h
  · exact ⟨_, _, _, rfl⟩
  · exact ⟨_, _, _, rfl⟩
theorem Wy.len {W : World} {B : Nat} {v : Value} {l : List (Nat × Nat)} (h : Wy W B v l) : ∃ q0 q2, v = .slice q0 l.length q2 := by
  obtain ⟨_, ⟨rfl, h0⟩ | ⟨_, _, _, rfl, _⟩⟩ := h
  · exact ⟨_, _, by rw [h0]⟩
  · exact ⟨_, _, rfl⟩
/-- The states of one way, one more. -/
theorem wayF_snoc (L : List Ins) (s : ByteArray) (a b j : Nat) (js : List Nat) (x : List (Nat × Nat) × Nat) : wayF L s a b (js ++ [j]) x = ((oneF L s a b j (wayF L s a b js x).1).1, (wayF L s a b js x).2 ++ (oneF L s a b j (wayF L s a b js x).1).2) := by
  induction js generalizing x with
  | nil => simp [wayF]
  | cons i js ih => simp only [List.cons_append, wayF, ih, List.append_assoc]
theorem wayF_app (L : List Ins) (s : ByteArray) (a b : Nat) (js ks : List Nat) (x : List (Nat × Nat) × Nat) : (wayF L s a b (js ++ ks) x).2 = (wayF L s a b js x).2 ++ (wayF L s a b ks (wayF L s a b js x).1).2 := by
  induction js generalizing x with
  | nil => simp [wayF]
  | cons i js ih => simp only [List.cons_append, wayF, ih, List.append_assoc]
theorem wayF_len (L : List Ins) (s : ByteArray) (a b : Nat) (js : List Nat) (x : List (Nat × Nat) × Nat) : (wayF L s a b js x).1.1.length ≤ x.1.length + js.length := by
  induction js generalizing x with
  | nil => simp [wayF]
  | cons i js ih =>
    simp only [wayF]
    refine Nat.le_trans (ih _) ?_
    simp only [oneF, List.length_cons]
    split
    · split
      · simp; omega
      · simp
    · simp
end Nt
end Go.Proofs.YtdiokclbdaojpaaDoor
namespace Go.Proofs.YtdiokclbdaojpaaDoor
open Go Go.RowKit Go.Shelf

attribute [local go_sem] Oper.semAt_some

namespace Nt
/-- The loop's body within a loop, the range's body. -/
noncomputable def enOL : Code := match Tryd.f66.body with | some (.seq _ (.seq _ (.seq _ (.seq _ (.block _ (.loop b)))))) => b | _ => .skip
noncomputable def enC6 : Code := match enOL with | .seq _ (.seq (.block _ b) _) => b | _ => .skip
noncomputable def enIL : Code := match enC6 with | .seq _ (.seq _ (.seq (.seq _ (.block _ (.loop b))) _)) => b | _ => .skip
noncomputable def enC11 : Code := match enIL with | .seq _ (.seq _ (.seq (.block _ b) _)) => b | _ => .skip
noncomputable def enRG : Code := match enC11 with | .seq _ (.seq _ (.seq _ (.block _ b))) => b | _ => .skip
noncomputable def enBD : Code := match enRG with | .rangeFunc _ _ _ b => b | _ => .skip
/-- What holds within the range over states: what was yielded by then, and the memory. -/
def EnI (J : (Nat → Prop) → List (Nat × Nat) → World → Prop) (L : List Ins) (s : ByteArray) (a b La Th last0 : Nat) (F : List (Nat × Obj)) (thn0 ys : List (Nat × Nat)) (O2 : Nat → Prop) (pre : List Nat) (W : World) : Prop :=
  ∃ O last tv thn, J O (ys ++ (wayF L s a b pre (thn0, last0)).2) W ∧ Mx W O2 O F La Th last tv thn ∧ (thn, last) = (wayF L s a b pre (thn0, last0)).1
def EnX (Jx : (Nat → Prop) → World → Prop) (La Th : Nat) (F : List (Nat × Obj)) (c : Code) (O2 : Nat → Prop) (W : World) : Prop :=
  c = .ret ∧ ∃ O last tv thn, Jx O W ∧ Mx W O2 O F La Th last tv thn
end Nt

set_option maxRecDepth 1000000 in
set_option maxHeartbeats 8000000 in
theorem enBD_in (n yl rb Br Y La Th At Wb : Nat) (ca : Option Addr) (cc : Nat) (L : List Nt.Ins) (s : ByteArray) (mv lv : Value) (a b iw last0 N : Nat) (J : (Nat → Prop) → List (Nat × Nat) → World → Prop) (Jx : (Nat → Prop) → World → Prop) (ALL : List (Nat × Nat))
    (hJ : Abi J)
    (hY : ∀ k O ys x W1, J O ys W1 → x.1 ≤ x.2 ∧ x.2 ≤ s.size → ys.length < N → (ys ++ [x]) <+: ALL → YieldAt Fence.wide k Tryd.prog yl #[.int .i64 (x.1 : Int), .int .i64 (x.2 : Int)] W1 fun e W' =>
      (e = .returned (.bool true) ∧ J O (ys ++ [x]) W' ∧ Ke (fun k => O k ∨ Nt.Zc ca k) W1 W') ∨ (e = .returned (.bool false) ∧ Jx O W' ∧ Ke (fun k => O k ∨ Nt.Zc ca k) W1 W'))
    (F : List (Nat × Obj)) (fr : (Br, Obj.cells #[.pointer (some ⟨rb, 0, none⟩)] 95 (0, 0)) ∈ F) (fy : (Y, Obj.cells #[.func (.yield yl) #[] #[]] 117 (0, 0)) ∈ F) (fa : (At, Obj.cells #[.int .i64 (a : Int)] 3 (0, 0)) ∈ F) (fw : (Wb, Obj.cells #[.int .i64 (iw : Int), .int .i64 (b : Int)] 120 (0, 0)) ∈ F)
    (thn0 ys : List (Nat × Nat)) (hba : b ≤ a) (has : a ≤ s.size) (hs : s.size ≤ 1048576) (hrl : rb < La)
    (l : Nat) (O2 : Nat → Prop) (pre : List Nat) (x : Nat) (W : World) (hI : Nt.EnI J L s a b La Th last0 F thn0 ys O2 pre W)
    (hR : Nt.Rn W rb (.slice ca L.length cc) s mv lv) (hC : Nt.Cds W rb ca cc L) (hx : x < L.length) (hk : (L[x]).k = 1 ∨ (L[x]).k = 12) (hlen : thn0.length + pre.length ≤ 1048576) (hyl : ys.length + (Nt.wayF L s a b pre (thn0, last0)).2.length < N) (hpf : ys ++ (Nt.wayF L s a b (pre ++ [x]) (thn0, last0)).2 <+: ALL) (u0 u1 u2 u3 u7 u10 u13 u14 u15 u16 u17 u18 u19 u20 u21 u22 u23 u24 u25 u26 u27 u28 u29 u30 u31 u32 u33 u34 u35 u36 u37 u38 u39 u40 u41 u42 u43 u44 u45 u46 u47 u48 u49 u50 u51 u52 u53 u54 u55 u56 u57 u58 u59 u60 u61 u62 u63 u64 u65 u66 u67 u68 u69 u70 u71 u72 u73 u74 u75 u76 u77 u78 u79 u80 u81 u82 u83 u84 : Value) :
    Nt.enBD.wpIn (Fence.wide.inRound l) (n - 1 - 1) Tryd.prog (postO (Nt.Zc ca) (Nt.EnI J L s a b La Th last0 F thn0 ys) (Nt.EnX Jx La Th F) O2 (pre ++ [x]) W) ⟨#[u0, u1, u2, u3, .pointer (some ⟨Br, 0, none⟩), .pointer (some ⟨Y, 0, none⟩), .pointer (some ⟨La, 0, none⟩), u7, .pointer (some ⟨Th, 0, none⟩), .pointer (some ⟨At, 0, none⟩), u10, .pointer (some ⟨Wb, 0, none⟩), .int .i64 (x : Int), u13, u14, u15, u16, u17, u18, u19, u20, u21, u22, u23, u24, u25, u26, u27, u28, u29, u30, u31, u32, u33, u34, u35, u36, u37, u38, u39, u40, u41, u42, u43, u44, u45, u46, u47, u48, u49, u50, u51, u52, u53, u54, u55, u56, u57, u58, u59, u60, u61, u62, u63, u64, u65, u66, u67, u68, u69, u70, u71, u72, u73, u74, u75, u76, u77, u78, u79, u80, u81, u82, u83, u84], []⟩ W := by
  conv => arg 4; whnf
  obtain ⟨O, last, tv, thn, hJ0, hM, hw⟩ := hI
  have hwl := Nt.wayF_len L s a b pre (thn0, last0)
  have HW : Hid (Nt.wayF L s a b (pre ++ [x]) (thn0, last0) = _) := Nt.wayF_snoc L s a b x pre (thn0, last0)
  have HE : Hid (Nt.wayF L s a b pre (thn0, last0) = ((thn, last), (Nt.wayF L s a b pre (thn0, last0)).2)) := by show _ = _; rw [hw]
  have htl : thn.length ≤ 1048576 := by rw [← hw] at hwl; simp at hwl; omega
  obtain ⟨YS, hYS⟩ : ∃ YS, YS = (Nt.wayF L s a b pre (thn0, last0)).2 := ⟨_, rfl⟩
  rw [← hYS] at hJ0 hyl HE
  obtain ⟨b1, b2, b3, b4⟩ := hM.fx _ fr
  obtain ⟨y1, y2, y3, y4⟩ := hM.fx _ fy
  obtain ⟨a1, a2, a3, a4⟩ := hM.fx _ fa
  obtain ⟨w1, w2, w3, w4⟩ := hM.fx _ fw
  have c1 : W.cell? ⟨Br, 0, none⟩ = _ := cell_of_row W Br 0 _ _ _ b1
  have c2 : W.cell? ⟨Y, 0, none⟩ = _ := cell_of_row W Y 0 _ _ _ y1
  have c3 : W.cell? ⟨At, 0, none⟩ = _ := cell_of_row W At 0 _ _ _ a1
  have c4 : W.cell? ⟨Wb, 1, none⟩ = _ := cell_of_row W Wb 1 _ _ _ w1
  have oth : ∀ k o, k ≠ La → (W.setCell ⟨La, 0, none⟩ (.int .i64 (b : Int))).cell? ⟨k, o, none⟩ = W.cell? ⟨k, o, none⟩ := fun k o hk => World.cell?_of_block (a := ⟨k, o, none⟩) (heap_setCell_other W ⟨La, 0, none⟩ k _ hk)
  have z2 := (oth Y 0 y4.1).trans c2
  have z3 := (oth At 0 a4.1).trans c3
  have z4 := (oth Wb 1 w4.1).trans c4
  clear oth
  have c5 : W.cell? ⟨La, 0, none⟩ = _ := cell_of_row W La 0 _ _ _ hM.ml
  have c6 : W.cell? ⟨Th, 0, none⟩ = _ := cell_of_row W Th 0 _ _ _ hM.mt
  have f5 : W.frozen? ⟨La, 0, none⟩ = false := frozen_of_row W La 0 _ _ hM.ml
  have f6 : W.frozen? ⟨Th, 0, none⟩ = false := frozen_of_row W Th 0 _ _ hM.mt
  obtain ⟨l0, l1, l2, l3⟩ := hR.cells
  have hcl := hC.len
  have HC : Hid _ := hC
  obtain ⟨bc, off, rfl, hb, hcell⟩ := hC.lies x hx
  have x0 : W.cell? ⟨bc, off + x * 9, none⟩ = some (.int .u8 (L[x].k : Int)) := hcell 0 (by omega)
  have HR : Hid _ := hR
  have HPf : Hid _ := hpf
  have HM : Hid _ := hM
  have HJ0 : Hid _ := hJ0
  have HJ : Hid _ := hJ
  have HY : Hid _ := hY
  have HDD : Hid (Fence.wide.depth.isSome = true → 1 ≤ n - 1 - 1) := fun h => by cases h
  simp only [List.getElem?_toArray, List.getElem?_cons_zero, List.getElem?_cons_succ] at c1 c2 c3 c4 c5 c6 z2 z3 z4
  have HGL : Hid (L.getD x Nt.iEnd = L[x]) := by show _ = _; rw [List.getD_eq_getElem?_getD, List.getElem?_eq_getElem hx]; rfl
  obtain ⟨q, hq⟩ : ∃ q, L[x] = q := ⟨_, rfl⟩
  have HQ : Hid _ := hq
  rw [hq] at x0 hk
  clear hpf hw hwl hM hJ0 hJ hY hR hC hcell hq b1 b2 b3 b4 y1 y2 y3 y4 a1 a2 a3 a4 w1 w2 w3 w4 fr fy fa fw hYS
  rcases hk with hk | hk
  · have d : ((q.k : Int) == 1) = true := by simp; omega
    have HO : Hid (Nt.oneF L s a b x (thn, last) = ((if Nt.hasAt s a q then thn ++ [(x + 1, b)] else thn, last), [])) := by
      show _ = _
      rw [Nt.oneF, HGL.out, HQ.out, hk]
      rfl
    have hov := over_any rb (Th + 1) (some ⟨bc, off, none⟩) cc L s _ _ tv thn x b a W HR.out HC.out HM.out.tn hx htl has hs (by omega) (by have := HM.out.bd Th HM.out.ot.1; omega)
    rw [HQ.out] at hov
    clear hk
    gi_wp2_with ((try refine ⟨trivial, ?_⟩); (try refine ⟨HDD.out, ?_⟩); gi_at_call 68; refine (CallsIn.inRound l ((callsIn_wide (n := n - 1 - 1 - 1)).2 hov)).mono ?_; clear hov; rintro e W5 ⟨tv5, rfl, hW5, hG5, hA5⟩; obtain ⟨q0, q1, q2, rfl⟩ := Nt.Wy.form hW5; have h6 : W5.heap[Th]? = _ := (hG5.block Th (HM.out.bd Th HM.out.ot.1) (fun h => by have := (World.ownsRow.lt HM.out.tn Th h.symm).1; omega)).trans HM.out.mt; have d6 : W5.cell? ⟨Th, 0, none⟩ = _ := cell_of_row W5 Th 0 _ _ _ h6; have e6 : W5.frozen? ⟨Th, 0, none⟩ = false := frozen_of_row W5 Th 0 _ _ h6; simp only [List.getElem?_toArray, List.getElem?_cons_zero] at d6)
    have hM5 := HM.out.thenS hG5 hW5 hA5
    have hT5 : Tu O W (W5.setCell ⟨Th, 0, none⟩ (.slice q0 q1 q2)) := (Tu.setCell ⟨hG5.os, hG5.tape, hG5.output, hG5.size, fun k hk hn => hG5.block k hk (fun e => hn (HM.out.on k e.symm).1)⟩ (fun _ => HM.out.ot.1) _)
    have sz := hT5.size
    refine ⟨⟨sz, fun k hk => ?_⟩, _, last, _, _, ?_, hM5, ?_⟩
    · have hkO : k < W.heap.size := hk.elim (fun h => HM.out.bd k (HM.out.sub k h)) (fun h => by have := Nt.zc_eq h; have := HM.out.bd La HM.out.ol.1; omega)
      have hn1 : k ≠ Th := fun e => by
        subst e
        exact hk.elim HM.out.ot.2 (fun h => by have := Nt.zc_eq h; have := HM.out.lt; omega)
      have hn2 : some k ≠ tv.ownBlock := fun e => by
        rcases hk with h | h
        · exact (HM.out.on k e.symm).2 h
        · have := (World.ownsRow.lt HM.out.tn k e.symm).1
          have := HM.out.lt
          have := Nt.zc_eq h
          omega
      exact (heap_setCell_other W5 ⟨Th, 0, none⟩ k _ hn1).trans (hG5.block k hkO hn2)
    · rw [HW.out, HE.out]
      simp only [HO.out, List.append_nil]
      exact HJ.out _ _ _ _ _ HJ0.out hT5 (fun k hk => ⟨hk.imp id (fun h => h.1), hM5.bd k hk⟩)
    · rw [HW.out, HE.out, HO.out]
  · have d : ((q.k : Int) == 1) = false := by simp; omega
    have HO : Hid (Nt.oneF L s a b x (thn, last) = ((thn, b), [(b, a)])) := by
      show _ = _
      rw [Nt.oneF, HGL.out, HQ.out, hk]
      rfl
    have hM1 := HM.out.lastS b
    have hT1 : Tu O W (W.setCell ⟨La, 0, none⟩ (.int .i64 (b : Int))) := (Tu.refl O W).setCell (fun _ => HM.out.ol.1) _
    have hJ1 := HJ.out _ O _ _ _ HJ0.out hT1 (fun k hk => ⟨.inl hk, hM1.bd k hk⟩)
    have hK1 : Ke (fun k => O2 k ∨ Nt.Zc (some ⟨bc, off, none⟩) k) W (W.setCell ⟨La, 0, none⟩ (.int .i64 (b : Int))) := ⟨hT1.size, fun k hk => heap_setCell_other W ⟨La, 0, none⟩ k _ (fun e => by
      have e2 : k = La := e
      subst e2
      exact hk.elim HM.out.ol.2 (fun h => by have := Nt.zc_eq h; omega))⟩
    obtain ⟨fn, tmps, assign, body, hy, hRo⟩ := HY.out (n - 1 - 1 - 1) O (ys ++ YS) (b, a) _ hJ1 ⟨hba, has⟩ (by simp; omega) (by
      have hq := HPf.out
      rw [HW.out, HE.out] at hq
      simp only [HO.out] at hq
      rw [← List.append_assoc] at hq
      exact hq)
    gi_wp2_with (first | ((try refine ⟨HDD.out, ?_⟩); refine hRo.mono ?_; clear hRo; rintro e W5 (⟨rfl, hJ5, hK5⟩ | ⟨rfl, hJ5, hK5⟩)))
    · refine ⟨hK1.trans (hK5.mono (fun k e => e.imp (HM.out.sub k) id)), O, b, tv, thn, ?_, hM1.ke hK5, ?_⟩
      · rw [HW.out, HE.out]
        simp only [HO.out]
        rw [← List.append_assoc]
        exact hJ5
      · rw [HW.out, HE.out, HO.out]
    · exact ⟨hK1.trans (hK5.mono (fun k e => e.imp (HM.out.sub k) id)), rfl, O, b, tv, thn, hJ5, hM1.ke hK5⟩
end Go.Proofs.YtdiokclbdaojpaaDoor
namespace Go.Proofs.YtdiokclbdaojpaaDoor
open Go Go.RowKit Go.Shelf

namespace Nt
/-- The blocks that are a run's own. -/
def Or (rb g : Nat) (lv : Value) (k : Nat) : Prop := k = rb ∨ k = g ∨ lv.ownBlock = some k
structure En (W : World) (O : Nat → Prop) (rb g : Nat) (ca : Option Addr) (cc : Nat) (L : List Ins) (s : ByteArray) (lv : Value) (m : List Nat) (F : List (Nat × Obj)) (La Th last : Nat) (tv : Value) (thn : List (Nat × Nat)) : Prop where
  mx : Mx W (Or rb g lv) O F La Th last tv thn
  rn : Rn W rb (.slice ca L.length cc) s (.slice (some ⟨g, 0, none⟩) L.length L.length) lv
  mt : Mt W g m
  lf : Lf W rb lv []
  cd : Cds W g ca cc L
  far : g < rb ∧ rb < La
section
variable {W W' : World} {O O2 O2' : Nat → Prop} {rb g : Nat} {ca : Option Addr} {cc : Nat} {L : List Ins} {s : ByteArray} {lv lv' : Value} {m m' : List Nat} {F : List (Nat × Obj)} {La Th last : Nat} {tv : Value} {thn : List (Nat × Nat)}
theorem Mx.shrink (h : Mx W O2 O F La Th last tv thn) (hs : ∀ k, O2' k → O2 k) : Mx W O2' O F La Th last tv thn := by
  refine ⟨fun p hp => ?_, h.ml, ⟨h.ol.1, fun e => h.ol.2 (hs _ e)⟩, h.mt, ⟨h.ot.1, fun e => h.ot.2 (hs _ e)⟩, h.lt, h.tn, fun k e => ⟨(h.on k e).1, fun e2 => (h.on k e).2 (hs _ e2)⟩, fun k e => h.sub k (hs k e), h.bd⟩
  obtain ⟨h1, h2, h3, h4⟩ := h.fx p hp
  exact ⟨h1, h2, fun e => h3 (hs _ e), h4⟩
theorem Mx.less (h : Mx W O2 O F La Th last tv thn) {F' : List (Nat × Obj)} (hs : ∀ p ∈ F', p ∈ F) : Mx W O2 O F' La Th last tv thn :=
  ⟨fun p hp => h.fx p (hs p hp), h.ml, h.ol, h.mt, h.ot, h.lt, h.tn, h.on, h.sub, h.bd⟩
theorem Mx.more (h : Mx W O2 O F La Th last tv thn) {k : Nat} {o : Obj} (hk : W.heap[k]? = some o) (h1 : O k) (h2 : ¬ O2 k) (h3 : k ≠ La) (h4 : k ≠ Th) (h5 : tv.ownBlock ≠ some k) : Mx W O2 O ((k, o) :: F) La Th last tv thn := by
  refine ⟨fun p hp => ?_, h.ml, h.ol, h.mt, h.ot, h.lt, h.tn, h.on, h.sub, h.bd⟩
  rcases List.mem_cons.1 hp with rfl | hp
  · exact ⟨hk, h1, h2, h3, h4, h5⟩
  · exact h.fx p hp
/-- A new box that stays. -/
theorem Mx.box (h : Mx W O2 O F La Th last tv thn) (o : Obj) : Mx (W.alloc o) O2 (fun k => O k ∨ k = W.heap.size) ((W.heap.size, o) :: F) La Th last tv thn := by
  have hT : Tu O2 W (W.alloc o) := (Tu.refl O2 W).alloc o
  have sz : (W.alloc o).heap.size = W.heap.size + 1 := by simp
  have h1 := h.tu (O2' := O2) hT (fun k hk => ⟨.inl hk, by have := h.bd k (h.sub k hk); omega⟩)
  have h2 : Mx (W.alloc o) O2 (fun k => O k ∨ k = W.heap.size) F La Th last tv thn := by
    refine ⟨fun p hp => ?_, h1.ml, ⟨.inl h.ol.1, h.ol.2⟩, h1.mt, ⟨.inl h.ot.1, h.ot.2⟩, h.lt, h1.tn, fun k e => ⟨.inl (h.on k e).1, (h.on k e).2⟩, fun k e => .inl (h.sub k e), fun k e => e.elim (fun e => by have := h.bd k e; omega) (fun e => by omega)⟩
    obtain ⟨a1, a2, a3, a4⟩ := h.fx p hp
    exact ⟨(h1.fx p hp).1, .inl a2, a3, a4⟩
  refine h2.more (World.alloc_heap_new W o) (.inr rfl) (fun e => by have := h.bd _ (h.sub _ e); omega) (by have := h.bd La h.ol.1; omega) (by have := h.bd Th h.ot.1; omega) (fun e => by have := h.bd _ (h.on _ e).1; omega)
theorem En.alloc (h : En W O rb g ca cc L s lv m F La Th last tv thn) (o : Obj) : En (W.alloc o) (fun k => O k ∨ k = W.heap.size) rb g ca cc L s lv m ((W.heap.size, o) :: F) La Th last tv thn := by
  have hT : Tu (fun _ => False) W (W.alloc o) := (Tu.refl _ W).alloc o
  have same : ∀ k, k < W.heap.size → (W.alloc o).heap[k]? = W.heap[k]? := fun k hk => hT.block k hk id
  have hr := h.rn.lt
  have hg := h.far.1
  refine ⟨h.mx.box o, (same rb hr).trans h.rn, (same g (by omega)).trans h.mt, own_blk h.lf (fun k e => same k (World.ownsRow.lt h.lf k e).2), ⟨h.cd.len, h.cd.room, h.cd.most, h.cd.nil, fun i hi => ?_⟩, h.far⟩
  obtain ⟨b, off, e, h1, h2⟩ := h.cd.lies i hi
  exact ⟨b, off, e, h1, fun j hj => (World.cell?_of_block (a := ⟨b, off + i * 9 + j, none⟩) (same b (by omega))).trans (h2 j hj)⟩
theorem En.less (h : En W O rb g ca cc L s lv m F La Th last tv thn) {F' : List (Nat × Obj)} (hs : ∀ p ∈ F', p ∈ F) : En W O rb g ca cc L s lv m F' La Th last tv thn :=
  ⟨h.mx.less hs, h.rn, h.mt, h.lf, h.cd, h.far⟩
/-- The run under way for one way's states: three boxes more. -/
theorem En.enter (h : En W O rb g ca cc L s lv m F La Th last tv thn) (iw a : Nat) (t1 t2 t3 : TypeId) :
    Sx (((W.alloc (.cells #[.pointer (some ⟨rb, 0, none⟩)] t1)).alloc (.cells #[.int .i64 (iw : Int)] t2)).alloc (.cells #[.int .i64 (a : Int)] t3)) rb g W.heap.size (W.heap.size + 1) (W.heap.size + 1 + 1) ca cc L s iw a lv [] m ∧
    Mx (((W.alloc (.cells #[.pointer (some ⟨rb, 0, none⟩)] t1)).alloc (.cells #[.int .i64 (iw : Int)] t2)).alloc (.cells #[.int .i64 (a : Int)] t3)) (Ox rb g W.heap.size (W.heap.size + 1) (W.heap.size + 1 + 1) lv) (fun k => O k ∨ Ox rb g W.heap.size (W.heap.size + 1) (W.heap.size + 1 + 1) lv k) F La Th last tv thn := by
  obtain ⟨W3, hW3⟩ : ∃ W3, W3 = ((W.alloc (.cells #[.pointer (some ⟨rb, 0, none⟩)] t1)).alloc (.cells #[.int .i64 (iw : Int)] t2)).alloc (.cells #[.int .i64 (a : Int)] t3) := ⟨_, rfl⟩
  have hT : Tu (fun _ => False) W W3 := by rw [hW3]; exact (((Tu.refl _ W).alloc _).alloc _).alloc _
  have sz : W3.heap.size = W.heap.size + 3 := by rw [hW3]; simp
  have b0 : W3.cell? ⟨W.heap.size, 0, none⟩ = some (.pointer (some ⟨rb, 0, none⟩)) := by
    rw [hW3]; exact cell_alloc_k _ (cell_alloc_k _ (cell_new_k W _ t1).1)
  have b1 : W3.cell? ⟨W.heap.size + 1, 0, none⟩ = some (.int .i64 (iw : Int)) := by
    rw [hW3]
    have := cell_alloc_k (.cells #[.int .i64 (a : Int)] t3) (cell_new_k (W.alloc (.cells #[.pointer (some ⟨rb, 0, none⟩)] t1)) (.int .i64 (iw : Int)) t2).1
    rw [World.size_alloc] at this
    exact this
  have b2 : W3.cell? ⟨W.heap.size + 1 + 1, 0, none⟩ = some (.int .i64 (a : Int)) := by
    rw [hW3]
    have := (cell_new_k ((W.alloc (.cells #[.pointer (some ⟨rb, 0, none⟩)] t1)).alloc (.cells #[.int .i64 (iw : Int)] t2)) (.int .i64 (a : Int)) t3).1
    rw [World.size_alloc, World.size_alloc] at this
    exact this
  rw [← hW3]
  have same : ∀ k, k < W.heap.size → W3.heap[k]? = W.heap[k]? := fun k hk => hT.block k hk id
  have hr := h.rn.lt
  have hg := h.far.1
  have hl : ∀ k, lv.ownBlock = some k → k < W.heap.size := fun k e => (World.ownsRow.lt h.lf k e).2
  have hS : Sx W3 rb g W.heap.size (W.heap.size + 1) (W.heap.size + 1 + 1) ca cc L s iw a lv [] m := by
    refine ⟨(same rb hr).trans h.rn, (same g (by omega)).trans h.mt, own_blk h.lf (fun k e => same k (hl k e)), ⟨h.cd.len, h.cd.room, h.cd.most, h.cd.nil, fun i hi => ?_⟩, b0, b1, b2, ⟨hg, by omega, by omega, by omega⟩, ⟨by omega, by omega, by omega⟩, ⟨fun e => by have := hl _ e; omega, fun e => by have := hl _ e; omega, fun e => by have := hl _ e; omega⟩⟩
    obtain ⟨b, off, e, h1, h2⟩ := h.cd.lies i hi
    exact ⟨b, off, e, h1, fun j hj => (World.cell?_of_block (a := ⟨b, off + i * 9 + j, none⟩) (same b (by omega))).trans (h2 j hj)⟩
  refine ⟨hS, h.mx.tu (hT.mono (fun _ _ e => e.elim)) (fun k hk => ⟨?_, hS.under k hk⟩)⟩
  rcases hk with hk | hk | hk | hk | hk | hk
  · exact .inl (.inl hk)
  · exact .inl (.inr (.inl hk))
  · exact .inr (by omega)
  · exact .inr (by omega)
  · exact .inr (by omega)
  · exact .inl (.inr (.inr hk))
/-- Behind one way's states. -/
theorem En.leave {B0 B1 B2 iw a D : Nat} {O1 : Nat → Prop} (hS : Sx W rb g B0 B1 B2 ca cc L s iw a lv [] m) (hM : Mx W O2 O F La Th last tv thn) (h1 : ∀ k, Ox rb g B0 B1 B2 lv k → O1 k) (h2 : ∀ k, O1 k → O2 k) (hD : O2 D) (hD1 : ¬ O1 D) (hDh : W.heap[D]? = some (.deferred (some []))) (hr : rb < La) :
    En W O rb g ca cc L s lv m ((D, .deferred (some [])) :: F) La Th last tv thn := by
  have hOr : ∀ k, Or rb g lv k → O1 k := by
    rintro k (e | e | e)
    · exact h1 k (.inl e)
    · exact h1 k (.inr (.inl e))
    · exact h1 k (.inr (.inr (.inr (.inr (.inr e)))))
  have hMs : Mx W (Or rb g lv) O F La Th last tv thn := hM.shrink (fun k e => h2 k (hOr k e))
  refine ⟨hMs.more hDh (hM.sub D hD) (fun e => hD1 (hOr D e)) (fun e => ?_) (fun e => ?_) (fun e => ?_), hS.rn, hS.mt, hS.lf, hS.cd, ⟨hS.far.1, hr⟩⟩
  · subst e; rw [hM.ml] at hDh; cases hDh
  · subst e; rw [hM.mt] at hDh; cases hDh
  · obtain ⟨_, ⟨rfl, _⟩ | ⟨g', cap, cur, rfl, _, h3, _⟩⟩ := hM.tn
    · cases e
    · have : g' = D := by injection e
      subst this
      rw [h3] at hDh; cases hDh
end
theorem EnI_abi {J : (Nat → Prop) → List (Nat × Nat) → World → Prop} (hJ : Abi J) {L : List Ins} {s : ByteArray} {a b La Th last0 : Nat} {F : List (Nat × Obj)} {thn0 ys : List (Nat × Nat)} : Abi (EnI J L s a b La Th last0 F thn0 ys) := by
  rintro O2 O2' pre A B ⟨O, last, tv, thn, h1, h2, h3⟩ hT hO
  have hM := h2.tu hT hO
  exact ⟨_, last, tv, thn, hJ _ _ _ _ _ h1 (hT.mono (fun k _ e => h2.sub k e)) (fun k hk => ⟨hk.elim .inl (fun e => (hO k e).1.imp (h2.sub k) id), hM.bd k hk⟩), hM, h3⟩
theorem EnX_abi {Jx : (Nat → Prop) → World → Prop} (hJ : AbiX Jx) {La Th : Nat} {F : List (Nat × Obj)} (c : Code) : AbiX (EnX Jx La Th F c) := by
  rintro O2 O2' A B ⟨hc, O, last, tv, thn, h1, h2⟩ hT hO
  have hM := h2.tu hT hO
  exact ⟨hc, _, last, tv, thn, hJ _ _ _ _ h1 (hT.mono (fun k _ e => h2.sub k e)) (fun k hk => ⟨hk.elim .inl (fun e => (hO k e).1.imp (h2.sub k) id), hM.bd k hk⟩), hM⟩
/-- How many go over a byte, and are yielded. -/
theorem wayF_both (L : List Ins) (s : ByteArray) (a b : Nat) (js : List Nat) (x : List (Nat × Nat) × Nat) : (wayF L s a b js x).1.1.length + (wayF L s a b js x).2.length ≤ x.1.length + js.length := by
  induction js generalizing x with
  | nil => simp [wayF]
  | cons i js ih =>
    simp only [wayF, List.length_append]
    have := ih (oneF L s a b i x).1
    have h2 : (oneF L s a b i x).1.1.length + (oneF L s a b i x).2.length ≤ x.1.length + 1 := by
      simp only [oneF]
      split
      · split <;> simp
      · simp
    simp only [List.length_cons]
    omega
theorem wayF_ys (L : List Ins) (s : ByteArray) (a b : Nat) (js : List Nat) (x : List (Nat × Nat) × Nat) : (wayF L s a b js x).2.length ≤ js.length := by
  induction js generalizing x with
  | nil => simp [wayF]
  | cons i js ih =>
    simp only [wayF, List.length_append]
    have := ih (oneF L s a b i x).1
    have h2 : (oneF L s a b i x).2.length ≤ 1 := by
      simp only [oneF]
      split <;> simp
    simp only [List.length_cons]
    omega
theorem stF_mlen (L : List Ins) (n a : Nat) : ∀ k l m, (stF L n a k l m).2.length = m.length := by
  intro k
  induction k with
  | zero => intro l m; rfl
  | succ k ih =>
    intro l m
    rcases List.eq_nil_or_concat l with rfl | ⟨l, i, rfl⟩
    · simp [stF_nil]
    rw [List.concat_eq_append, stF_snoc]
    split
    · exact ih l m
    · split
      · simpa using ih l (m.set i (a + 1))
      · simpa using ih (l ++ nxt (L.getD i iEnd) i a n) (m.set i (a + 1))
/-- The states that are come to, and what is left open. -/
theorem stF_len (L : List Ins) (hL : Leads L) (n a : Nat) : ∀ k l m, m.length = L.length → (∀ i ∈ l, i < L.length) → (stF L n a k l m).1.length + opn (stF L n a k l m).2 (a + 1) ≤ opn m (a + 1) := by
  intro k
  induction k with
  | zero => intro l m _ _; simp [stF]
  | succ k ih =>
    intro l m hm hl
    rcases List.eq_nil_or_concat l with rfl | ⟨l, i, rfl⟩
    · simp [stF_nil]
    rw [List.concat_eq_append] at *
    rw [stF_snoc]
    have hi : i < L.length := hl i (by simp)
    have hl2 : ∀ j ∈ l, j < L.length := fun j hj => hl j (by simp [hj])
    have him : i < m.length := by omega
    have hg : m.getD i 0 = m[i] := by rw [List.getD_eq_getElem?_getD, List.getElem?_eq_getElem him]; rfl
    split
    · exact ih l m hm hl2
    · rename_i hne
      have hset := opn_set m (a + 1) i him (by rw [← hg]; simpa using hne)
      split
      · have := ih l (m.set i (a + 1)) (by simpa using hm) hl2
        simp only [List.length_cons]
        omega
      · rename_i hk
        have := ih (l ++ nxt (L.getD i iEnd) i a n) (m.set i (a + 1)) (by simpa using hm) (fun j hj => (List.mem_append.1 hj).elim (hl2 j) (hL i hi a n (by simp at hk; exact hk.2) j))
        omega
end Nt
end Go.Proofs.YtdiokclbdaojpaaDoor
