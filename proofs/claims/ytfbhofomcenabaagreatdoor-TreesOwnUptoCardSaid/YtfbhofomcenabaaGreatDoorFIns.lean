/- What the iterator of trees.inside yields: each file below a tree, with its path. -/
import Derived.Test.YtfbhofomcenabaaGreatDoorTI
namespace Go.Proofs.YtfbhofomcenabaaGreatDoor
open Go Go.RowKit Go.Shelf

attribute [local go_sem] Oper.semAt_some

namespace Ft
/-- Is it below the root? -/
def inB (y : It) : Bool := decide (y.1.length ≠ 0)
/-- What is yielded: the path, and the file. -/
def Wy.two (x : Wy) : Array Value := #[.slice x.ap x.p.length x.cp, .pointer (some ⟨x.b, x.o, none⟩)]
/-- What the outer may keep, with the iterator's two boxes. -/
def OO (n : Nat) (O : Nat → Prop) (k : Nat) : Prop := O k ∨ k = n ∨ k = n + 1
def InI (n yl : Nat) (J : (Nat → Prop) → List Wy → World → Prop) (O : Nat → Prop) (pre : List Wy) (V : World) : Prop :=
  J (OO n O) (pre.filter (fun x => inB x.it)) V ∧ V.heap[n]? = some (.cells #[.func (.yield yl) #[] #[]] 121 (0, 0)) ∧ n + 2 ≤ V.heap.size ∧ ∀ k, O k → n + 2 ≤ k ∧ k < V.heap.size
def InX (n : Nat) (Jx : (Nat → Prop) → World → Prop) (c : Code) (O : Nat → Prop) (V : World) : Prop :=
  c = .ret ∧ Jx (OO n O) V ∧ n + 2 ≤ V.heap.size ∧ ∀ k, O k → n + 2 ≤ k ∧ k < V.heap.size
theorem in_abi (n yl : Nat) {J : (Nat → Prop) → List Wy → World → Prop} (hJ : Abi J) : Abi (InI n yl J) := by
  rintro O O' pre A B ⟨h1, h2, h3, h4⟩ hT hO
  have hs := hT.size
  refine ⟨hJ _ _ _ A B h1 (hT.mono (fun k _ h => .inl h)) (fun k h => ?_), (hT.block n (by omega) (fun e => by have := h4 n e; omega)).trans h2, by omega, fun k h => ⟨(hO k h).1.elim (fun e => (h4 k e).1) (fun e => by omega), (hO k h).2⟩⟩
  rcases h with h | h
  · exact ⟨(hO k h).1.imp .inl id, (hO k h).2⟩
  · exact ⟨.inl (.inr h), by omega⟩
theorem in_abiX (n : Nat) {Jx : (Nat → Prop) → World → Prop} (hJ : AbiX Jx) (c : Code) : AbiX (InX n Jx c) := by
  rintro O O' A B ⟨h0, h1, h3, h4⟩ hT hO
  have hs := hT.size
  refine ⟨h0, hJ _ _ A B h1 (hT.mono (fun k _ h => .inl h)) (fun k h => ?_), by omega, fun k h => ⟨(hO k h).1.elim (fun e => (h4 k e).1) (fun e => by omega), (hO k h).2⟩⟩
  rcases h with h | h
  · exact ⟨(hO k h).1.imp .inl id, (hO k h).2⟩
  · exact ⟨.inl (.inr h), by omega⟩
theorem ins_map (l : List Wy) : (l.filter (fun x => inB x.it)).map Wy.it = (l.map Wy.it).filter inB := by
  rw [List.filter_map]; rfl
end Ft

set_option maxRecDepth 100000 in
theorem tinside_in (F : Fence) (n : Nat) (hf : F.fn 35) (hro : F.round = none) (ad : Addr) (w : World) :
    CallsIn F n Tryz.prog 35 #[.pointer (some ad)] w fun e w' => e = .returned (.func (.func 71) #[] #[.pointer (some ⟨w.heap.size, 0, none⟩)]) ∧ w' = w.alloc (.cells #[.pointer (some ad)] 69) := by
  refine callsIn_of_wp Tryz.func35 rfl hf ?_ hro
  simp only [Tryz.ntmps35, List.size_toArray, List.length_cons, List.length_nil, Nat.reduceAdd, Nat.reduceSub, Array.replicate_succ, Array.replicate_zero, List.push_toArray, List.append_toArray, List.nil_append, List.cons_append]
  gi_wp2
  go_ret
  exact ⟨rfl, rfl⟩

set_option maxRecDepth 100000 in
set_option maxHeartbeats 4000000 in
theorem inside1_seq (n B Bt b : Nat) (Z : Nat → Prop) (T : Ft.FT) (a : Option Addr) (cap : Nat) (w : World) (hn : 3 ≤ n) (hc : w.cell? ⟨Bt, 0, none⟩ = some (.pointer (some ⟨b, 0, none⟩))) (hBt : Bt < w.heap.size) (hb : Z b) (h4 : Ft.Four w b 0 T a cap) (hN : Ft.Fd w Z T a cap) (hZ : ∀ k, Z k → k < B) (hB : B ≤ w.heap.size) :
    SeqW Fence.wide n Tryz.prog 71 #[.pointer (some ⟨Bt, 0, none⟩)] Ft.Wy.two (fun x => x.p.length ≤ 65 ∧ x.p.length ≠ 0) (Ft.WyAt B Z) Z (fun _ => False) (Ft.wkT none [] T).length (fun l => l.map Ft.Wy.it <+: (Ft.wkT none [] T).filter Ft.inB) (fun x => x.p.length ≤ 64) (fun xs _ _ => xs.map Ft.Wy.it = (Ft.wkT none [] T).filter Ft.inB) w := by
  intro yl J Jx W hT hJ hJx hY hJ0
  have hK : ∀ k, k < w.heap.size → W.heap[k]? = w.heap[k]? := fun k h => hT.block k h id
  have hzw : ∀ k, Z k → k < w.heap.size := fun k h => by have := hZ k h; omega
  have hsW := hT.size
  obtain ⟨W1, hW1⟩ : ∃ W1, W1 = W.alloc (.cells #[.func (.yield yl) #[] #[]] 121) := ⟨_, rfl⟩
  have hcW : (W.alloc (.cells #[.func (.yield yl) #[] #[]] 121)).cell? ⟨Bt, 0, none⟩ = some (.pointer (some ⟨b, 0, none⟩)) := (((Below.refl W.heap.size W).alloc (Nat.le_refl _) _).cell (p := ⟨Bt, 0, none⟩) (by simp; omega)).trans ((World.cell?_of_block (hK Bt hBt)).trans hc)
  obtain ⟨W0, hW0⟩ : ∃ W0, W0 = (W.alloc (.cells #[.func (.yield yl) #[] #[]] 121)).alloc (.cells #[.pointer (some ⟨b, 0, none⟩)] 69) := ⟨_, rfl⟩
  have hT0 : Tu (fun _ => False) W W0 := by rw [hW0]; exact ((Tu.refl _ W).alloc _).alloc _
  have hs0 : W0.heap.size = W.heap.size + 2 := by rw [hW0]; simp
  have g1 : W0.heap[W.heap.size]? = some (.cells #[.func (.yield yl) #[] #[]] 121 (0, 0)) := by
    rw [hW0]; exact (Below.heap_alloc _ _ _ (by simp)).trans (heap_alloc_new W _)
  have g2 : W0.cell? ⟨W.heap.size + 1, 0, none⟩ = some (.pointer (some ⟨b, 0, none⟩)) := by
    rw [hW0]
    have h := heap_alloc_new (W.alloc (.cells #[.func (.yield yl) #[] #[]] 121)) (.cells #[.pointer (some ⟨b, 0, none⟩)] 69)
    simp only [World.size_alloc] at h
    simp only [World.cell?]
    rw [h]; rfl
  have hK0 : ∀ k, k < w.heap.size → W0.heap[k]? = w.heap[k]? := fun k h => (hT0.block k (by omega) id).trans (hK k h)
  have hSq := all1_seq (n - 1) B (W.heap.size + 1) b Z T a cap W0 g2 (by omega) hb (h4.same (hK0 b (hzw b hb))) (hN.same (fun k e => hK0 k (hzw k e)) (fun _ e => e)) hZ (by omega)
  have HDD : Fence.wide.depth.isSome = true → 1 ≤ n := fun h => by cases h
  have hJ1 : J (Ft.OO W.heap.size (fun _ => False)) [] W0 := hJ _ _ _ W W0 hJ0 (hT0.mono (fun _ _ e => e)) (fun k h => by rcases h with h | h; exact h.elim; exact ⟨.inr (by omega), by omega⟩)
  have HW0 : Hid (W0 = (W.alloc (.cells #[.func (.yield yl) #[] #[]] 121)).alloc (.cells #[.pointer (some ⟨b, 0, none⟩)] 69)) := hW0
  clear hW0 hW1 hJ0 hK hK0 hc h4 hN
  refine callsIn_of_wp_marks Tryz.func71 rfl trivial ?_ rfl
  simp only [Tryz.ntmps71, List.size_toArray, List.length_cons, List.length_nil, Nat.reduceAdd, Nat.reduceSub, Array.replicate_succ, Array.replicate_zero, List.push_toArray, List.append_toArray, List.nil_append, List.cons_append]
  gi_wp2_with (refine ⟨trivial, HDD, ?_⟩; refine (tall_in Fence.wide (n - 1) trivial rfl _ _).mono ?_; rintro e w' ⟨rfl, rfl⟩)
  rw [← HW0.out]
  refine wpIn_rangeW rfl (by omega) (gf := 102) (lb := #[.pointer (some ⟨W.heap.size + 1, 0, none⟩)]) rfl trivial (enters_of Tryz.func102 (by kernel_rfl) rfl)
    hSq (fun _ h => h.elim) (fun k h => by have := hZ k h; omega) (fun _ _ _ _ h _ => h) (fun x O A C h hk => h.kept hk) (fun _ => rfl)
    (Ft.InI W.heap.size yl J) (Ft.InX W.heap.size Jx) (Ft.in_abi _ _ hJ) (fun c => Ft.in_abiX _ hJx c) ?init
    (fun g x W => W.heap[g]? = some (.cells #[.slice x.ap x.p.length x.cp, .pointer x.pv] 119 (0, 0))) (fun g x A C h e => e.trans h)
    (fun x g => { tmps := #[.func (.yield yl) #[] #[], .pointer (some ⟨Bt, 0, none⟩), .pointer (some ⟨W.heap.size, 0, none⟩), .pointer (some ⟨g, 0, none⟩), .pointer (some ⟨x.b, x.o, none⟩), .pointer (some ⟨b, 0, none⟩), .func (.func 102) #[] #[.pointer (some ⟨W.heap.size + 1, 0, none⟩)], .agg #[.slice x.ap x.p.length x.cp, .pointer x.pv], .pointer (some ⟨x.b, x.o, none⟩), undef, undef, undef, undef, undef, undef, undef, undef, undef, undef, undef, undef], defers := [] }) ?assign ?body ?done ?stop
  case init =>
    intro O V hT1 hO
    have hs1 := hT1.size
    have hOk : ∀ k, O k → W.heap.size + 2 ≤ k ∧ k < V.heap.size := fun k h => ⟨(hO k h).1.elim (fun e => e.elim) (fun e => by omega), (hO k h).2⟩
    refine ⟨hJ _ _ _ W0 V hJ1 (hT1.mono (fun _ _ e => e.elim)) (fun k h => ?_), (hT1.block _ (by omega) id).trans g1, by omega, hOk⟩
    rcases h with h | h
    · have := hOk k h
      exact ⟨.inr (by omega), by omega⟩
    · exact ⟨.inl (.inr h), by omega⟩
  case assign =>
    intro l x V K hK
    simp only [Ft.Wy.enc]
    gi_wp2
    exact hK _ ((Tu.refl _ V).alloc _) (heap_alloc_new V _)
  case body =>
    rintro l O pre x g V hM ⟨hj, hb1, hs, hO⟩ ⟨O1, hU, hO1⟩ h65 hlen hPf
    have c0 : V.cell? ⟨g, 0, none⟩ = some (.slice x.ap x.p.length x.cp) := by simp only [World.cell?, hM]; rfl
    have y0 : V.cell? ⟨W.heap.size, 0, none⟩ = some (.func (.yield yl) #[] #[]) := by simp only [World.cell?, hb1]; rfl
    by_cases h0 : x.p.length = 0
    · have e0 : ¬ (0 : Int) < (x.p.length : Int) := by omega
      have e0' : decide ((0 : Int) < (x.p.length : Int)) = false := decide_eq_false e0
      have HE : Hid (Ft.InI W.heap.size yl J O (pre ++ [x]) V) := by
        refine ⟨?_, hb1, hs, hO⟩
        have e : (pre ++ [x]).filter (fun x => Ft.inB x.it) = pre.filter (fun x => Ft.inB x.it) := by
          have e0 : x.p = [] := List.eq_nil_of_length_eq_zero h0
          rw [List.filter_append]
          simp [Ft.inB, Ft.Wy.it, e0]
        rw [e]; exact hj
      clear hj hb1 hs hO hU hPf
      gi_wp2
      refine ⟨fun f h => (by cases h), ?_⟩
      gi_wp2
      exact ⟨Ke.refl _ _, HE.out, by omega⟩
    · have e0 : (0 : Int) < (x.p.length : Int) := by omega
      have e0' : decide ((0 : Int) < (x.p.length : Int)) = true := decide_eq_true e0
      have hfe : (pre ++ [x]).filter (fun x => Ft.inB x.it) = pre.filter (fun x => Ft.inB x.it) ++ [x] := by
        have e0 : x.p ≠ [] := fun e => h0 (by rw [e]; rfl)
        rw [List.filter_append]
        simp [Ft.inB, Ft.Wy.it, e0]
      have hyx := hY (Ft.OO W.heap.size O) (pre.filter (fun x => Ft.inB x.it)) x V hj (hU.more (fun k h => .inl (hO1 k h))) ⟨h65, h0⟩ (by
        have := List.length_filter_le (fun x => Ft.inB x.it) pre
        omega) (by
        show List.map _ _ <+: _
        rw [← hfe, Ft.ins_map]
        exact hPf.filter _)
      obtain ⟨fn, tmps, assign, body, hy, hRo⟩ := YieldAt.anyDepth rfl (n - 1 - 1 - 1) hyx
      simp only [Ft.Wy.two] at hy
      have HFe : Hid _ := hfe
      have HOk : Hid _ := hO
      have HB1 : Hid _ := hb1
      clear hyx hfe hj hb1 hO hU hPf hY hJ hJx hSq hJ1
      gi_wp2
      refine ⟨fun h => (by cases h), ?_⟩
      refine hRo.mono ?_
      clear hRo
      rintro e W5 (⟨rfl, hJ5, hK5, hg5⟩ | ⟨rfl, hJ5, hK5⟩)
      · gi_wp2
        have hs5 := hK5.size
        refine ⟨hK5.mono (fun k e => e.imp .inl id), ⟨by rw [HFe.out]; exact hJ5, (hK5.block _ (.inl (.inr (.inl rfl)))).trans HB1.out, by omega, fun k h => ⟨(HOk.out k h).1, by have := (HOk.out k h).2; omega⟩⟩, hg5⟩
      · gi_wp2
        have hs5 := hK5.size
        exact ⟨hK5.mono (fun k e => e.imp .inl id), rfl, hJ5, by omega, fun k h => ⟨(HOk.out k h).1, by have := (HOk.out k h).2; omega⟩⟩
  case done =>
    rintro D O O' ys V hD hys hOD' _ _ ⟨hj, _, hs, hO⟩ hK
    have HJ : Hid _ := hJ
    have HJ2 : Hid _ := hj
    have HYs : Hid _ := hys
    have HOk : Hid _ := hO
    clear hj hys hO hY hJ hJx hSq hJ1
    gi_wp2
    refine ⟨by simp, .inl ⟨_, _, rfl, run_takeDeferred hK, ?_⟩⟩
    have hTD : Tu (Ft.OO W.heap.size O') V (V.putObj D (.deferred none)) := (Tu.refl _ V).put (fun _ => .inl hOD') _
    have hJD := HJ.out _ (Ft.OO W.heap.size O') _ V _ HJ2.out hTD (fun k h => ⟨.inl h, by have := hTD.size; rcases h with h | h; have := (HOk.out k h).2; omega; omega⟩)
    exact ⟨.tuple #[], by simp [results, Tryz.f71, go_sem], ⟨_, rfl⟩, .inl ⟨_, _, by rw [Ft.ins_map, HYs.out], hJD⟩⟩
  case stop =>
    rintro D O' c V hD hOD ⟨rfl, hj, hs, hO⟩ hK
    have HJ : Hid _ := hJx
    have HJ2 : Hid _ := hj
    have HOk : Hid _ := hO
    clear hj hO hY hJ hJx hSq hJ1
    gi_wp2
    refine ⟨by simp, .inl ⟨_, _, rfl, run_takeDeferred hK, ?_⟩⟩
    have hTD : Tu (Ft.OO W.heap.size O') V (V.putObj D (.deferred none)) := (Tu.refl _ V).put (fun _ => .inl hOD) _
    have hJD := HJ.out _ (Ft.OO W.heap.size O') V _ HJ2.out hTD (fun k h => ⟨.inl h, by have := hTD.size; rcases h with h | h; have := (HOk.out k h).2; omega; omega⟩)
    exact ⟨.tuple #[], by simp [results, Tryz.f71, go_sem], ⟨_, rfl⟩, .inr ⟨_, hJD⟩⟩
end Go.Proofs.YtfbhofomcenabaaGreatDoor
