/- What posix.nodes hands back: each node of a tree, in order. -/
import Derived.Test.YtdiokclbdaojpaaDoorNfM1
namespace Go.Proofs.YtdiokclbdaojpaaDoor
open Go.RowKit Go.Shelf

attribute [local go_sem] Oper.semAt_some

theorem cell_of_box_k {W : World} {B : Nat} {v : Value} {t : TypeId} (h : W.heap[B]? = some (.cells #[v] t (0, 0))) : W.cell? ⟨B, 0, none⟩ = some v ∧ W.frozen? ⟨B, 0, none⟩ = false := by
  constructor <;> simp [World.cell?, World.frozen?, h]
theorem cell_new_k (W : World) (v : Value) (t : TypeId) : (W.alloc (.cells #[v] t)).cell? ⟨W.heap.size, 0, none⟩ = some v ∧ (W.alloc (.cells #[v] t)).frozen? ⟨W.heap.size, 0, none⟩ = false :=
  cell_of_box_k (World.alloc_heap_new W _)
theorem cell_alloc_k {W : World} {a : Addr} {v : Value} (o : Obj) (h : W.cell? a = some v) : (W.alloc o).cell? a = some v := cell_kept h (World.grownBy_alloc W o none) (fun r e => by cases e)
theorem frozen_alloc_k {W : World} {a : Addr} {v : Value} (o : Obj) (h : W.cell? a = some v) (hf : W.frozen? a = false) : (W.alloc o).frozen? a = false := (frozen_kept h (World.grownBy_alloc W o none) (fun r e => by cases e)).trans hf

set_option maxHeartbeats 1000000 in
theorem nodes_in (F : Fence) (n : Nat) (hf : F.fn 48) (hro : F.round = none) (p0 : Option Addr) (w : World) :
    CallsIn F n Tryd.prog 48 #[.pointer p0] w fun e w' => e = .returned (.func (.func 70) #[] #[.pointer (some ⟨w.heap.size, 0, none⟩)]) ∧ w' = w.alloc (.cells #[.pointer p0] 69) := by
  refine callsIn_of_wp Tryd.func48 rfl hf ?_ hro
  simp only [Tryd.ntmps48, List.size_toArray, List.length_cons, List.length_nil, Nat.reduceAdd, Nat.reduceSub, Array.replicate_succ, Array.replicate_zero, List.push_toArray, List.append_toArray, List.nil_append, List.cons_append]
  gi_wp2
  go_ret
  exact ⟨rfl, rfl⟩

set_option maxHeartbeats 1000000 in
theorem nodes1_in (F : Fence) (hd : F.depth = none) (n : Nat) (hf : F.fn 70) (hf2 : F.fn 71) (hro : F.round = none) (l Bt B b off : Nat) (T : Nt.NT) (a : Option Addr) (cap : Nat) (w : World) (J Jx : List (Nt.Sp w B) → World → Prop)
    (hY : ∀ pre x W, J pre W → pre.length < Nt.cnt T → YieldAt F (n - 1) Tryd.prog l (Nt.spE x) W fun e W' =>
      (e = .returned (.bool true) ∧ J (pre ++ [x]) W' ∧ Below B W W') ∨ (e = .returned (.bool false) ∧ Jx (pre ++ [x]) W'))
    (W : World) (hBt : W.cell? ⟨Bt, 0, none⟩ = some (.pointer (some ⟨b, off, none⟩))) (hb : b < B) (h9 : Nt.Nine w b off T a cap) (hN : Nt.Nd w (· < B) T a cap) (hBW : Below B w W) (h0 : J [] W) :
    CallsIn F n Tryd.prog 70 #[.func (.yield l) #[] #[], .pointer (some ⟨Bt, 0, none⟩)] W fun e W' => (∃ v, e = .returned v) ∧
      ((∃ ys : List (Nt.Sp w B), ys.map Nt.spk = Nt.kinds T ∧ J ys W') ∨ (∃ pre : List (Nt.Sp w B), pre.map Nt.spk <+: Nt.kinds T ∧ Jx pre W')) := by
  have hdd : ∀ k : Nat, (F.depth.isSome = true → 1 ≤ k) := fun k h => by rw [hd] at h; cases h
  have hp := walk_in F hd hf2 hro l B (Nt.cnt T) w J Jx (fun m pre x W hj hl => YieldAt.anyDepth hd m (hY pre x W hj hl)) T (n - 1) b off a cap [] W hb h9 hN hBW h0 (by simp)
  refine callsIn_of_wp Tryd.func70 rfl hf ?_ hro
  simp only [Tryd.ntmps70, List.size_toArray, List.length_cons, List.length_nil, Nat.reduceAdd, Nat.reduceSub, Array.replicate_succ, Array.replicate_zero, List.push_toArray, List.append_toArray, List.nil_append, List.cons_append]
  gi_wp2_with ((try refine ⟨hdd _, ?_⟩); gi_at_call 71; refine hp.mono ?_; clear hp; rintro e W1 (⟨rfl, ⟨L, hL, hJ1⟩, _⟩ | ⟨rfl, L, hL, hx⟩))
  · go_end0
    exact ⟨⟨_, rfl⟩, .inl ⟨L, hL, by simpa using hJ1⟩⟩
  · go_end0
    exact ⟨⟨_, rfl⟩, .inr ⟨L, hL, by simpa using hx⟩⟩

theorem nodes_stops (F : Fence) (hd : F.depth = none) (n : Nat) (hf : F.fn 70) (hf2 : F.fn 71) (hro : F.round = none) (Bt B b off : Nat) (T : Nt.NT) (a : Option Addr) (cap : Nat) (w : World) (hBt : Bt < w.heap.size) (hB : B ≤ w.heap.size)
    (hc : w.cell? ⟨Bt, 0, none⟩ = some (.pointer (some ⟨b, off, none⟩))) (hb : b < B) (h9 : Nt.Nine w b off T a cap) (hN : Nt.Nd w (· < B) T a cap) :
    SeqStopsK F n Tryd.prog 70 #[.pointer (some ⟨Bt, 0, none⟩)] (Nt.spE (w := w) (B := B)) (Below B) (fun ys => ys.map Nt.spk = Nt.kinds T) (fun pre => pre.map Nt.spk <+: Nt.kinds T) (Nt.cnt T) w := fun l J Jx W hW _ _ hY h0 =>
  nodes1_in F hd n hf hf2 hro l Bt B b off T a cap w J Jx hY W ((hW.cell (p := ⟨Bt, 0, none⟩) hBt).trans hc) hb h9 hN (hW.mono hB) h0
end Go.Proofs.YtdiokclbdaojpaaDoor
