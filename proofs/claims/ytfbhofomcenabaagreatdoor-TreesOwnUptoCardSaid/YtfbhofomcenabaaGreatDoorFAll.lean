/- What the iterator of trees.all yields. -/
import Derived.Test.YtfbhofomcenabaaGreatDoorFWalk
namespace Go.Proofs.YtfbhofomcenabaaGreatDoor
open Go Go.RowKit Go.Shelf

attribute [local go_sem] Oper.semAt_some

theorem room_of_none {F : Fence} (hd : F.depth = none) (k : Nat) : F.room k := fun d h => by rw [hd] at h; cases h
theorem RoundIn.anyDepth {F : Fence} (hd : F.depth = none) {m m' : Nat} {P : Program} {l : Nat} {f : FuncId} {tmps : Array Value} {assign body : Code} {w : World} {R : Ending → World → Prop}
    (h : RoundIn F m P l f tmps assign body w R) : RoundIn F m' P l f tmps assign body w R := ⟨h.1, fun c cs _ => h.2 c cs (room_of_none hd _)⟩
theorem YieldAt.anyDepth {F : Fence} (hd : F.depth = none) {m : Nat} (m' : Nat) {P : Program} {l : Nat} {args : Array Value} {W : World} {R : Ending → World → Prop} (h : YieldAt F m P l args W R) : YieldAt F m' P l args W R := by
  obtain ⟨fn, tmps, assign, body, hy, hR⟩ := h
  exact ⟨fn, tmps, assign, body, hy, RoundIn.anyDepth hd hR⟩

set_option maxRecDepth 100000 in
set_option maxHeartbeats 2000000 in
theorem all1_seq (n B Bt b : Nat) (Z : Nat → Prop) (T : Ft.FT) (a : Option Addr) (cap : Nat) (w : World) (hc : w.cell? ⟨Bt, 0, none⟩ = some (.pointer (some ⟨b, 0, none⟩))) (hBt : Bt < w.heap.size) (hb : Z b) (h4 : Ft.Four w b 0 T a cap) (hN : Ft.Fd w Z T a cap) (hZ : ∀ k, Z k → k < B) (hB : B ≤ w.heap.size) :
    SeqW Fence.wide n Tryz.prog 102 #[.pointer (some ⟨Bt, 0, none⟩)] Ft.Wy.enc (fun x => x.p.length ≤ 65) (Ft.WyAt B Z) Z (fun _ => False) (Ft.wkT none [] T).length (fun l => l.map Ft.Wy.it <+: Ft.wkT none [] T) (fun x => x.p.length ≤ 64) (fun xs _ _ => xs.map Ft.Wy.it = Ft.wkT none [] T) w := by
  intro yl J Jx W hT hJ _ hY hJ0
  have hK : ∀ k, k < w.heap.size → W.heap[k]? = w.heap[k]? := fun k h => hT.block k h id
  have hzw : ∀ k, Z k → k < w.heap.size := fun k h => by have := hZ k h; omega
  have hcW : W.cell? ⟨Bt, 0, none⟩ = some (.pointer (some ⟨b, 0, none⟩)) := (World.cell?_of_block (hK Bt hBt)).trans hc
  have hX : Ft.WyAt B Z ⟨[], none, 0, none, none, T, b, 0, a, cap⟩ (fun _ => False) W :=
    ⟨World.ownsRow_nil _ _ _ _, fun k e => (by cases e), .inl ⟨rfl, rfl⟩, hb, h4.same (hK b (hzw b hb)), hN.same (fun k e => hK k (hzw k e)) (fun _ e => e)⟩
  have hW : Ft.WkY yl B Z J Jx (Ft.wkT none [] T) := by
    intro m O pre x W1 hj hx h65 hp
    refine YieldAt.mono (YieldAt.anyDepth rfl m (hY O pre x W1 hj hx h65 ?_ hp)) ?_
    · have := List.IsPrefix.length_le hp
      simp at this
      omega
    · rintro e W' (⟨he, hj, hk, hg⟩ | ⟨he, hj, _⟩)
      · exact .inl ⟨he, hj, hk, hg⟩
      · exact .inr ⟨he, hj⟩
  have hw := twalk_in yl B Z J Jx _ hJ hW T (n - 1) [] none 0 none none b 0 a cap (fun _ => False) [] W hJ0 hX (by simp) (fun _ h => h.elim) hZ (by have := hT.size; omega) (by simp)
  simp only [List.length_nil] at hw
  have HDD : Fence.wide.depth.isSome = true → 1 ≤ n := fun h => by cases h
  clear hY hJ0 hX hW hJ hT hK hc h4 hN
  refine callsIn_of_wp Tryz.func102 rfl trivial ?_ rfl
  simp only [Tryz.ntmps102, List.size_toArray, List.length_cons, List.length_nil, Nat.reduceAdd, Nat.reduceSub, Array.replicate_succ, Array.replicate_zero, List.push_toArray, List.append_toArray, List.nil_append, List.cons_append]
  gi_wp2_with ((refine ⟨trivial, HDD, ?_⟩; refine hw.mono ?_; clear hw; rintro e W2 (⟨rfl, hk⟩ | ⟨rfl, hx⟩)))
  · refine bodyPost_end (results_none rfl _ _ _) rfl ?_
    obtain ⟨L, O', h1, h2, _⟩ := hk
    exact ⟨⟨_, rfl⟩, .inl ⟨L, O', h1, h2⟩⟩
  · refine bodyPost_end (results_none rfl _ _ _) rfl ?_
    exact ⟨⟨_, rfl⟩, .inr hx⟩
end Go.Proofs.YtfbhofomcenabaaGreatDoor
