/- A space behind a store; what a call leaves. -/
import Derived.Test.YtngmaijfahjfcaaSpQ
import Derived.Deep.RegionWith
namespace Go.Proofs.Ytngmaijfahjfcaa
open Go.RowKit

theorem bcell {W w1 : World} (hb : Below W.heap.size W w1) : (∀ b o, b < W.heap.size → w1.cell? ⟨b, o, none⟩ = W.cell? ⟨b, o, none⟩) ∧ (∀ b o, b < W.heap.size → w1.frozen? ⟨b, o, none⟩ = W.frozen? ⟨b, o, none⟩) :=
  ⟨fun b o h => hb.cell (p := ⟨b, o, none⟩) h, fun b o h => hb.frozen (p := ⟨b, o, none⟩) h⟩
/-- What a call leaves: the space s, in blocks that were its own or are new; of the others none has turned. -/
def Aft (W : World) (S : Nat → Prop) (g : Nat) (s : Sc.St) (quota : Nat) (w : World) : Prop := ∃ S', Sp w S' g s quota ∧ Tu S W w ∧ ∀ k, S' k → S k ∨ W.heap.size ≤ k
theorem Aft.keep {W w : World} {S : Nat → Prop} {g : Nat} {s : Sc.St} {quota : Nat} (h : Sp W S g s quota) (ht : Tu (fun _ => False) W w) : Aft W S g s quota w := by
  obtain ⟨pv, hv, qv, h⟩ := h
  exact ⟨S, ⟨pv, hv, qv, h.tu ht (fun _ _ e => e)⟩, ht.mono (fun _ _ e => e.elim), fun k hk => .inl hk⟩
theorem Aft.before {V W w : World} {S : Nat → Prop} {g : Nat} {s : Sc.St} {quota : Nat} (h : Aft W S g s quota w) (ht : Tu (fun _ => False) V W) : Aft V S g s quota w := by
  obtain ⟨S', h1, h2, h3⟩ := h
  exact ⟨S', h1, (ht.mono (fun _ _ e => e.elim)).trans h2 (fun _ _ e => e), fun k hk => by
    have := ht.size
    rcases h3 k hk with q | q
    · exact .inl q
    · exact .inr (by omega)⟩
/-- The box in which a closure has the texts that it was handed. -/
def Bx (w : World) (g : Nat) (w1 : World) : Prop := ∃ n, w1 = (w.alloc (.cells #[.pointer (some ⟨g, 0, none⟩)] 71)).drewN n
theorem Bx.tu {w w1 : World} {g : Nat} (h : Bx w g w1) : Tu (fun _ => False) w w1 := by
  obtain ⟨n, rfl⟩ := h
  exact ((Tu.refl _ w).alloc _).trans (tu_drewN _ n) (fun _ _ e => e)
theorem Bx.at {w w1 : World} {g : Nat} (h : Bx w g w1) : w1.heap[w.heap.size]? = some (.cells #[.pointer (some ⟨g, 0, none⟩)] 71) := by
  obtain ⟨n, rfl⟩ := h
  exact heap_alloc_new w _
theorem row_set {w : World} {g : Nat} {cs : Array Value} {t : TypeId} {fr : Nat × Nat} (h : w.heap[g]? = some (.cells cs t fr)) (j : Nat) (v : Value) : (w.setCell ⟨g, j, none⟩ v).heap[g]? = some (.cells (cs.setIfInBounds j v) t fr) := by
  simp only [World.setCell, Array.getElem?_modify, if_true, h, Option.map_some]
  rfl
/-- Another pattern space is stored, and nothing but the first one's block has turned before. -/
theorem SpV.setP {W w1 : World} {S : Nat → Prop} {g : Nat} {s : Sc.St} {quota : Nat} {pv hv qv v : Value} {l : List UInt8} (h : SpV W S g s quota pv hv qv) (ht : Tu (fun k => blk pv = some k) W w1) (hl : Byt w1 v l) (hb : ∀ b, blk v = some b → blk pv = some b ∨ W.heap.size ≤ b) (hu : (Sc.St.mk l s.h s.q).used ≤ quota) :
    Aft W S g ⟨l, s.h, s.q⟩ quota (w1.setCell ⟨g, 0, none⟩ v) := by
  have hg : w1.heap[g]? = _ := (ht.block g h.gl (fun e => (h.pS g e).2 rfl)).trans h.cell
  have hgl := h.gl
  have hsz := ht.size
  have hp : ∀ b, b ≠ g → (w1.setCell ⟨g, 0, none⟩ v).heap[b]? = w1.heap[b]? := fun b e => heap_setCell_other w1 _ b v e
  refine ⟨fun k => S k ∨ (W.heap.size ≤ k ∧ blk v = some k), ⟨v, hv, qv, ?_⟩, ?_, ?_⟩
  · refine ⟨by rw [row_set hg]; rfl, hl.keep (fun b e => hp b ?_), ?_, ?_, .inl h.gS, fun b e => ?_, fun b e => ?_, fun b e => ?_, hu, h.quo⟩
    · rcases hb b e with q | q
      · exact (h.pS b q).2
      · omega
    · refine (h.h.keep (fun b e => ht.block b (h.h.lt e) (h.hS b e).2.2)).keep (fun b e => hp b (h.hS b e).2.1)
    · refine own_keep (own_keep h.q (fun b e => ht.block b (own_lt h.q e) (h.qS b e).2.2.1)) (fun b e => hp b (h.qS b e).2.1)
    · rcases hb b e with q | q
      · exact ⟨.inl (h.pS b q).1, (h.pS b q).2⟩
      · exact ⟨.inr ⟨q, e⟩, by omega⟩
    · refine ⟨.inl (h.hS b e).1, (h.hS b e).2.1, fun e' => ?_⟩
      rcases hb b e' with q | q
      · exact (h.hS b e).2.2 q
      · have := h.h.lt e; omega
    · refine ⟨.inl (h.qS b e).1, (h.qS b e).2.1, fun e' => ?_, (h.qS b e).2.2.2⟩
      rcases hb b e' with q | q
      · exact (h.qS b e).2.2.1 q
      · have := own_lt h.q e; omega
  · exact (ht.mono (fun k _ e => (h.pS k e).1)).setCell (fun _ => h.gS) v
  · rintro k (q | q)
    · exact .inl q
    · exact .inr q.1
/-- Another hold space is stored. -/
theorem SpV.setH {W w1 : World} {S : Nat → Prop} {g : Nat} {s : Sc.St} {quota : Nat} {pv hv qv v : Value} {l : List UInt8} (h : SpV W S g s quota pv hv qv) (ht : Tu (fun k => blk hv = some k) W w1) (hl : Byt w1 v l) (hb : ∀ b, blk v = some b → blk hv = some b ∨ W.heap.size ≤ b) (hu : (Sc.St.mk s.p l s.q).used ≤ quota) :
    Aft W S g ⟨s.p, l, s.q⟩ quota (w1.setCell ⟨g, 1, none⟩ v) := by
  have hg : w1.heap[g]? = _ := (ht.block g h.gl (fun e => (h.hS g e).2.1 rfl)).trans h.cell
  have hgl := h.gl
  have hsz := ht.size
  have hp : ∀ b, b ≠ g → (w1.setCell ⟨g, 1, none⟩ v).heap[b]? = w1.heap[b]? := fun b e => heap_setCell_other w1 _ b v e
  refine ⟨fun k => S k ∨ (W.heap.size ≤ k ∧ blk v = some k), ⟨pv, v, qv, ?_⟩, ?_, ?_⟩
  · refine ⟨by rw [row_set hg]; rfl, ?_, hl.keep (fun b e => hp b ?_), ?_, .inl h.gS, fun b e => ⟨.inl (h.pS b e).1, (h.pS b e).2⟩, fun b e => ?_, fun b e => ?_, hu, h.quo⟩
    · exact (h.p.keep (fun b e => ht.block b (h.p.lt e) (fun q => (h.hS b q).2.2 e))).keep (fun b e => hp b (h.pS b e).2)
    · rcases hb b e with q | q
      · exact (h.hS b q).2.1
      · omega
    · exact own_keep (own_keep h.q (fun b e => ht.block b (own_lt h.q e) (h.qS b e).2.2.2)) (fun b e => hp b (h.qS b e).2.1)
    · rcases hb b e with q | q
      · exact ⟨.inl (h.hS b q).1, (h.hS b q).2⟩
      · exact ⟨.inr ⟨q, e⟩, by omega, fun e' => by have := h.p.lt e'; omega⟩
    · refine ⟨.inl (h.qS b e).1, (h.qS b e).2.1, (h.qS b e).2.2.1, fun e' => ?_⟩
      rcases hb b e' with q | q
      · exact (h.qS b e).2.2.2 q
      · have := own_lt h.q e; omega
  · exact (ht.mono (fun k _ e => (h.hS k e).1)).setCell (fun _ => h.gS) v
  · rintro k (q | q)
    · exact .inl q
    · exact .inr q.1
theorem Bx.atN {w w1 : World} {g : Nat} (h : Bx w g w1) (n : Nat) : (w1.drewN n).heap[w.heap.size]? = some (.cells #[.pointer (some ⟨g, 0, none⟩)] 71) := h.at
/-- ask, where the thing makes t of s. -/
theorem ask_sp (S : Nat → Prop) (g : Nat) (s t : Sc.St) (quota : Nat) (w : World) (h : Sp w S g s quota) (th dof : Nat) (caps dcaps : Array Value) (grow : Int) (R : World → Prop)
    (hg2 : grow ≤ 281474976710656) (hgr : (t.used : Int) = (s.used : Int) + grow)
    (eth : ∀ args w, (callFunc th args).run Try.prog w = .ok (.enter th args) w) (edo : ∀ args w, (callFunc dof args).run Try.prog w = .ok (.enter dof args) w)
    (hth : Calls Try.prog th (#[.pointer (some ⟨g, 0, none⟩)] ++ caps) w fun e w1 => e = .returned (.tuple #[.int .i64 grow, .func (.func dof) #[] dcaps]) ∧ R w1)
    (hR : ∀ w1, R w1 → Tu (fun _ => False) w w1)
    (hdo : t.used ≤ quota → ∀ w1 n, R w1 → Sp (w1.drewN n) S g s quota → Calls Try.prog dof dcaps (w1.drewN n) fun e w2 => e = .returned (.tuple #[]) ∧ Aft (w1.drewN n) S g t quota w2) :
    Calls Try.prog 36 #[.pointer (some ⟨g, 0, none⟩), .func (.func th) #[] caps] w fun e w' => e = .returned (.int .i64 (Sc.ask quota s t).1) ∧ Aft w S g (Sc.ask quota s t).2 quota w' := by
  have hq : s.used ≤ quota ∧ quota ≤ 1073741824 := by obtain ⟨_, _, _, q⟩ := h; exact ⟨q.used, q.quo⟩
  have hW : ∀ w1 n, R w1 → Tu (fun _ => False) w (w1.drewN n) := fun w1 n h1 => (hR w1 h1).trans (tu_drewN w1 n) (fun _ _ e => e)
  refine (ask_any S g s quota w h th dof caps dcaps grow R (fun w2 => Aft w S g t quota w2) (by omega) hg2 eth edo hth hR (fun hf w1 n h1 => ?_)).mono ?_
  · refine (hdo (by omega) w1 n h1 ?_).mono ?_
    · obtain ⟨pv, hv, qv, h⟩ := h
      exact ⟨pv, hv, qv, h.tu (hW w1 n h1) (fun _ _ e => e)⟩
    · rintro e w2 ⟨rfl, h2⟩
      exact ⟨rfl, h2.before (hW w1 n h1)⟩
  · rintro e w' ⟨hy, hn⟩
    by_cases hf : t.used ≤ quota
    · obtain ⟨rfl, h2⟩ := hy (by omega)
      unfold Sc.ask
      rw [if_pos hf]
      exact ⟨rfl, h2⟩
    · obtain ⟨rfl, w1, n, h1, rfl⟩ := hn (by omega)
      unfold Sc.ask
      rw [if_neg hf]
      exact ⟨rfl, Aft.keep h (hW w1 n h1)⟩
end Go.Proofs.Ytngmaijfahjfcaa
