/- An input and its source in memory; what the source answers. -/
import Derived.Test.YthmofbcjhfcokaaLSame
import Derived.Test.YthmofbcjhfcokaaLFirst
import Derived.Maps.AppendAt
import Derived.Laws.Rows
import Derived.Deep.RegionHeld3
import Derived.Deep.RegionWith
namespace Go.Proofs.Ythmofbcjhfcokaa
open Go.RowKit

theorem add_at (g o j : Nat) : (⟨g, o, none⟩ : Addr).add j = ⟨g, o + j, none⟩ := by unfold Addr.add; split <;> simp_all
/-- Of the blocks of A none but those of O has turned. -/
structure Tu (O : Nat → Prop) (A B : World) : Prop where
  os : B.os = A.os
  tape : B.tape = A.tape
  output : B.output = A.output
  size : A.heap.size ≤ B.heap.size
  block : ∀ k, k < A.heap.size → ¬ O k → B.heap[k]? = A.heap[k]?
theorem Tu.refl (O : Nat → Prop) (A : World) : Tu O A A := ⟨rfl, rfl, rfl, Nat.le_refl _, fun _ _ _ => rfl⟩
theorem Tu.mono {O O' : Nat → Prop} {A B : World} (h : Tu O A B) (hO : ∀ k, k < A.heap.size → O k → O' k) : Tu O' A B :=
  ⟨h.os, h.tape, h.output, h.size, fun k hk hn => h.block k hk (fun e => hn (hO k hk e))⟩
theorem Tu.trans {O O' : Nat → Prop} {A B C : World} (h : Tu O A B) (h' : Tu O' B C) (hO : ∀ k, k < A.heap.size → O' k → O k) : Tu O A C :=
  ⟨h'.os.trans h.os, h'.tape.trans h.tape, h'.output.trans h.output, Nat.le_trans h.size h'.size, fun k hk hn => (h'.block k (by have := h.size; omega) (fun e => hn (hO k hk e))).trans (h.block k hk hn)⟩
theorem Tu.of_below {O : Nat → Prop} {A B : World} (h : Below A.heap.size A B) : Tu O A B :=
  ⟨h.os, h.tape, h.output, h.size, fun k hk _ => h.block k hk⟩
theorem Tu.alloc {O : Nat → Prop} {A B : World} (h : Tu O A B) (o : Obj) : Tu O A (B.alloc o) :=
  h.trans (O' := fun _ => False) (Tu.of_below ((Below.refl B.heap.size B).alloc (Nat.le_refl _) o)) (fun _ _ e => e.elim)
theorem Tu.below {O : Nat → Prop} {A B : World} {n : Nat} (h : Tu O A B) (hn : n ≤ A.heap.size) (hO : ∀ k, O k → n ≤ k) : Below n A B :=
  ⟨h.os, h.tape, h.output, h.size, fun k hk => h.block k (by omega) (fun e => by have := hO k e; omega)⟩
theorem Tu.drewN {O : Nat → Prop} {A B : World} (h : Tu O A B) (n : Nat) : Tu O A (B.drewN n) :=
  h.trans (O' := fun _ => False) (Tu.of_below (below_drewN (Below.refl _ _) n)) (fun _ _ e => e.elim)
theorem Tu.setCell {O : Nat → Prop} {A B : World} (h : Tu O A B) {p : Addr} (hp : p.block < A.heap.size → O p.block) (v : Value) : Tu O A (B.setCell p v) := by
  have y := (Below.refl 0 B).setCell (p := p) (Nat.zero_le _) v
  exact h.trans (O' := fun k => k = p.block) ⟨y.os, y.tape, y.output, y.size, fun k _ hn => heap_setCell_other B p k v hn⟩ (fun k hk e => by subst e; exact hp hk)
theorem Tu.of_grown {O : Nat → Prop} {A B : World} {r : Option Nat} (h : A.grownBy B r) (hr : ∀ k, r = some k → O k) : Tu O A B :=
  ⟨h.os, h.tape, h.output, h.size, fun k hk hn => h.block k hk (fun e => hn (hr k e.symm))⟩
theorem Tu.cell {O : Nat → Prop} {A B : World} (h : Tu O A B) {b o : Nat} (hb : b < A.heap.size) (hn : ¬ O b) : B.cell? ⟨b, o, none⟩ = A.cell? ⟨b, o, none⟩ := by
  rw [World.cell?, World.cell?]
  simp only [h.block b hb hn]
/-- The block in which a slice lies. -/
abbrev blk (v : Value) : Option Nat := v.ownBlock
theorem own_keep {w w' : World} {base : Nat} {e : TypeId} {size : Nat} {v : Value} {n : Nat} {xs : List Value} (h : w.ownsRow base e size v n xs) (hk : ∀ b, blk v = some b → w'.heap[b]? = w.heap[b]?) : w'.ownsRow base e size v n xs := by
  refine ⟨h.1, ?_⟩
  rcases h.2 with q | ⟨g, cap, cur, q1, q2, q3, q⟩
  · exact .inl q
  · exact .inr ⟨g, cap, cur, q1, q2, by rw [hk g (by rw [q1]; rfl)]; exact q3, q⟩
theorem own_lt {w : World} {base : Nat} {e : TypeId} {size : Nat} {v : Value} {n : Nat} {xs : List Value} (h : w.ownsRow base e size v n xs) {b : Nat} (hb : blk v = some b) : b < w.heap.size := (h.lt b hb).2
theorem own_slice {w : World} {base : Nat} {e : TypeId} {size : Nat} {v : Value} {n : Nat} {xs : List Value} (h : w.ownsRow base e size v n xs) : ∃ a c, v = .slice a n c := by
  rcases h.2 with ⟨q, rfl⟩ | ⟨g, cap, cur, q1, _⟩
  · exact ⟨none, 0, q⟩
  · exact ⟨_, _, q1⟩
theorem row_set {w : World} {g : Nat} {cs : Array Value} {t : TypeId} {fr : Nat × Nat} (h : w.heap[g]? = some (.cells cs t fr)) (j : Nat) (v : Value) : (w.setCell ⟨g, j, none⟩ v).heap[g]? = some (.cells (cs.setIfInBounds j v) t fr) := by
  simp only [World.setCell, Array.getElem?_modify, if_true, h, Option.map_some]
  rfl
theorem free_row {w : World} {g : Nat} {cs : Array Value} {t : TypeId} (h : w.heap[g]? = some (.cells cs t)) (j : Nat) : w.frozen? ⟨g, j, none⟩ = false := by
  unfold World.frozen?
  simp [h]

namespace In
/-- What an input is told to be: its text, and the error. -/
abbrev Tl := ByteArray × Int
/-- What is told of the line that was taken last. -/
structure Tk where
  pl : Nat
  no : Nat
  last : Bool
  fresh : Bool
  data : ByteArray
/-- An input: how many were asked for, the text, what is left of it, whether one was passed over, the error, the line. -/
structure St where
  asked : Nat
  text : ByteArray
  rest : ByteArray
  passed : Bool
  why : Int
  ln : Tk
def ints (n : Nat) : List Value := (List.range n).map fun i : Nat => Value.int .i64 (i : Int)
theorem ints_length (n : Nat) : (ints n).length = n := by simp [ints]
theorem ints_succ (n : Nat) : ints (n + 1) = ints n ++ [.int .i64 (n : Int)] := by simp [ints, List.range_succ]
theorem ints_get (n i : Nat) (h : i < n) : (ints n)[i]? = some (.int .i64 (i : Int)) := by simp [ints, h]
end In
/-- The slice at address a, of capacity cap, reads in w as what inputs are told to be. -/
structure Tls (w : World) (a : Option Addr) (cap : Nat) (l : List In.Tl) : Prop where
  cells : ∀ i (h : i < l.length), ∃ b off, a = some ⟨b, off, none⟩ ∧ b < w.heap.size ∧ w.cell? ⟨b, off + i * 2, none⟩ = some (.string (l[i]'h).1) ∧ w.cell? ⟨b, off + i * 2 + 1, none⟩ = some (.int .i64 (l[i]'h).2)
  room : l.length ≤ cap
theorem Tls.tu {O : Nat → Prop} {w w' : World} {a : Option Addr} {cap : Nat} {l : List In.Tl} (h : Tls w a cap l) (ht : Tu O w w') (hO : ∀ ad, a = some ad → ¬ O ad.block) : Tls w' a cap l := by
  refine ⟨fun i hi => ?_, h.room⟩
  obtain ⟨b, off, e, hlt, h1, h2⟩ := h.cells i hi
  have hn := hO _ e
  exact ⟨b, off, e, Nat.lt_of_lt_of_le hlt ht.size, (ht.cell hlt hn).trans h1, (ht.cell hlt hn).trans h2⟩
/-- The block gs holds a source: what it is told, and that the first n inputs were asked for. -/
structure SrV (w : World) (gs : Nat) (T : List In.Tl) (n : Nat) (ta : Option Addr) (tc : Nat) (av : Value) : Prop where
  src : w.heap[gs]? = some (.cells #[.slice ta T.length tc, av] 27)
  told : Tls w ta tc T
  ask : w.ownsRow 0 3 1 av n (In.ints n)
  tN : ∀ ad, ta = some ad → ad.block ≠ gs ∧ blk av ≠ some ad.block
  aN : blk av ≠ some gs
theorem SrV.lt {w : World} {gs : Nat} {T : List In.Tl} {n : Nat} {ta : Option Addr} {tc : Nat} {av : Value} (h : SrV w gs T n ta tc av) : gs < w.heap.size := lt_of_block h.src
/-- The blocks of a source that calls turn. -/
def sOwn (gs : Nat) (av : Value) (k : Nat) : Prop := k = gs ∨ blk av = some k
theorem SrV.tu {O : Nat → Prop} {w w' : World} {gs : Nat} {T : List In.Tl} {n : Nat} {ta : Option Addr} {tc : Nat} {av : Value} (h : SrV w gs T n ta tc av) (ht : Tu O w w') (hO : ∀ k, k < w.heap.size → sOwn gs av k → ¬ O k) (hT : ∀ ad, ta = some ad → ¬ O ad.block) : SrV w' gs T n ta tc av :=
  { h with
    src := (ht.block gs h.lt (hO gs h.lt (.inl rfl))).trans h.src
    told := h.told.tu ht hT
    ask := own_keep h.ask (fun b hb => ht.block b (own_lt h.ask hb) (hO b (own_lt h.ask hb) (.inr hb))) }
theorem Try.infoInt : (Try.prog.info? 3).map (fun i => (i.zero, i.size, i.bytes)) = some (some (.int .i64 0), 1, 8) := by kernel_rfl
/-- Where a row lies that was grown: where it lay, or in a new block. -/
def moved (w : World) (av av' : Value) : Prop := blk av' = blk av ∨ ∃ b, blk av' = some b ∧ w.heap.size ≤ b

set_option maxRecDepth 100000 in
set_option maxHeartbeats 1000000 in
theorem sinput_any (gs n : Nat) (T : List In.Tl) (ta : Option Addr) (tc : Nat) (av : Value) (w : World) (h : SrV w gs T n ta tc av) (hn : n < T.length) (hT : T.length ≤ 67108864) :
    Calls Try.prog 46 #[.pointer (some ⟨gs, 0, none⟩), .int .i64 (n : Int)] w fun e w' => e = .returned (.tuple #[.string (T[n]'hn).1, .int .i64 (T[n]'hn).2]) ∧ ∃ av', SrV w' gs T (n + 1) ta tc av' ∧ Tu (sOwn gs av) w w' ∧ moved w av av' := by
  obtain ⟨i0, hi, hz0, hz1, hz2⟩ := info_parts Try.infoInt
  have c0 : w.cell? ⟨gs, 0, none⟩ = some (.slice ta T.length tc) := by rw [cell_of_row w gs _ _ _ _ h.src]; rfl
  have c1 : w.cell? ⟨gs, 1, none⟩ = some av := by rw [cell_of_row w gs _ _ _ _ h.src]; rfl
  have hgl := h.lt
  have HH : Hid (SrV w gs T n ta tc av) := h
  obtain ⟨b, off, rfl, hb0, d1, d2⟩ := h.told.cells n hn
  have hN := h.tN _ rfl
  have hown := h.ask
  clear h
  generalize T[n]'hn = x at *
  obtain ⟨x1, x2⟩ := x
  go_enter Try.func46, Try.ntmps46
  go_wp2_with (at_builtin; refine wpList_append_own_at _ rfl (.tmp 10) (.tmp 12) 25 rfl 0 3 i0 (.int .i64 0) 1 8 Try.underlying25 hi hz0 hz1 hz2 rfl (by decide) _ _ _ rfl (hown.alloc _) ⟨w.heap.size, 0, none⟩ 1 1 [.int .i64 (n : Int)] rfl rfl (cell_one_new _ _ _) ?c2 ?c3 ?c4 (Nat.zero_le _) ?_)
  case c2 => first | rfl | (intro u hu; simp at hu; subst hu; rfl)
  case c3 => unfold maxLen; omega
  case c4 => omega
  intro v' w1 hown' hgrow _ hat
  obtain ⟨a9, c9, hv9⟩ := own_slice hown'
  subst hv9
  obtain ⟨v', hv9⟩ : ∃ v', v' = Value.slice a9 (n + 1) c9 := ⟨_, rfl⟩
  rw [← hv9] at hown' hat
  have hT1 : Tu (fun k => blk av = some k) w w1 := ((Tu.refl _ w).alloc _).trans (Tu.of_grown hgrow (fun k e => e)) (fun _ _ e => e)
  have hsrc : w1.heap[gs]? = some (.cells #[.slice (some ⟨b, off, none⟩) T.length tc, av] 27) := (hT1.block gs hgl HH.out.aN).trans HH.out.src
  have hm : moved w av v' := by
    rcases hat with e | e
    · exact .inl e
    · exact .inr ⟨_, e, by simp⟩
  have hv1 : blk v' ≠ some gs := by
    rcases hm with e | ⟨b', e, hb'⟩
    · rw [e]; exact HH.out.aN
    · rw [e]; intro q; cases q; omega
  have hv2 : blk v' ≠ some b := by
    rcases hm with e | ⟨b', e, hb'⟩
    · rw [e]; exact hN.2
    · rw [e]; intro q; cases q; omega
  have f1 : w1.frozen? ⟨gs, 1, none⟩ = false := free_row hsrc 1
  have hbg : b ≠ gs := hN.1
  have hT2 : Tu (sOwn gs av) w (w1.setCell ⟨gs, 1, none⟩ v') := (hT1.mono (fun k _ e => .inr e)).setCell (fun _ => .inl rfl) v'
  have hsr2 : SrV (w1.setCell ⟨gs, 1, none⟩ v') gs T (n + 1) (some ⟨b, off, none⟩) tc v' := by
    refine ⟨by rw [row_set hsrc]; rfl, HH.out.told.tu hT2 (fun ad e => ?_), ?_, fun ad e => by cases e; exact ⟨hbg, hv2⟩, hv1⟩
    · cases e
      rintro (q | q)
      · exact hbg q
      · exact hN.2 q
    · rw [In.ints_succ]
      exact own_keep hown' (fun k hk => heap_setCell_other w1 _ k v' (fun e => hv1 (by rw [hk, e])))
  have e1 : w1.cell? ⟨gs, 0, none⟩ = some (.slice (some ⟨b, off, none⟩) T.length tc) := by rw [cell_of_row w1 gs _ _ _ _ hsrc]; rfl
  have e2 : w1.cell? ⟨b, off + n * 2, none⟩ = some (.string x1) := (hT1.cell hb0 hN.2).trans d1
  have e3 : w1.cell? ⟨b, off + n * 2 + 1, none⟩ = some (.int .i64 x2) := (hT1.cell hb0 hN.2).trans d2
  have e4 : ∃ v, w1.cell? ⟨gs, 1, none⟩ = some v := ⟨_, by rw [cell_of_row w1 gs _ _ _ _ hsrc]; rfl⟩
  obtain ⟨v4, e4⟩ := e4
  have HT2 : Hid (Tu (sOwn gs av) w (w1.setCell ⟨gs, 1, none⟩ v')) := hT2
  have HS2 : Hid (SrV (w1.setCell ⟨gs, 1, none⟩ v') gs T (n + 1) (some ⟨b, off, none⟩) tc v') := hsr2
  have HM : Hid (moved w av v') := hm
  have hni : (n : Int) < (T.length : Int) := by omega
  have hn0 : ¬ (n : Int) < 0 := by omega
  subst hv9
  clear hT1 hsrc hown' hgrow hat hm hv1 hv2 hT2 hsr2 hown HH c0 c1 d1 d2
  go_wp2_with fail
  go_quiet (fail)
  go_wp2_with fail
  go_ret2
  refine ⟨rfl, _, HS2.out.tu (O := fun _ => False) ?_ (fun _ _ _ e => e) (fun _ _ e => e), HT2.out.drewN _, HM.out⟩
  exact (Tu.refl _ _).drewN _
end Go.Proofs.Ythmofbcjhfcokaa
