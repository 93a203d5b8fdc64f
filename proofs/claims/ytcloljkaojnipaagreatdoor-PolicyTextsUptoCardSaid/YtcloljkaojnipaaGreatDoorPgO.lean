/- What policy.Parse answers. What policy.Parse answers. What policy.Parse answers of a text of up to 16777216 bytes. -/
import Derived.Test.YtcloljkaojnipaaGreatDoorPhB
import Derived.Test.YtcloljkaojnipaaGreatDoorPgJ
import Derived.Laws.ResultCell
import Derived.Deep.DeepCutAuto
namespace Go.Proofs.YtcloljkaojnipaaGreatDoor
open Go.RowKit

namespace Pl
def S0 : PSt := ⟨[], [], fun _ => 0, fun _ => false⟩
def skipB (x : ByteArray) : Bool := x.data.toList.head? == none || x.data.toList.head? == some 35
/-- A policy read from its lines: what was read, or the first fault's line and rule. -/
def parF : PSt → Nat → List (ByteArray × Bool) → Sum (Nat × Nat) PSt
  | S, _, [] => .inr S
  | S, i, x :: r => if skipB x.1 = true then parF S (i + 1) r else if (lineR S x.1.data.toList).1 = 0 then parF (lineR S x.1.data.toList).2 (i + 1) r else .inl (i + 1, (lineR S x.1.data.toList).1)
theorem par_end {S : PSt} {k : Nat} {l : List (ByteArray × Bool)} (h : l.length ≤ k) : parF S k (l.drop k) = .inr S := by rw [List.drop_eq_nil_of_le h]; rfl
theorem par_skip {S : PSt} {k : Nat} {l : List (ByteArray × Bool)} (h : k < l.length) (hs : skipB (l[k]'h).1 = true) : parF S k (l.drop k) = parF S (k + 1) (l.drop (k + 1)) := by
  rw [List.drop_eq_getElem_cons h, parF, if_pos hs]
theorem par_on {S : PSt} {k : Nat} {l : List (ByteArray × Bool)} (h : k < l.length) (hs : skipB (l[k]'h).1 = false) (h0 : (lineR S (l[k]'h).1.data.toList).1 = 0) : parF S k (l.drop k) = parF (lineR S (l[k]'h).1.data.toList).2 (k + 1) (l.drop (k + 1)) := by
  rw [List.drop_eq_getElem_cons h, parF, if_neg (by rw [hs]; simp), if_pos h0]
theorem par_bad {S : PSt} {k : Nat} {l : List (ByteArray × Bool)} (h : k < l.length) (hs : skipB (l[k]'h).1 = false) (h0 : ¬ (lineR S (l[k]'h).1.data.toList).1 = 0) : parF S k (l.drop k) = .inl (k + 1, (lineR S (l[k]'h).1.data.toList).1) := by
  rw [List.drop_eq_getElem_cons h, parF, if_neg (by rw [hs]; simp), if_neg h0]
end Pl
theorem Lns.tu {O : Nat → Prop} {w w' : World} {a : Option Addr} {cap : Nat} {l : List (ByteArray × Bool)} (h : Lns w a cap l) (ht : Tu O w w') (hO : ∀ ad, a = some ad → ¬ O ad.block) : Lns w' a cap l := by
  refine ⟨h.len, h.nil, h.room, h.most, h.size, fun i hi => ?_⟩
  obtain ⟨b, off, e, hlt, h1, h2⟩ := h.cells i hi
  have := hO _ e
  exact ⟨b, off, e, Nat.lt_of_lt_of_le hlt ht.size, (cell_blk (ht.block b hlt this)).trans h1, (cell_blk (ht.block b hlt this)).trans h2⟩
def zPol : Obj := .cells #[.slice none 0 0, .slice none 0 0, .int .i64 0, .int .i64 0, .int .i64 0, .int .i64 0] 24 (0, 0)
def zFau : Obj := .cells #[.int .i64 0, .int .i64 0] 40 (0, 0)
theorem results_pol {fn : Func} {p a q : Tmp} (h : fn.results = #[.cell p 24, .tmp a, .cell q 40]) (tmps : Array Value) (w : World) (g g2 : Nat) (x0 x1 x2 x3 x4 x5 y0 y1 : Value)
    (hp : tmps.getD p undef = .pointer (some ⟨g, 0, none⟩)) (hq : tmps.getD q undef = .pointer (some ⟨g2, 0, none⟩)) (hg : w.heap[g]? = some (.cells #[x0, x1, x2, x3, x4, x5] 24 (0, 0))) (hg2 : w.heap[g2]? = some (.cells #[y0, y1] 40 (0, 0))) :
    (results fn tmps).run Tryz.prog w = .ok (.tuple #[.agg #[x0, x1, x2, x3, x4, x5], tmps.getD a undef, .agg #[y0, y1]]) w := by
  have hp' : tmps[p]?.getD undef = .pointer (some ⟨g, 0, none⟩) := by simpa using hp
  have hq' : tmps[q]?.getD undef = .pointer (some ⟨g2, 0, none⟩) := by simpa using hq
  have hl := run_loadVar_row (P := Tryz.prog) w g 24 24 #[x0, x1, x2, x3, x4, x5] (0, 0) _ hg Tryz.underlying24 rfl (by kernel_rfl)
  have hl2 := run_loadVar_row (P := Tryz.prog) w g2 40 40 #[y0, y1] (0, 0) _ hg2 Tryz.underlying40 rfl (by kernel_rfl)
  simp [results, h, hp', hq', asAddr, hl, hl2]
/-- The readers' boxes, once the lines are there. -/
theorem RL.bxs {N pg m bR bW n : Nat} {qb tb : Nat → Nat} {w0 w : World} (h : RL N pg m bR bW 4 n qb tb w0 w) (hp : pg < N) (M : Nat) (hM : w.heap.size ≤ M) : Bxs ⟨pg, bR, bW, qb, tb, M⟩ w := by
  have ne : ∀ (t t' : TypeId), t ≠ t' → ∀ (a b : Nat) (c d : Array Value), w.heap[a]? = some (Obj.cells c t (0, 0)) → w.heap[b]? = some (Obj.cells d t' (0, 0)) → a ≠ b := fun t t' hne a b c d h1 h2 e => by
    subst e
    rw [h1] at h2
    injection h2 with h2
    injection h2 with e1 e2
    exact hne e2
  have lt : ∀ (a : Nat) (c : Array Value) (t : TypeId), w.heap[a]? = some (Obj.cells c t (0, 0)) → a < M := fun a c t h1 => Nat.lt_of_lt_of_le (lt_of_block h1) hM
  exact ⟨h.r, h.s, h.q, lt _ _ _ h.r, lt _ _ _ h.s, fun i hi => lt _ _ _ (h.q i hi), fun i hi => lt _ _ _ (h.t i hi), by have := h.hN; show pg < M; omega, by have := h.rN; show bR ≠ pg; omega, by have := h.sN; show bW ≠ pg; omega, fun i hi => by have := h.qN i hi; show qb i ≠ pg; omega, fun i hi => by have := h.tN i hi; show tb i ≠ pg; omega,
    fun i hi => ne 94 4 (by decide) _ _ _ _ h.r (h.t i hi), fun i hi => ne 94 4 (by decide) _ _ _ _ h.s (h.t i hi), fun i j hi hj => ne 52 4 (by decide) _ _ _ _ (h.q i hi) (h.t j hj), h.tt⟩
end Go.Proofs.YtcloljkaojnipaaGreatDoor
namespace Go.Proofs.YtcloljkaojnipaaGreatDoor
open Go.RowKit

/-- What Parse leaves. -/
def ParE (w : World) (r : Sum (Nat × Nat) Pl.PSt) (e : Ending) (w' : World) : Prop := Below w.heap.size w w' ∧ match r with
  | .inl x => e = .returned (.tuple #[.agg #[.slice none 0 0, .slice none 0 0, .int .i64 0, .int .i64 0, .int .i64 0, .int .i64 0], .int .i64 51, .agg #[.int .i64 (x.1 : Nat), .int .i64 (x.2 : Nat)]])
  | .inr S => ∃ vR vW, e = .returned (.tuple #[.agg #[vR, vW, .int .i64 (S.q 0 : Nat), .int .i64 (S.q 1 : Nat), .int .i64 (S.q 2 : Nat), .int .i64 (S.q 3 : Nat)], .int .i64 0, .agg #[.int .i64 0, .int .i64 0]]) ∧
      PRowO w' w.heap.size vR vW S.R ∧ PRowO w' w.heap.size vW vR S.W ∧ (∀ b, vR.ownBlock = some b → vW.ownBlock ≠ some b) ∧ S.R.length ≤ 1024 ∧ S.W.length ≤ 1024
theorem PRowO.base {w : World} {b b' : Nat} {v u : Value} {l : List (List ByteArray)} (h : PRowO w b v u l) (hb : b' ≤ b) : PRowO w b' v u l := by
  obtain ⟨xs, h1, h2, h3⟩ := h
  exact ⟨xs, own_base_p h1 hb, h2, h3⟩

/-- The world behind the answers' stores. -/
def put62 (w : World) (g h : Nat) (x0 x1 x2 x3 x4 x5 y0 y1 : Value) : World := (((((((w.setCell ⟨g, 0, none⟩ x0).setCell ⟨g, 1, none⟩ x1).setCell ⟨g, 2, none⟩ x2).setCell ⟨g, 3, none⟩ x3).setCell ⟨g, 4, none⟩ x4).setCell ⟨g, 5, none⟩ x5).setCell ⟨h, 0, none⟩ y0).setCell ⟨h, 1, none⟩ y1
theorem put62_at {w : World} {g h : Nat} {a0 a1 a2 a3 a4 a5 b0 b1 : Value} {t t' : TypeId} (hg : w.heap[g]? = some (.cells #[a0, a1, a2, a3, a4, a5] t (0, 0))) (hh : w.heap[h]? = some (.cells #[b0, b1] t' (0, 0))) (hne : g ≠ h) (x0 x1 x2 x3 x4 x5 y0 y1 : Value) :
    (put62 w g h x0 x1 x2 x3 x4 x5 y0 y1).heap[g]? = some (.cells #[x0, x1, x2, x3, x4, x5] t (0, 0)) ∧ (put62 w g h x0 x1 x2 x3 x4 x5 y0 y1).heap[h]? = some (.cells #[y0, y1] t' (0, 0)) ∧ Tu (fun k => k = g ∨ k = h) w (put62 w g h x0 x1 x2 x3 x4 x5 y0 y1) := by
  have k1 := heap_setCell_same _ g 0 _ _ x0 hg
  have k2 := heap_setCell_same _ g 1 _ _ x1 k1
  have k3 := heap_setCell_same _ g 2 _ _ x2 k2
  have k4 := heap_setCell_same _ g 3 _ _ x3 k3
  have k5 := heap_setCell_same _ g 4 _ _ x4 k4
  have k6 := heap_setCell_same _ g 5 _ _ x5 k5
  have o : ∀ (W : World) (j : Nat) (v : Value), (W.setCell ⟨g, j, none⟩ v).heap[h]? = W.heap[h]? := fun W j v => heap_setCell_other W ⟨g, j, none⟩ h v (fun e => hne e.symm)
  have o' : ∀ (W : World) (j : Nat) (v : Value), (W.setCell ⟨h, j, none⟩ v).heap[g]? = W.heap[g]? := fun W j v => heap_setCell_other W ⟨h, j, none⟩ g v hne
  have l0 : ((((((w.setCell ⟨g, 0, none⟩ x0).setCell ⟨g, 1, none⟩ x1).setCell ⟨g, 2, none⟩ x2).setCell ⟨g, 3, none⟩ x3).setCell ⟨g, 4, none⟩ x4).setCell ⟨g, 5, none⟩ x5).heap[h]? = some (.cells #[b0, b1] t' (0, 0)) := by rw [o, o, o, o, o, o]; exact hh
  have l1 := heap_setCell_same _ h 0 _ _ y0 l0
  have l2 := heap_setCell_same _ h 1 _ _ y1 l1
  refine ⟨?_, ?_, ?_⟩
  · unfold put62
    rw [o', o', k6]; simp
  · unfold put62
    rw [l2]; simp
  · unfold put62
    exact ((((((((Tu.refl (fun k => k = g ∨ k = h) w).setCell (p := ⟨g, 0, none⟩) (fun _ => .inl rfl) _).setCell (p := ⟨g, 1, none⟩) (fun _ => .inl rfl) _).setCell (p := ⟨g, 2, none⟩) (fun _ => .inl rfl) _).setCell (p := ⟨g, 3, none⟩) (fun _ => .inl rfl) _).setCell (p := ⟨g, 4, none⟩) (fun _ => .inl rfl) _).setCell (p := ⟨g, 5, none⟩) (fun _ => .inl rfl) _).setCell (p := ⟨h, 0, none⟩) (fun _ => .inr rfl) _).setCell (p := ⟨h, 1, none⟩) (fun _ => .inr rfl) _
theorem zfar {w : World} {g h : Nat} (hg : w.heap[g]? = some zPol) (hh : w.heap[h]? = some zFau) (x : Option Addr) (c : Nat) (p : List ByteArray) (hs : Strs w x c p) (hp : p ≠ []) (ad : Addr) (hx : x = some ad) : ¬ (ad.block = g ∨ ad.block = h) := fun e => by
  rcases e with e | e
  · refine strs_far hg (fun j s q => ?_) hs hp ad hx e
    rcases (show j = 0 ∨ j = 1 ∨ j = 2 ∨ j = 3 ∨ j = 4 ∨ j = 5 ∨ 6 ≤ j by omega) with rfl | rfl | rfl | rfl | rfl | rfl | hj
    · cases Option.some.inj q
    · cases Option.some.inj q
    · cases Option.some.inj q
    · cases Option.some.inj q
    · cases Option.some.inj q
    · cases Option.some.inj q
    · rw [Array.getElem?_eq_none (by simpa using hj)] at q; cases q
  · refine strs_far hh (fun j s q => ?_) hs hp ad hx e
    rcases (show j = 0 ∨ j = 1 ∨ 2 ≤ j by omega) with rfl | rfl | hj
    · cases Option.some.inj q
    · cases Option.some.inj q
    · rw [Array.getElem?_eq_none (by simpa using hj)] at q; cases q

set_option maxRecDepth 100000 in
set_option maxHeartbeats 4000000 in
theorem parse_any (s : ByteArray) (w : World) (T : PT w) (hs : s.size ≤ 8388608) :
    Calls Tryz.prog 23 #[.string s] w (ParE w (Pl.parF Pl.S0 0 (Ln.splB s))) := by
  have hT := T.size
  obtain ⟨W, hW⟩ : ∃ W, W = ((w.alloc zPol).alloc zFau).alloc zPol := ⟨_, rfl⟩
  have hsz : W.heap.size = w.heap.size + 3 := by rw [hW]; simp
  have hBW : Below w.heap.size w W := by rw [hW]; exact (((Below.refl _ w).alloc (Nat.le_refl _) _).alloc (by simp) _).alloc (by simp; omega) _
  have b0 : W.heap[w.heap.size]? = some zPol := by rw [hW, heap_alloc_old _ _ (by simp; omega), heap_alloc_old _ _ (by simp)]; exact heap_alloc_new w _
  have b1 : W.heap[w.heap.size + 1]? = some zFau := by rw [hW, heap_alloc_old _ _ (by simp), show w.heap.size + 1 = (w.alloc zPol).heap.size from by simp]; exact heap_alloc_new _ _
  have b2 : W.heap[w.heap.size + 1 + 1]? = some zPol := by rw [hW, show w.heap.size + 1 + 1 = ((w.alloc zPol).alloc zFau).heap.size from by simp]; exact heap_alloc_new _ _
  have HW : Hid (W = ((w.alloc zPol).alloc zFau).alloc zPol) := hW
  have HF : Hid (Below w.heap.size w W ∧ W.heap[w.heap.size]? = some zPol ∧ W.heap[w.heap.size + 1]? = some zFau ∧ W.heap[w.heap.size + 1 + 1]? = some zPol ∧ W.heap.size = w.heap.size + 3) := ⟨hBW, b0, b1, b2, hsz⟩
  have HRd := readers_any (w.heap.size + 1 + 1) W (by omega)
  clear hW hBW b0 b1 b2 hsz
  simp only [zPol, zFau] at HW
  go_enter Tryz.func23, Tryz.ntmps23
  go_wp2_with fail
  rw [← HW.out]
  refine HRd.mono ?_
  rintro e w1 ⟨m, n, bR, bW, qb, tb, rfl, hrl⟩
  have HR1 : Hid (RL W.heap.size (w.heap.size + 1 + 1) m bR bW 4 n qb tb W w1) := hrl
  clear hrl HRd HW
  go_wp2_with fail
  refine (split_any s w1 (by omega)).mono ?_
  rintro e w4 ⟨v, rfl, hown, hb4⟩
  obtain ⟨a, cap, rfl, hln⟩ := own_lns hown (by have := Ln.splB_len s; omega) (fun x hx => by
    have := Ln.splB_mem s x hx
    omega)
  have hage : ∀ ad, a = some ad → w1.heap.size ≤ ad.block ∧ ad.block < w4.heap.size := fun ad e => by subst e; exact hown.lt ad.block rfl
  have HR4 : Hid (RL W.heap.size (w.heap.size + 1 + 1) m bR bW 4 n qb tb W w4) := HR1.out.under hb4
  have HA : Hid (∀ ad, a = some ad → w1.heap.size ≤ ad.block ∧ ad.block < w4.heap.size) := hage
  have HL4 : Hid (Lns w4 a cap (Ln.splB s)) := hln
  have hln' := hln.len
  have hls : ∀ x ∈ Ln.splB s, x.1.size ≤ 16777216 := fun x hx => by have := Ln.splB_mem s x hx; omega
  have HSz : Hid (∀ x ∈ Ln.splB s, x.1.size ≤ 16777216) := hls
  clear hls hln hown hage
  generalize Ln.splB s = ls at *
  obtain ⟨L, hL⟩ : ∃ L : Lo, L = ⟨w.heap.size + 1 + 1, bR, bW, qb, tb, w4.heap.size⟩ := ⟨_, rfl⟩
  have hB4 : Below w.heap.size w w4 := HF.out.1.trans (HR4.out.bel.mono HF.out.1.size)
  have hW4 := HR4.out.hN
  have hWs := HF.out.2.2.2.2
  have tch : ∀ k, L.tch k → k = w.heap.size + 1 + 1 ∨ (∃ i, i < 4 ∧ k = tb i) ∨ w4.heap.size ≤ k := fun k hk => by rw [hL] at hk; exact hk
  have hG : ∀ k, L.tch k → w.heap.size + 1 < k := fun k hk => by
    rcases tch k hk with e | ⟨i, hi, e⟩ | e
    · omega
    · have := HR4.out.tN i hi; omega
    · omega
  have hadt : ∀ ad, a = some ad → ¬ L.tch ad.block := fun ad e q => by
    have h1 := HA.out ad e
    rcases tch _ q with q | ⟨i, hi, q⟩ | q
    · have := HR1.out.hN; omega
    · have := lt_of_block (HR1.out.t i hi); omega
    · omega
  have hmt : ¬ L.tch m := fun q => by
    rcases tch _ q with q | ⟨i, hi, q⟩ | q
    · have := HR4.out.mN; omega
    · exact map_ne HR4.out.mp (HR4.out.t i hi) q.symm
    · have := HR4.out.mp.lt; omega
  have HR : Hid (Rdy L Pl.S0 (.slice none 0 0) (.slice none 0 0) m n w4) := by
    refine ⟨T.under hB4, ⟨?_, ?_, ?_, PRowO.empty _ _ _, PRowO.empty _ _ _, fun b hb => (by cases hb), (by rw [hL]; exact Nat.le_refl _)⟩, ?_, fun s => ⟨by simp, by simp⟩, ⟨by simp [Pl.S0], by simp [Pl.S0]⟩, fun k hk => by have := hG k hk; omega, ?_, hmt⟩
    · rw [hL]; exact HR4.out.bxs (by omega) _ (Nat.le_refl _)
    · rw [hL]
      show w4.heap[w.heap.size + 1 + 1]? = _
      rw [HR4.out.bel.block _ (by omega)]; exact HF.out.2.2.2.1
    · rw [hL]; exact HR4.out.t
    · rw [hL]; exact HR4.out.mp
    · rw [hL]; exact HR4.out.mp.lt
  have HZ0 : Hid (w4.heap[w.heap.size]? = some zPol) := (HR4.out.bel.block _ (by omega)).trans HF.out.2.1
  have HZ1 : Hid (w4.heap[w.heap.size + 1]? = some zFau) := (HR4.out.bel.block _ (by omega)).trans HF.out.2.2.1
  have HT : Hid ((∀ ad, a = some ad → ¬ L.tch ad.block) ∧ (∀ k, L.tch k → w.heap.size + 1 < k) ∧ L.pg = w.heap.size + 1 + 1 ∧ Below w.heap.size w w4 ∧ w.heap.size ≤ L.N ∧ w.heap.size + 1 < w4.heap.size) := ⟨hadt, hG, by rw [hL], hB4, by rw [hL]; exact hB4.size, by omega⟩
  clear hL tch hG hadt hmt HF HR1 HR4 HA hb4 hW4 hWs hB4
  go_wp2_with fail
  go_loopw [7, 8, 9, 14] (fun _ _ _ c wr => ∃ (k : Nat) (S : Pl.PSt) (vR vW : Value), k ≤ ls.length ∧ c = .int .i64 k ∧ Hid (Rdy L S vR vW m n wr) ∧ Hid (Tu L.tch w4 wr) ∧ Hid (Pl.parF Pl.S0 0 ls = Pl.parF S k (ls.drop k))) (fun _ _ _ c _ => ls.length - (intOf c).toNat)
  case atStart => exact ⟨0, Pl.S0, _, _, Nat.zero_le _, rfl, HR, Tu.refl _ _, rfl⟩
  case round =>
    clear HR
    obtain ⟨k, S, vR, vW, hk, rfl, HR, HTu, HP⟩ := hrel
    by_cases hlt : k < ls.length
    · have hlw := HL4.out.tu HTu.out HT.out.1
      obtain ⟨b, off, rfl, hb, hc1, hc2⟩ := hlw.cells k hlt
      have i1 : (k : Int) < (ls.length : Int) := by omega
      have HS : Hid (Pl.skipB (ls[k]'hlt).1 = true → Pl.parF Pl.S0 0 ls = Pl.parF S (k + 1) (ls.drop (k + 1))) := fun q => HP.out.trans (Pl.par_skip hlt q)
      have HO : Hid (Pl.skipB (ls[k]'hlt).1 = false → (Pl.lineR S (ls[k]'hlt).1.data.toList).1 = 0 → Pl.parF Pl.S0 0 ls = Pl.parF (Pl.lineR S (ls[k]'hlt).1.data.toList).2 (k + 1) (ls.drop (k + 1))) := fun q r => HP.out.trans (Pl.par_on hlt q r)
      have HN : Hid (Pl.skipB (ls[k]'hlt).1 = false → ¬ (Pl.lineR S (ls[k]'hlt).1.data.toList).1 = 0 → Pl.parF Pl.S0 0 ls = .inl (k + 1, (Pl.lineR S (ls[k]'hlt).1.data.toList).1)) := fun q r => HP.out.trans (Pl.par_bad hlt q r)
      have hx := HSz.out _ (List.getElem_mem hlt)
      clear hlw
      generalize ls[k]'hlt = z at *
      obtain ⟨x, y⟩ := z
      simp only at hc1 hc2 HS HO HN hx
      have hBa : Below wr.heap.size wr (wr.alloc (.cells #[.string x, .bool y] 66)) := (Below.refl _ wr).alloc (Nat.le_refl _) _
      have HBa : Hid (Below wr.heap.size wr (wr.alloc (.cells #[.string x, .bool y] 66))) := hBa
      have HR2 : Hid (Rdy L S vR vW m n (wr.alloc (.cells #[.string x, .bool y] 66))) := HR.out.under hBa
      have HT2 : Hid (Tu L.tch w4 (wr.alloc (.cells #[.string x, .bool y] 66))) := HTu.out.alloc _
      clear hBa
      by_cases e0 : x.toList = []
      · have HE : Hid (Pl.parF Pl.S0 0 ls = Pl.parF S (k + 1) (ls.drop (k + 1))) := HS.out (by unfold Pl.skipB; rw [Ln.toL] at e0; rw [e0]; rfl)
        go_wp2_with fail
        go_roundw
        case rel => exact ⟨k + 1, S, vR, vW, by omega, by go_num, HR2, HT2, HE⟩
        case measure => simp [intOf]; omega
      have hpos : 0 < x.size := Pl.size_pos e0
      have HH : Hid (x.data.toList.head? = some x[0]) := Pl.head_byte hpos
      have e0' : (x.toList == []) = false := by simpa using e0
      have e0'' : x.toList.isEmpty = false := by simpa using e0
      by_cases e1 : x[0] = 35
      · have HE : Hid (Pl.parF Pl.S0 0 ls = Pl.parF S (k + 1) (ls.drop (k + 1))) := HS.out (by unfold Pl.skipB; rw [HH.out, e1]; rfl)
        have d1 : ((x[0].toNat : Int) == 35) = true := by rw [e1]; rfl
        clear e1
        go_wp2_with fail
        go_roundw
        case rel => exact ⟨k + 1, S, vR, vW, by omega, by go_num, HR2, HT2, HE⟩
        case measure => simp [intOf]; omega
      have hsk : Pl.skipB x = false := by
        unfold Pl.skipB
        rw [HH.out]
        have : (some x[0] == some (35 : UInt8)) = false := by rw [beq_eq_false_iff_ne]; intro q; exact e1 (Option.some.inj q)
        rw [this]; rfl
      have d1 : ((x[0].toNat : Int) == 35) = false := by
        rw [beq_eq_false_iff_ne]; intro e; exact e1 (by rw [← UInt8.toNat_inj]; simp; omega)
      have HC : Hid (Calls Tryz.prog 46 #[.map (some m), .string x] (wr.alloc (.cells #[.string x, .bool y] 66)) fun e w' => ∃ vR' vW', e = .returned (.int .i64 ((Pl.lineR S x.data.toList).1 : Nat)) ∧ Rdy L (Pl.lineR S x.data.toList).2 vR' vW' m n w' ∧ Tu L.tch (wr.alloc (.cells #[.string x, .bool y] 66)) w') := readLine_any L S vR vW m n x _ HR2.out hx
      have HO2 : Hid ((Pl.lineR S x.data.toList).1 = 0 → Pl.parF Pl.S0 0 ls = Pl.parF (Pl.lineR S x.data.toList).2 (k + 1) (ls.drop (k + 1))) := HO.out hsk
      have HN2 : Hid (¬ (Pl.lineR S x.data.toList).1 = 0 → Pl.parF Pl.S0 0 ls = .inl (k + 1, (Pl.lineR S x.data.toList).1)) := HN.out hsk
      clear e1 hsk HO HN HS
      generalize Pl.lineR S x.data.toList = Z at *
      obtain ⟨rule, S'⟩ := Z
      simp only at HC HO2 HN2
      by_cases c0 : rule = 0
      · subst c0
        have HE : Hid (Pl.parF Pl.S0 0 ls = Pl.parF S' (k + 1) (ls.drop (k + 1))) := HO2.out rfl
        go_wp2_with fail
        refine HC.out.mono ?_
        rintro e w6 ⟨vR', vW', rfl, hrd, htu⟩
        have HR6 : Hid (Rdy L S' vR' vW' m n w6) := hrd
        have HT6 : Hid (Tu L.tch w4 w6) := HT2.out.trans htu (fun _ _ e => e)
        clear hrd htu
        go_wp2_with fail
        go_roundw
        case rel => exact ⟨k + 1, S', vR', vW', by omega, by go_num, HR6, HT6, HE⟩
        case measure => simp [intOf]; omega
      · have HE : Hid (Pl.parF Pl.S0 0 ls = .inl (k + 1, rule)) := HN2.out c0
        have d2 : ((rule : Int) != 0) = true := by rw [bne_iff_ne]; omega
        go_wp2_with fail
        refine HC.out.mono ?_
        rintro e w6 ⟨vR', vW', rfl, hrd, htu⟩
        have HT6 : Hid (Tu L.tch w4 w6) := HT2.out.trans htu (fun _ _ e => e)
        have z0 : w6.heap[w.heap.size]? = some zPol := (HT6.out.block _ (by have := HT.out.2.2.2.2.2; omega) (fun q => by have := HT.out.2.1 _ q; omega)).trans HZ0.out
        have z1 : w6.heap[w.heap.size + 1]? = some zFau := (HT6.out.block _ (by have := HT.out.2.2.2.2.2; omega) (fun q => by have := HT.out.2.1 _ q; omega)).trans HZ1.out
        have HY0 : Hid (w6.heap[w.heap.size]? = some zPol) := z0
        have HY1 : Hid (w6.heap[w.heap.size + 1]? = some zFau) := z1
        have p0 : w6.cell? ⟨w.heap.size, 0, none⟩ = some (.slice none 0 0) := by simp only [World.cell?, z0]; rfl
        have p1 : w6.cell? ⟨w.heap.size, 1, none⟩ = some (.slice none 0 0) := by simp only [World.cell?, z0]; rfl
        have p2 : w6.cell? ⟨w.heap.size, 2, none⟩ = some (.int .i64 0) := by simp only [World.cell?, z0]; rfl
        have p3 : w6.cell? ⟨w.heap.size, 3, none⟩ = some (.int .i64 0) := by simp only [World.cell?, z0]; rfl
        have p4 : w6.cell? ⟨w.heap.size, 4, none⟩ = some (.int .i64 0) := by simp only [World.cell?, z0]; rfl
        have p5 : w6.cell? ⟨w.heap.size, 5, none⟩ = some (.int .i64 0) := by simp only [World.cell?, z0]; rfl
        have q0 : w6.cell? ⟨w.heap.size + 1, 0, none⟩ = some (.int .i64 0) := by simp only [World.cell?, z1]; rfl
        have q1 : w6.cell? ⟨w.heap.size + 1, 1, none⟩ = some (.int .i64 0) := by simp only [World.cell?, z1]; rfl
        have f0 : ∀ j, w6.frozen? ⟨w.heap.size, j, none⟩ = false := fun j => frozen_of_row w6 _ j _ _ z0
        have f1 : ∀ j, w6.frozen? ⟨w.heap.size + 1, j, none⟩ = false := fun j => frozen_of_row w6 _ j _ _ z1
        clear hrd htu z0 z1
        go_wp2_with fail
        obtain ⟨y0, y1, y2⟩ := put62_at HY0.out HY1.out (by omega) (.slice none 0 0) (.slice none 0 0) (.int .i64 0) (.int .i64 0) (.int .i64 0) (.int .i64 0) (.int .i64 ((k : Int) + 1)) (.int .i64 (rule : Int))
        refine bodyPost_ret (results_pol rfl _ _ w.heap.size (w.heap.size + 1) _ _ _ _ _ _ _ _ rfl rfl y0 y1) rfl ?_
        rw [HE.out]
        refine ⟨?_, rfl⟩
        have t6 : Tu (fun k => w.heap.size ≤ k) w4 (put62 w6 w.heap.size (w.heap.size + 1) (.slice none 0 0) (.slice none 0 0) (.int .i64 0) (.int .i64 0) (.int .i64 0) (.int .i64 0) (.int .i64 ((k : Int) + 1)) (.int .i64 (rule : Int))) := (HT6.out.mono (fun k _ e => by have := HT.out.2.1 k e; omega)).trans y2 (fun k _ e => by rcases e with e | e <;> omega)
        exact HT.out.2.2.2.1.trans (t6.below HT.out.2.2.2.1.size (fun k e => e))
    · have HE : Hid (Pl.parF Pl.S0 0 ls = .inr S) := HP.out.trans (Pl.par_end (by omega))
      obtain ⟨av, cv, rfl, _⟩ := HR.out.st.R.row.pts (by have := HR.out.hl.1; omega)
      obtain ⟨aw, cw, rfl, _⟩ := HR.out.st.W.row.pts (by have := HR.out.hl.2; omega)
      have hl1 := HR.out.hl.1
      have hl2 := HR.out.hl.2
      have i1 : ¬ (k : Int) < (ls.length : Int) := by omega
      have z0 : wr.heap[w.heap.size]? = some zPol := (HTu.out.block _ (by have := HT.out.2.2.2.2.2; omega) (fun q => by have := HT.out.2.1 _ q; omega)).trans HZ0.out
      have z1 : wr.heap[w.heap.size + 1]? = some zFau := (HTu.out.block _ (by have := HT.out.2.2.2.2.2; omega) (fun q => by have := HT.out.2.1 _ q; omega)).trans HZ1.out
      have z2 := HR.out.st.p
      rw [HT.out.2.2.1] at z2
      have HY0 : Hid (wr.heap[w.heap.size]? = some zPol) := z0
      have HY1 : Hid (wr.heap[w.heap.size + 1]? = some zFau) := z1
      have p0 : wr.cell? ⟨w.heap.size, 0, none⟩ = some (.slice none 0 0) := by simp only [World.cell?, z0]; rfl
      have p1 : wr.cell? ⟨w.heap.size, 1, none⟩ = some (.slice none 0 0) := by simp only [World.cell?, z0]; rfl
      have p2 : wr.cell? ⟨w.heap.size, 2, none⟩ = some (.int .i64 0) := by simp only [World.cell?, z0]; rfl
      have p3 : wr.cell? ⟨w.heap.size, 3, none⟩ = some (.int .i64 0) := by simp only [World.cell?, z0]; rfl
      have p4 : wr.cell? ⟨w.heap.size, 4, none⟩ = some (.int .i64 0) := by simp only [World.cell?, z0]; rfl
      have p5 : wr.cell? ⟨w.heap.size, 5, none⟩ = some (.int .i64 0) := by simp only [World.cell?, z0]; rfl
      have q0 : wr.cell? ⟨w.heap.size + 1, 0, none⟩ = some (.int .i64 0) := by simp only [World.cell?, z1]; rfl
      have q1 : wr.cell? ⟨w.heap.size + 1, 1, none⟩ = some (.int .i64 0) := by simp only [World.cell?, z1]; rfl
      have r0 : wr.cell? ⟨w.heap.size + 1 + 1, 0, none⟩ = some (.slice av S.R.length cv) := by simp only [World.cell?, z2]; rfl
      have r1 : wr.cell? ⟨w.heap.size + 1 + 1, 1, none⟩ = some (.slice aw S.W.length cw) := by simp only [World.cell?, z2]; rfl
      have r2 : wr.cell? ⟨w.heap.size + 1 + 1, 2, none⟩ = some (.int .i64 (S.q 0 : Nat)) := by simp only [World.cell?, z2]; rfl
      have r3 : wr.cell? ⟨w.heap.size + 1 + 1, 3, none⟩ = some (.int .i64 (S.q 1 : Nat)) := by simp only [World.cell?, z2]; rfl
      have r4 : wr.cell? ⟨w.heap.size + 1 + 1, 4, none⟩ = some (.int .i64 (S.q 2 : Nat)) := by simp only [World.cell?, z2]; rfl
      have r5 : wr.cell? ⟨w.heap.size + 1 + 1, 5, none⟩ = some (.int .i64 (S.q 3 : Nat)) := by simp only [World.cell?, z2]; rfl
      have f0 : ∀ j, wr.frozen? ⟨w.heap.size, j, none⟩ = false := fun j => frozen_of_row wr _ j _ _ z0
      have f1 : ∀ j, wr.frozen? ⟨w.heap.size + 1, j, none⟩ = false := fun j => frozen_of_row wr _ j _ _ z1
      have HS : Hid (∀ i, S.q i = S.q i) := fun _ => rfl
      clear z0 z1 z2
      generalize hs0 : S.q 0 = s0 at *
      generalize hs1 : S.q 1 = s1 at *
      generalize hs2 : S.q 2 = s2 at *
      generalize hs3 : S.q 3 = s3 at *
      have HQ : Hid (S.q 0 = s0 ∧ S.q 1 = s1 ∧ S.q 2 = s2 ∧ S.q 3 = s3) := ⟨hs0, hs1, hs2, hs3⟩
      clear hs0 hs1 hs2 hs3 HS
      go_wp2_with fail
      obtain ⟨y0, y1, y2⟩ := put62_at HY0.out HY1.out (by omega) (.slice av S.R.length cv) (.slice aw S.W.length cw) (.int .i64 (s0 : Int)) (.int .i64 (s1 : Int)) (.int .i64 (s2 : Int)) (.int .i64 (s3 : Int)) (.int .i64 0) (.int .i64 0)
      refine bodyPost_ret (results_pol rfl _ _ w.heap.size (w.heap.size + 1) _ _ _ _ _ _ _ _ rfl rfl y0 y1) rfl ?_
      rw [HE.out]
      have hrow : ∀ v u l, PRowO wr L.N v u l → PRowO (put62 wr w.heap.size (w.heap.size + 1) (.slice av S.R.length cv) (.slice aw S.W.length cw) (.int .i64 (s0 : Int)) (.int .i64 (s1 : Int)) (.int .i64 (s2 : Int)) (.int .i64 (s3 : Int)) (.int .i64 0) (.int .i64 0)) w.heap.size v u l := fun v u l hp => by
        refine PRowO.base (hp.far y2 (fun b hb e => ?_) (fun x c p hs hpn ad hx => zfar HY0.out HY1.out x c p hs hpn ad hx)) HT.out.2.2.2.2.1
        obtain ⟨xs, k1, _⟩ := hp
        have h1 := (k1.lt b hb).1
        have h2 := HT.out.2.2.2.2.1
        have h3 := HR.out.st.bx.pN
        rw [HT.out.2.2.1] at h3
        rcases e with e | e <;> omega
      obtain ⟨g0, g1, g2, g3⟩ := HQ.out
      refine ⟨?_, _, _, by rw [g0, g1, g2, g3]; rfl, hrow _ _ _ HR.out.st.R, hrow _ _ _ HR.out.st.W, HR.out.st.ne, HR.out.hl.1, HR.out.hl.2⟩
      have t6 : Tu (fun k => w.heap.size ≤ k) w4 (put62 wr w.heap.size (w.heap.size + 1) (.slice av S.R.length cv) (.slice aw S.W.length cw) (.int .i64 (s0 : Int)) (.int .i64 (s1 : Int)) (.int .i64 (s2 : Int)) (.int .i64 (s3 : Int)) (.int .i64 0) (.int .i64 0)) := (HTu.out.mono (fun k _ e => by have := HT.out.2.1 k e; omega)).trans y2 (fun k _ e => by rcases e with e | e <;> omega)
      exact HT.out.2.2.2.1.trans (t6.below HT.out.2.2.2.1.size (fun k e => e))
end Go.Proofs.YtcloljkaojnipaaGreatDoor
namespace Go.Proofs.YtcloljkaojnipaaGreatDoor
open Go.RowKit

theorem spl_le : ∀ (l : List UInt8), ∀ x ∈ Ln.spl l, x.1.length ≤ l.length
  | [], x, hx => by simp [Ln.spl] at hx
  | c :: l, x, hx => by
    have ih := spl_le l
    by_cases hc : (c == 10) = true
    · obtain rfl : c = 10 := by simpa using hc
      rw [Ln.spl_lf] at hx
      rcases List.mem_cons.1 hx with rfl | hx
      · simp
      · have := ih x hx; simp only [List.length_cons]; omega
    · rw [Ln.spl_other (by simpa using hc)] at hx
      cases hs : Ln.spl l with
      | nil =>
        rw [hs] at hx
        simp [Ln.glue] at hx
        subst hx
        simp
      | cons y r =>
        rw [hs] at hx ih
        simp only [Ln.glue, List.mem_cons] at hx
        rcases hx with rfl | hx
        · have := ih y (by simp); simp only [List.length_append, List.length_cons, List.length_nil]; omega
        · have := ih x (by simp [hx]); simp only [List.length_cons]; omega
theorem splB_le (s : ByteArray) : ∀ x ∈ Ln.splB s, x.1.size ≤ s.size := fun x hx => by
  unfold Ln.splB at hx
  obtain ⟨y, hy, rfl⟩ := List.mem_map.1 hx
  have := spl_le _ y hy
  rw [Ln.szL] at this
  show (Ln.bs y.1).size ≤ _
  rw [Ln.bs_size]
  exact this

set_option maxRecDepth 100000 in
set_option maxHeartbeats 4000000 in
theorem parse_big (s : ByteArray) (w : World) (T : PT w) (hs : s.size ≤ 16777216) :
    Calls Tryz.prog 23 #[.string s] w (ParE w (Pl.parF Pl.S0 0 (Ln.splB s))) := by
  have hT := T.size
  obtain ⟨W, hW⟩ : ∃ W, W = ((w.alloc zPol).alloc zFau).alloc zPol := ⟨_, rfl⟩
  have hsz : W.heap.size = w.heap.size + 3 := by rw [hW]; simp
  have hBW : Below w.heap.size w W := by rw [hW]; exact (((Below.refl _ w).alloc (Nat.le_refl _) _).alloc (by simp) _).alloc (by simp; omega) _
  have b0 : W.heap[w.heap.size]? = some zPol := by rw [hW, heap_alloc_old _ _ (by simp; omega), heap_alloc_old _ _ (by simp)]; exact heap_alloc_new w _
  have b1 : W.heap[w.heap.size + 1]? = some zFau := by rw [hW, heap_alloc_old _ _ (by simp), show w.heap.size + 1 = (w.alloc zPol).heap.size from by simp]; exact heap_alloc_new _ _
  have b2 : W.heap[w.heap.size + 1 + 1]? = some zPol := by rw [hW, show w.heap.size + 1 + 1 = ((w.alloc zPol).alloc zFau).heap.size from by simp]; exact heap_alloc_new _ _
  have HW : Hid (W = ((w.alloc zPol).alloc zFau).alloc zPol) := hW
  have HF : Hid (Below w.heap.size w W ∧ W.heap[w.heap.size]? = some zPol ∧ W.heap[w.heap.size + 1]? = some zFau ∧ W.heap[w.heap.size + 1 + 1]? = some zPol ∧ W.heap.size = w.heap.size + 3) := ⟨hBW, b0, b1, b2, hsz⟩
  have HRd := readers_any (w.heap.size + 1 + 1) W (by omega)
  clear hW hBW b0 b1 b2 hsz
  simp only [zPol, zFau] at HW
  go_enter Tryz.func23, Tryz.ntmps23
  go_wp2_with fail
  rw [← HW.out]
  refine HRd.mono ?_
  rintro e w1 ⟨m, n, bR, bW, qb, tb, rfl, hrl⟩
  have HR1 : Hid (RL W.heap.size (w.heap.size + 1 + 1) m bR bW 4 n qb tb W w1) := hrl
  clear hrl HRd HW
  go_wp2_with fail
  refine (split_any s w1 (by omega)).mono ?_
  rintro e w4 ⟨v, rfl, hown, hb4⟩
  obtain ⟨a, cap, rfl, hln⟩ := own_lns hown (by have := Ln.splB_len s; omega) (fun x hx => by
    have := splB_le s x hx
    omega)
  have hage : ∀ ad, a = some ad → w1.heap.size ≤ ad.block ∧ ad.block < w4.heap.size := fun ad e => by subst e; exact hown.lt ad.block rfl
  have HR4 : Hid (RL W.heap.size (w.heap.size + 1 + 1) m bR bW 4 n qb tb W w4) := HR1.out.under hb4
  have HA : Hid (∀ ad, a = some ad → w1.heap.size ≤ ad.block ∧ ad.block < w4.heap.size) := hage
  have HL4 : Hid (Lns w4 a cap (Ln.splB s)) := hln
  have hln' := hln.len
  have hls : ∀ x ∈ Ln.splB s, x.1.size ≤ 16777216 := fun x hx => by have := splB_le s x hx; omega
  have HSz : Hid (∀ x ∈ Ln.splB s, x.1.size ≤ 16777216) := hls
  clear hls hln hown hage
  generalize Ln.splB s = ls at *
  obtain ⟨L, hL⟩ : ∃ L : Lo, L = ⟨w.heap.size + 1 + 1, bR, bW, qb, tb, w4.heap.size⟩ := ⟨_, rfl⟩
  have hB4 : Below w.heap.size w w4 := HF.out.1.trans (HR4.out.bel.mono HF.out.1.size)
  have hW4 := HR4.out.hN
  have hWs := HF.out.2.2.2.2
  have tch : ∀ k, L.tch k → k = w.heap.size + 1 + 1 ∨ (∃ i, i < 4 ∧ k = tb i) ∨ w4.heap.size ≤ k := fun k hk => by rw [hL] at hk; exact hk
  have hG : ∀ k, L.tch k → w.heap.size + 1 < k := fun k hk => by
    rcases tch k hk with e | ⟨i, hi, e⟩ | e
    · omega
    · have := HR4.out.tN i hi; omega
    · omega
  have hadt : ∀ ad, a = some ad → ¬ L.tch ad.block := fun ad e q => by
    have h1 := HA.out ad e
    rcases tch _ q with q | ⟨i, hi, q⟩ | q
    · have := HR1.out.hN; omega
    · have := lt_of_block (HR1.out.t i hi); omega
    · omega
  have hmt : ¬ L.tch m := fun q => by
    rcases tch _ q with q | ⟨i, hi, q⟩ | q
    · have := HR4.out.mN; omega
    · exact map_ne HR4.out.mp (HR4.out.t i hi) q.symm
    · have := HR4.out.mp.lt; omega
  have HR : Hid (Rdy L Pl.S0 (.slice none 0 0) (.slice none 0 0) m n w4) := by
    refine ⟨T.under hB4, ⟨?_, ?_, ?_, PRowO.empty _ _ _, PRowO.empty _ _ _, fun b hb => (by cases hb), (by rw [hL]; exact Nat.le_refl _)⟩, ?_, fun s => ⟨by simp, by simp⟩, ⟨by simp [Pl.S0], by simp [Pl.S0]⟩, fun k hk => by have := hG k hk; omega, ?_, hmt⟩
    · rw [hL]; exact HR4.out.bxs (by omega) _ (Nat.le_refl _)
    · rw [hL]
      show w4.heap[w.heap.size + 1 + 1]? = _
      rw [HR4.out.bel.block _ (by omega)]; exact HF.out.2.2.2.1
    · rw [hL]; exact HR4.out.t
    · rw [hL]; exact HR4.out.mp
    · rw [hL]; exact HR4.out.mp.lt
  have HZ0 : Hid (w4.heap[w.heap.size]? = some zPol) := (HR4.out.bel.block _ (by omega)).trans HF.out.2.1
  have HZ1 : Hid (w4.heap[w.heap.size + 1]? = some zFau) := (HR4.out.bel.block _ (by omega)).trans HF.out.2.2.1
  have HT : Hid ((∀ ad, a = some ad → ¬ L.tch ad.block) ∧ (∀ k, L.tch k → w.heap.size + 1 < k) ∧ L.pg = w.heap.size + 1 + 1 ∧ Below w.heap.size w w4 ∧ w.heap.size ≤ L.N ∧ w.heap.size + 1 < w4.heap.size) := ⟨hadt, hG, by rw [hL], hB4, by rw [hL]; exact hB4.size, by omega⟩
  clear hL tch hG hadt hmt HF HR1 HR4 HA hb4 hW4 hWs hB4
  go_wp2_with fail
  go_loopw [7, 8, 9, 14] (fun _ _ _ c wr => ∃ (k : Nat) (S : Pl.PSt) (vR vW : Value), k ≤ ls.length ∧ c = .int .i64 k ∧ Hid (Rdy L S vR vW m n wr) ∧ Hid (Tu L.tch w4 wr) ∧ Hid (Pl.parF Pl.S0 0 ls = Pl.parF S k (ls.drop k))) (fun _ _ _ c _ => ls.length - (intOf c).toNat)
  case atStart => exact ⟨0, Pl.S0, _, _, Nat.zero_le _, rfl, HR, Tu.refl _ _, rfl⟩
  case round =>
    clear HR
    obtain ⟨k, S, vR, vW, hk, rfl, HR, HTu, HP⟩ := hrel
    by_cases hlt : k < ls.length
    · have hlw := HL4.out.tu HTu.out HT.out.1
      obtain ⟨b, off, rfl, hb, hc1, hc2⟩ := hlw.cells k hlt
      have i1 : (k : Int) < (ls.length : Int) := by omega
      have HS : Hid (Pl.skipB (ls[k]'hlt).1 = true → Pl.parF Pl.S0 0 ls = Pl.parF S (k + 1) (ls.drop (k + 1))) := fun q => HP.out.trans (Pl.par_skip hlt q)
      have HO : Hid (Pl.skipB (ls[k]'hlt).1 = false → (Pl.lineR S (ls[k]'hlt).1.data.toList).1 = 0 → Pl.parF Pl.S0 0 ls = Pl.parF (Pl.lineR S (ls[k]'hlt).1.data.toList).2 (k + 1) (ls.drop (k + 1))) := fun q r => HP.out.trans (Pl.par_on hlt q r)
      have HN : Hid (Pl.skipB (ls[k]'hlt).1 = false → ¬ (Pl.lineR S (ls[k]'hlt).1.data.toList).1 = 0 → Pl.parF Pl.S0 0 ls = .inl (k + 1, (Pl.lineR S (ls[k]'hlt).1.data.toList).1)) := fun q r => HP.out.trans (Pl.par_bad hlt q r)
      have hx := HSz.out _ (List.getElem_mem hlt)
      clear hlw
      generalize ls[k]'hlt = z at *
      obtain ⟨x, y⟩ := z
      simp only at hc1 hc2 HS HO HN hx
      have hBa : Below wr.heap.size wr (wr.alloc (.cells #[.string x, .bool y] 66)) := (Below.refl _ wr).alloc (Nat.le_refl _) _
      have HBa : Hid (Below wr.heap.size wr (wr.alloc (.cells #[.string x, .bool y] 66))) := hBa
      have HR2 : Hid (Rdy L S vR vW m n (wr.alloc (.cells #[.string x, .bool y] 66))) := HR.out.under hBa
      have HT2 : Hid (Tu L.tch w4 (wr.alloc (.cells #[.string x, .bool y] 66))) := HTu.out.alloc _
      clear hBa
      by_cases e0 : x.toList = []
      · have HE : Hid (Pl.parF Pl.S0 0 ls = Pl.parF S (k + 1) (ls.drop (k + 1))) := HS.out (by unfold Pl.skipB; rw [Ln.toL] at e0; rw [e0]; rfl)
        go_wp2_with fail
        go_roundw
        case rel => exact ⟨k + 1, S, vR, vW, by omega, by go_num, HR2, HT2, HE⟩
        case measure => simp [intOf]; omega
      have hpos : 0 < x.size := Pl.size_pos e0
      have HH : Hid (x.data.toList.head? = some x[0]) := Pl.head_byte hpos
      have e0' : (x.toList == []) = false := by simpa using e0
      have e0'' : x.toList.isEmpty = false := by simpa using e0
      by_cases e1 : x[0] = 35
      · have HE : Hid (Pl.parF Pl.S0 0 ls = Pl.parF S (k + 1) (ls.drop (k + 1))) := HS.out (by unfold Pl.skipB; rw [HH.out, e1]; rfl)
        have d1 : ((x[0].toNat : Int) == 35) = true := by rw [e1]; rfl
        clear e1
        go_wp2_with fail
        go_roundw
        case rel => exact ⟨k + 1, S, vR, vW, by omega, by go_num, HR2, HT2, HE⟩
        case measure => simp [intOf]; omega
      have hsk : Pl.skipB x = false := by
        unfold Pl.skipB
        rw [HH.out]
        have : (some x[0] == some (35 : UInt8)) = false := by rw [beq_eq_false_iff_ne]; intro q; exact e1 (Option.some.inj q)
        rw [this]; rfl
      have d1 : ((x[0].toNat : Int) == 35) = false := by
        rw [beq_eq_false_iff_ne]; intro e; exact e1 (by rw [← UInt8.toNat_inj]; simp; omega)
      have HC : Hid (Calls Tryz.prog 46 #[.map (some m), .string x] (wr.alloc (.cells #[.string x, .bool y] 66)) fun e w' => ∃ vR' vW', e = .returned (.int .i64 ((Pl.lineR S x.data.toList).1 : Nat)) ∧ Rdy L (Pl.lineR S x.data.toList).2 vR' vW' m n w' ∧ Tu L.tch (wr.alloc (.cells #[.string x, .bool y] 66)) w') := readLine_any L S vR vW m n x _ HR2.out hx
      have HO2 : Hid ((Pl.lineR S x.data.toList).1 = 0 → Pl.parF Pl.S0 0 ls = Pl.parF (Pl.lineR S x.data.toList).2 (k + 1) (ls.drop (k + 1))) := HO.out hsk
      have HN2 : Hid (¬ (Pl.lineR S x.data.toList).1 = 0 → Pl.parF Pl.S0 0 ls = .inl (k + 1, (Pl.lineR S x.data.toList).1)) := HN.out hsk
      clear e1 hsk HO HN HS
      generalize Pl.lineR S x.data.toList = Z at *
      obtain ⟨rule, S'⟩ := Z
      simp only at HC HO2 HN2
      by_cases c0 : rule = 0
      · subst c0
        have HE : Hid (Pl.parF Pl.S0 0 ls = Pl.parF S' (k + 1) (ls.drop (k + 1))) := HO2.out rfl
        go_wp2_with fail
        refine HC.out.mono ?_
        rintro e w6 ⟨vR', vW', rfl, hrd, htu⟩
        have HR6 : Hid (Rdy L S' vR' vW' m n w6) := hrd
        have HT6 : Hid (Tu L.tch w4 w6) := HT2.out.trans htu (fun _ _ e => e)
        clear hrd htu
        go_wp2_with fail
        go_roundw
        case rel => exact ⟨k + 1, S', vR', vW', by omega, by go_num, HR6, HT6, HE⟩
        case measure => simp [intOf]; omega
      · have HE : Hid (Pl.parF Pl.S0 0 ls = .inl (k + 1, rule)) := HN2.out c0
        have d2 : ((rule : Int) != 0) = true := by rw [bne_iff_ne]; omega
        go_wp2_with fail
        refine HC.out.mono ?_
        rintro e w6 ⟨vR', vW', rfl, hrd, htu⟩
        have HT6 : Hid (Tu L.tch w4 w6) := HT2.out.trans htu (fun _ _ e => e)
        have z0 : w6.heap[w.heap.size]? = some zPol := (HT6.out.block _ (by have := HT.out.2.2.2.2.2; omega) (fun q => by have := HT.out.2.1 _ q; omega)).trans HZ0.out
        have z1 : w6.heap[w.heap.size + 1]? = some zFau := (HT6.out.block _ (by have := HT.out.2.2.2.2.2; omega) (fun q => by have := HT.out.2.1 _ q; omega)).trans HZ1.out
        have HY0 : Hid (w6.heap[w.heap.size]? = some zPol) := z0
        have HY1 : Hid (w6.heap[w.heap.size + 1]? = some zFau) := z1
        have p0 : w6.cell? ⟨w.heap.size, 0, none⟩ = some (.slice none 0 0) := by simp only [World.cell?, z0]; rfl
        have p1 : w6.cell? ⟨w.heap.size, 1, none⟩ = some (.slice none 0 0) := by simp only [World.cell?, z0]; rfl
        have p2 : w6.cell? ⟨w.heap.size, 2, none⟩ = some (.int .i64 0) := by simp only [World.cell?, z0]; rfl
        have p3 : w6.cell? ⟨w.heap.size, 3, none⟩ = some (.int .i64 0) := by simp only [World.cell?, z0]; rfl
        have p4 : w6.cell? ⟨w.heap.size, 4, none⟩ = some (.int .i64 0) := by simp only [World.cell?, z0]; rfl
        have p5 : w6.cell? ⟨w.heap.size, 5, none⟩ = some (.int .i64 0) := by simp only [World.cell?, z0]; rfl
        have q0 : w6.cell? ⟨w.heap.size + 1, 0, none⟩ = some (.int .i64 0) := by simp only [World.cell?, z1]; rfl
        have q1 : w6.cell? ⟨w.heap.size + 1, 1, none⟩ = some (.int .i64 0) := by simp only [World.cell?, z1]; rfl
        have f0 : ∀ j, w6.frozen? ⟨w.heap.size, j, none⟩ = false := fun j => frozen_of_row w6 _ j _ _ z0
        have f1 : ∀ j, w6.frozen? ⟨w.heap.size + 1, j, none⟩ = false := fun j => frozen_of_row w6 _ j _ _ z1
        clear hrd htu z0 z1
        go_wp2_with fail
        obtain ⟨y0, y1, y2⟩ := put62_at HY0.out HY1.out (by omega) (.slice none 0 0) (.slice none 0 0) (.int .i64 0) (.int .i64 0) (.int .i64 0) (.int .i64 0) (.int .i64 ((k : Int) + 1)) (.int .i64 (rule : Int))
        refine bodyPost_ret (results_pol rfl _ _ w.heap.size (w.heap.size + 1) _ _ _ _ _ _ _ _ rfl rfl y0 y1) rfl ?_
        rw [HE.out]
        refine ⟨?_, rfl⟩
        have t6 : Tu (fun k => w.heap.size ≤ k) w4 (put62 w6 w.heap.size (w.heap.size + 1) (.slice none 0 0) (.slice none 0 0) (.int .i64 0) (.int .i64 0) (.int .i64 0) (.int .i64 0) (.int .i64 ((k : Int) + 1)) (.int .i64 (rule : Int))) := (HT6.out.mono (fun k _ e => by have := HT.out.2.1 k e; omega)).trans y2 (fun k _ e => by rcases e with e | e <;> omega)
        exact HT.out.2.2.2.1.trans (t6.below HT.out.2.2.2.1.size (fun k e => e))
    · have HE : Hid (Pl.parF Pl.S0 0 ls = .inr S) := HP.out.trans (Pl.par_end (by omega))
      obtain ⟨av, cv, rfl, _⟩ := HR.out.st.R.row.pts (by have := HR.out.hl.1; omega)
      obtain ⟨aw, cw, rfl, _⟩ := HR.out.st.W.row.pts (by have := HR.out.hl.2; omega)
      have hl1 := HR.out.hl.1
      have hl2 := HR.out.hl.2
      have i1 : ¬ (k : Int) < (ls.length : Int) := by omega
      have z0 : wr.heap[w.heap.size]? = some zPol := (HTu.out.block _ (by have := HT.out.2.2.2.2.2; omega) (fun q => by have := HT.out.2.1 _ q; omega)).trans HZ0.out
      have z1 : wr.heap[w.heap.size + 1]? = some zFau := (HTu.out.block _ (by have := HT.out.2.2.2.2.2; omega) (fun q => by have := HT.out.2.1 _ q; omega)).trans HZ1.out
      have z2 := HR.out.st.p
      rw [HT.out.2.2.1] at z2
      have HY0 : Hid (wr.heap[w.heap.size]? = some zPol) := z0
      have HY1 : Hid (wr.heap[w.heap.size + 1]? = some zFau) := z1
      have p0 : wr.cell? ⟨w.heap.size, 0, none⟩ = some (.slice none 0 0) := by simp only [World.cell?, z0]; rfl
      have p1 : wr.cell? ⟨w.heap.size, 1, none⟩ = some (.slice none 0 0) := by simp only [World.cell?, z0]; rfl
      have p2 : wr.cell? ⟨w.heap.size, 2, none⟩ = some (.int .i64 0) := by simp only [World.cell?, z0]; rfl
      have p3 : wr.cell? ⟨w.heap.size, 3, none⟩ = some (.int .i64 0) := by simp only [World.cell?, z0]; rfl
      have p4 : wr.cell? ⟨w.heap.size, 4, none⟩ = some (.int .i64 0) := by simp only [World.cell?, z0]; rfl
      have p5 : wr.cell? ⟨w.heap.size, 5, none⟩ = some (.int .i64 0) := by simp only [World.cell?, z0]; rfl
      have q0 : wr.cell? ⟨w.heap.size + 1, 0, none⟩ = some (.int .i64 0) := by simp only [World.cell?, z1]; rfl
      have q1 : wr.cell? ⟨w.heap.size + 1, 1, none⟩ = some (.int .i64 0) := by simp only [World.cell?, z1]; rfl
      have r0 : wr.cell? ⟨w.heap.size + 1 + 1, 0, none⟩ = some (.slice av S.R.length cv) := by simp only [World.cell?, z2]; rfl
      have r1 : wr.cell? ⟨w.heap.size + 1 + 1, 1, none⟩ = some (.slice aw S.W.length cw) := by simp only [World.cell?, z2]; rfl
      have r2 : wr.cell? ⟨w.heap.size + 1 + 1, 2, none⟩ = some (.int .i64 (S.q 0 : Nat)) := by simp only [World.cell?, z2]; rfl
      have r3 : wr.cell? ⟨w.heap.size + 1 + 1, 3, none⟩ = some (.int .i64 (S.q 1 : Nat)) := by simp only [World.cell?, z2]; rfl
      have r4 : wr.cell? ⟨w.heap.size + 1 + 1, 4, none⟩ = some (.int .i64 (S.q 2 : Nat)) := by simp only [World.cell?, z2]; rfl
      have r5 : wr.cell? ⟨w.heap.size + 1 + 1, 5, none⟩ = some (.int .i64 (S.q 3 : Nat)) := by simp only [World.cell?, z2]; rfl
      have f0 : ∀ j, wr.frozen? ⟨w.heap.size, j, none⟩ = false := fun j => frozen_of_row wr _ j _ _ z0
      have f1 : ∀ j, wr.frozen? ⟨w.heap.size + 1, j, none⟩ = false := fun j => frozen_of_row wr _ j _ _ z1
      have HS : Hid (∀ i, S.q i = S.q i) := fun _ => rfl
      clear z0 z1 z2
      generalize hs0 : S.q 0 = s0 at *
      generalize hs1 : S.q 1 = s1 at *
      generalize hs2 : S.q 2 = s2 at *
      generalize hs3 : S.q 3 = s3 at *
      have HQ : Hid (S.q 0 = s0 ∧ S.q 1 = s1 ∧ S.q 2 = s2 ∧ S.q 3 = s3) := ⟨hs0, hs1, hs2, hs3⟩
      clear hs0 hs1 hs2 hs3 HS
      go_wp2_with fail
      obtain ⟨y0, y1, y2⟩ := put62_at HY0.out HY1.out (by omega) (.slice av S.R.length cv) (.slice aw S.W.length cw) (.int .i64 (s0 : Int)) (.int .i64 (s1 : Int)) (.int .i64 (s2 : Int)) (.int .i64 (s3 : Int)) (.int .i64 0) (.int .i64 0)
      refine bodyPost_ret (results_pol rfl _ _ w.heap.size (w.heap.size + 1) _ _ _ _ _ _ _ _ rfl rfl y0 y1) rfl ?_
      rw [HE.out]
      have hrow : ∀ v u l, PRowO wr L.N v u l → PRowO (put62 wr w.heap.size (w.heap.size + 1) (.slice av S.R.length cv) (.slice aw S.W.length cw) (.int .i64 (s0 : Int)) (.int .i64 (s1 : Int)) (.int .i64 (s2 : Int)) (.int .i64 (s3 : Int)) (.int .i64 0) (.int .i64 0)) w.heap.size v u l := fun v u l hp => by
        refine PRowO.base (hp.far y2 (fun b hb e => ?_) (fun x c p hs hpn ad hx => zfar HY0.out HY1.out x c p hs hpn ad hx)) HT.out.2.2.2.2.1
        obtain ⟨xs, k1, _⟩ := hp
        have h1 := (k1.lt b hb).1
        have h2 := HT.out.2.2.2.2.1
        have h3 := HR.out.st.bx.pN
        rw [HT.out.2.2.1] at h3
        rcases e with e | e <;> omega
      obtain ⟨g0, g1, g2, g3⟩ := HQ.out
      refine ⟨?_, _, _, by rw [g0, g1, g2, g3]; rfl, hrow _ _ _ HR.out.st.R, hrow _ _ _ HR.out.st.W, HR.out.st.ne, HR.out.hl.1, HR.out.hl.2⟩
      have t6 : Tu (fun k => w.heap.size ≤ k) w4 (put62 wr w.heap.size (w.heap.size + 1) (.slice av S.R.length cv) (.slice aw S.W.length cw) (.int .i64 (s0 : Int)) (.int .i64 (s1 : Int)) (.int .i64 (s2 : Int)) (.int .i64 (s3 : Int)) (.int .i64 0) (.int .i64 0)) := (HTu.out.mono (fun k _ e => by have := HT.out.2.1 k e; omega)).trans y2 (fun k _ e => by rcases e with e | e <;> omega)
      exact HT.out.2.2.2.1.trans (t6.below HT.out.2.2.2.1.size (fun k e => e))
end Go.Proofs.YtcloljkaojnipaaGreatDoor
