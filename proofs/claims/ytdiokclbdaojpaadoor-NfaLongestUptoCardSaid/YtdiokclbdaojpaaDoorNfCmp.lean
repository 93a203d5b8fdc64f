/- What nfa.Compile answers. -/
import Derived.Test.YtdiokclbdaojpaaDoorNfLays
import Derived.Test.YtdiokclbdaojpaaDoorNfLyts
import Derived.Test.YtdiokclbdaojpaaDoorNfM5
import Derived.Test.YtdiokclbdaojpaaDoorNfSize
import Derived.Test.YtdiokclbdaojpaaDoorNfM3
import Derived.Deep.RegionWith
import Derived.Deep.DeepCutAuto
namespace Go.Proofs.YtdiokclbdaojpaaDoor
open Go Go.RowKit

namespace Nt
/-- The program of a tree: its code, and the match behind it. -/
def prgC (T : NT) : List Ins := code T 0 0 ++ [iMatch]
/-- How a program is answered: its groups, slots and code. -/
def prgV (gr sl : Int) (v : Value) : Value := .agg #[.int .i64 gr, .int .i64 sl, v]
theorem cmp0 {T : NT} (h : cmpE T = 0) : cnt T ≤ 8192 ∧ ∃ n, numP T 1 [] = some n := by
  rw [cmpE] at h
  split at h
  · rename_i h1; exact absurd h h1
  · rename_i h1; exact chk0 (by simpa using h1)
theorem cmp_sz {T : NT} (h : cmpE T = 0) : sz T + 1 ≤ 16384 ∧ msz T = sz T := by
  obtain ⟨_, n', hnum⟩ := cmp0 h
  have hm := msz_is T 1 n' [] (by omega) hnum
  rw [cmpE] at h
  split at h
  · rename_i h1; exact absurd h h1
  · split at h
    · cases h
    · omega
theorem prg_put {w : World} {g : Nat} {t : TypeId} {c0 c1 c2 : Value} (x y z : Value) (h : w.heap[g]? = some (.cells #[c0, c1, c2] t (0, 0))) : (((w.setCell ⟨g, 0, none⟩ x).setCell ⟨g, 1, none⟩ y).setCell ⟨g, 2, none⟩ z).heap[g]? = some (.cells #[x, y, z] t (0, 0)) :=
  heap_setCell_same _ g 2 _ _ z (heap_setCell_same _ g 1 _ _ y (heap_setCell_same w g 0 _ _ x h))
theorem prg_ok {T : NT} (h1 : cnt T ≤ 8192) (h2 : sz T + 1 ≤ 16384) : ∀ x ∈ prgC T, Ok 16385 16384 x := by
  intro x hx
  rw [prgC, List.mem_append, List.mem_singleton] at hx
  rcases hx with hx | rfl
  · exact code_ok 16385 16384 T 0 0 (by omega) (by omega) x hx
  · exact ok_plain (by decide) (by decide)
theorem own_up {w : World} {b base : Nat} {e : TypeId} {size g n cap : Nat} {xs : List Value} (h : w.ownsRow b e size (.slice (some ⟨g, 0, none⟩) n cap) n xs) (hb : base ≤ g) : w.ownsRow base e size (.slice (some ⟨g, 0, none⟩) n cap) n xs := by
  refine ⟨h.1, ?_⟩
  rcases h.2 with ⟨hv, _⟩ | ⟨g', c, cur, hv, _, hg, r⟩
  · cases hv
  · simp only [Value.slice.injEq, Option.some.injEq, Addr.mk.injEq, and_true, true_and] at hv
    obtain ⟨rfl, rfl⟩ := hv
    exact .inr ⟨g, cap, cur, rfl, hb, hg, r⟩
theorem ly_new {w2 : World} {lb rb cap : Nat} {cs : Array Value} (h : w2.ownsRow 0 64 9 (.slice (some ⟨rb, 0, none⟩) 0 cap) 0 []) (hlb : lb = w2.heap.size) (hcs : cs = lyA rb 0 cap 0) : Ly (w2.alloc (.cells cs 78)) lb rb cap [] 0 := by
  subst hlb
  subst hcs
  exact ⟨heap_alloc_new w2 _, h.alloc _, fun e => by have := (h.lt rb rfl).2; omega⟩
theorem prg_oth (w : World) (g k : Nat) (x y z : Value) (h : k ≠ g) : (((w.setCell ⟨g, 0, none⟩ x).setCell ⟨g, 1, none⟩ y).setCell ⟨g, 2, none⟩ z).heap[k]? = w.heap[k]? := by
  rw [heap_setCell_other _ ⟨g, 2, none⟩ k _ h, heap_setCell_other _ ⟨g, 1, none⟩ k _ h, heap_setCell_other _ ⟨g, 0, none⟩ k _ h]
theorem prg_below {B g : Nat} {a w : World} (h : Below B a w) (hg : B ≤ g) (x y z : Value) : Below B a (((w.setCell ⟨g, 0, none⟩ x).setCell ⟨g, 1, none⟩ y).setCell ⟨g, 2, none⟩ z) :=
  ((h.setCell (p := ⟨g, 0, none⟩) hg x).setCell (p := ⟨g, 1, none⟩) hg y).setCell (p := ⟨g, 2, none⟩) hg z
end Nt
theorem results_prog {fn : Func} {p u : Tmp} (h : fn.results = #[.cell p 35, .tmp u]) (tmps : Array Value) (w : World) (g : Nat) (x y z : Value) (hp : tmps.getD p undef = .pointer (some ⟨g, 0, none⟩)) (hg : w.heap[g]? = some (.cells #[x, y, z] 35 (0, 0))) :
    (results fn tmps).run Tryd.prog w = .ok (.tuple #[.agg #[x, y, z], tmps.getD u undef]) w := by
  have hp' : tmps[p]?.getD undef = .pointer (some ⟨g, 0, none⟩) := by simpa using hp
  have hl := run_loadVar_row (P := Tryd.prog) w g 35 35 #[x, y, z] (0, 0) _ hg Tryd.underlying35 rfl (by kernel_rfl)
  rw [results_cell_tmp h]
  simp [hp', asAddr, hl]
set_option maxRecDepth 100000 in
set_option maxHeartbeats 4000000 in
theorem compile_any (T : Nt.NT) (a : Option Addr) (cap : Nat) (w : World) (hN : Nt.Nd w (· < w.heap.size) T a cap) (hTb : Nt.Tabs w) :
    Calls Tryd.prog 12 #[Nt.ndV T a cap] w fun e w' => ((Nt.cmpE T ≠ 0 ∧ e = .returned (.tuple #[Nt.prgV 0 0 (.slice none 0 0), .int .i64 (Nt.cmpE T)])) ∨ (Nt.cmpE T = 0 ∧ ∃ rb c, e = .returned (.tuple #[Nt.prgV (Nt.grps T : Nat) (Nt.slo (Nt.prgC T)) (.slice (some ⟨rb, 0, none⟩) (Nt.prgC T).length c), .int .i64 0]) ∧ w'.ownsRow w.heap.size 64 9 (.slice (some ⟨rb, 0, none⟩) (Nt.prgC T).length c) (Nt.prgC T).length (Nt.insC (Nt.prgC T)))) ∧ Below w.heap.size w w' := by
  have N0 := Nt.node_new w T a cap
  have hB0 : Below w.heap.size w (w.alloc (.cells (Nt.ndA T a cap) 28)) := (Below.refl w.heap.size w).alloc (Nat.le_refl _) _
  have hs0 : (w.alloc (.cells (Nt.ndA T a cap) 28)).heap.size = w.heap.size + 1 := by simp
  obtain ⟨W, hW⟩ : ∃ W, W = w.alloc (.cells (Nt.ndA T a cap) 28) := ⟨_, rfl⟩
  rw [← hW] at N0 hB0 hs0
  have hB1 : Below w.heap.size w (W.alloc (.cells #[.int .i64 0, .int .i64 0, .slice none 0 0] 35)) := hB0.alloc (by omega) _
  have hs1 : (W.alloc (.cells #[.int .i64 0, .int .i64 0, .slice none 0 0] 35)).heap.size = w.heap.size + 2 := by simp [hs0]
  have P1 : (W.alloc (.cells #[.int .i64 0, .int .i64 0, .slice none 0 0] 35)).heap[w.heap.size + 1]? = some (.cells #[.int .i64 0, .int .i64 0, .slice none 0 0] 35 (0, 0)) := by rw [← hs0]; exact heap_alloc_new W _
  have N1 := N0.under ((Below.refl W.heap.size W).alloc (Nat.le_refl _) (.cells #[.int .i64 0, .int .i64 0, .slice none 0 0] 35))
  obtain ⟨V, hV⟩ : ∃ V, V = W.alloc (.cells #[.int .i64 0, .int .i64 0, .slice none 0 0] 35) := ⟨_, rfl⟩
  rw [← hV] at hB1 hs1 P1 N1
  have HC : Hid _ := measured_any T a cap V ((hN.under hB1).mono (fun b (h : b < _) => Nat.lt_of_lt_of_le h hB1.size)) (hTb.under hB1)
  have HN : Hid _ := hN
  have HT : Hid _ := hTb
  simp only [Nt.ndV, Nt.ndA] at hW HC ⊢
  have HN1 : Hid _ := N1
  have HP1 : Hid _ := P1
  have HB1 : Hid _ := hB1
  clear N0 N1 P1 hB0 hB1 hN hTb
  go_enter Tryd.func12, Tryd.ntmps12
  go_wp2_with fail
  rw [← hW, ← hV]
  clear hW hV
  refine Calls.mono HC.out ?_
  rintro e w1 ⟨⟨hne, rfl⟩ | ⟨he0, b, rfl, hpc⟩, hb1⟩
  · have hB2 := HB1.out.trans (hb1.mono HB1.out.size)
    have P2 : w1.heap[w.heap.size + 1]? = some (.cells #[.int .i64 0, .int .i64 0, .slice none 0 0] 35 (0, 0)) := by rw [hb1.block _ (by omega)]; exact HP1.out
    have c0 : w1.cell? ⟨w.heap.size + 1, 0, none⟩ = some (.int .i64 0) := cell_of_row _ _ _ _ _ _ P2
    have c1 : w1.cell? ⟨w.heap.size + 1, 1, none⟩ = some (.int .i64 0) := cell_of_row _ _ _ _ _ _ P2
    have c2 : w1.cell? ⟨w.heap.size + 1, 2, none⟩ = some (.slice none 0 0) := cell_of_row _ _ _ _ _ _ P2
    have g0 : w1.frozen? ⟨w.heap.size + 1, 0, none⟩ = false := frozen_of_row w1 _ 0 _ _ P2
    have g1 : w1.frozen? ⟨w.heap.size + 1, 1, none⟩ = false := frozen_of_row w1 _ 1 _ _ P2
    have g2 : w1.frozen? ⟨w.heap.size + 1, 2, none⟩ = false := frozen_of_row w1 _ 2 _ _ P2
    have hn' : (Nt.cmpE T != 0) = true := by simpa using hne
    have Hne : Hid _ := hne
    have HB2 : Hid _ := hB2
    clear HC hne hB2
    have HP2 : Hid _ := P2
    clear P2
    go_wp2_with fail
    refine bodyPost_ret (results_prog rfl _ _ (w.heap.size + 1) _ _ _ rfl (Nt.prg_put _ _ _ HP2.out)) rfl ?_
    exact ⟨.inl ⟨Hne.out, rfl⟩, Nt.prg_below HB2.out (by omega) _ _ _⟩
  · have hB2 := HB1.out.trans (hb1.mono HB1.out.size)
    have hs2 := hb1.size
    have He0 : Hid _ := he0
    have HB2 : Hid _ := hB2
    obtain ⟨hbl, nb, off, v, blk⟩ := Nt.Pc.head hpc
    obtain ⟨p0, p1, p2, p3, p4⟩ := blk.cells
    have hml := Nt.msz_le T
    have Hpc : Hid _ := hpc
    have HN2 : Hid _ := Nt.NodeAt.under HN1.out hb1
    have HP2 : Hid (w1.heap[w.heap.size + 1]? = some (.cells #[.int .i64 0, .int .i64 0, .slice none 0 0] 35 (0, 0))) := by show _ = _; rw [hb1.block _ (by omega)]; exact HP1.out
    obtain ⟨i0, hi0, hz0, hz1, hz2⟩ := info_parts Tryd.infoInst
    have HMK : Hid (∀ W : World, (Instr.makeSlice 33 (.int .i64 0) (.int .i64 (IntKind.i64.wrap ((Nt.msz T : Nat) + 1)))).run Tryd.prog W = .ok (.slice (some ⟨W.heap.size, 0, none⟩) 0 (Nt.msz T + 1)) (W.alloc (.cells (madeCells #[.int .u8 0, .int .u64 0, .int .u64 0, .int .u64 0, .int .u64 0, .int .i64 0, .int .i64 0, .int .i64 0, .int .i64 0] ((Nt.msz T + 1) * 9)) 64))) := fun W => by
      have e : IntKind.i64.wrap ((Nt.msz T : Nat) + 1) = ((Nt.msz T + 1 : Nat) : Int) := iw_nat (Nt.msz T + 1) (by omega)
      rw [e]
      have := run_make (P := Tryd.prog) W 33 64 i0 _ Tryd.underlying33 hi0 hz0 .i64 .i64 0 ((Nt.msz T + 1 : Nat) : Int) (by omega) (by omega) (by rw [hz2]; omega) (by omega)
      rw [hz1] at this
      exact this
    obtain ⟨hcnt, n', hnum⟩ := Nt.cmp0 he0
    have hsz := (Nt.cmp_sz he0).1
    have hmz := (Nt.cmp_sz he0).2
    have key : ∀ (w3 : World) (lb rb : Nat), Nt.Ly w3 lb rb (Nt.msz T + 1) [] 0 → Below w1.heap.size w1 w3 → w1.heap.size ≤ lb → w1.heap.size ≤ rb →
        Calls Tryd.prog 34 #[.pointer (some ⟨lb, 0, none⟩), .pointer (some ⟨b, 0, none⟩)] w3 fun e w4 => (∃ v, e = .returned v) ∧ Nt.Ly w4 lb rb (Nt.msz T + 1) (Nt.code T 0 0) 0 ∧ Below w1.heap.size w1 w4 := fun w3 lb rb hL hb hlb hrb => by
      have hw1 := hb.size
      have hbig := HT.out.big
      have hBs := HB2.out.size
      refine Calls.mono (lay_any T 1 n' [] (by omega) hnum lb rb (Nt.msz T + 1) 0 b [] (· < w1.heap.size) w3 hL (fun x (hx : x < _) => ⟨by omega, by omega, by omega⟩) (Hpc.out.same (fun x (hx : x < _) => hb.block x hx) (fun _ h => h)) (by simp; omega) (by omega) (by omega) ⟨(HT.out.under HB2.out).below hb (by omega), by omega, by omega⟩) ?_
      rintro e w4 ⟨h1, h2, h3⟩
      exact ⟨h1, h2, hb.trans (h3.below hlb hrb hw1)⟩
    have HKY : Hid _ := key
    have hnl : (Nt.code T 0 0).length = Nt.sz T := Nt.code_len T 0 0
    have Hnl : Hid _ := hnl
    have Hmz : Hid _ := hmz
    clear HC hpc blk he0 hB2 hi0 hz0 hz1 hz2 key hnum hnl hmz
    go_wp2_with fail
    go_cut [6] (fun v wx => ∃ lb rb, v = .pointer (some ⟨lb, 0, none⟩) ∧ w1.heap.size ≤ lb ∧ w1.heap.size ≤ rb ∧ Nt.Ly wx lb rb (Nt.msz T + 1) [] 0 ∧ Below w1.heap.size w1 wx)
    case first =>
      go_region_with (first | (go_at_call 33; refine Calls.mono (layouts_any _) ?_; rintro e w2 ⟨rfl, hb2⟩; (try (have p1' : w2.cell? ⟨b, 1, none⟩ = some (.int .i64 (Nt.msz T : Nat)) := (World.cell?_of_block (hb2.block b (by simp at hbl ⊢; omega))).trans p1))) | (rw [HMK.out]))
      · go_wp2_with fail
        go_meet
        case rel => exact ⟨_, w2.heap.size, rfl, by have := hb2.size; simp at this; omega, by have := hb2.size; simp at this; omega, Nt.ly_new (World.ownsRow_made w2 _ _ (by omega) (by unfold maxLen; omega) (size_madeCells _ _)) (by simp) rfl, (((Below.refl w1.heap.size w1).drew.trans hb2).alloc hb2.size _).alloc (Nat.le_trans hb2.size (by simp)) _⟩
      · go_wp2_with fail
        go_meet
        case rel => exact ⟨_, w2.heap.size, rfl, by have := hb2.size; simp at this; omega, by have := hb2.size; simp at this; omega, Nt.ly_new (World.ownsRow_made w2 _ _ (by omega) (by unfold maxLen; omega) (size_madeCells _ _)) (by simp) rfl, (((Below.refl w1.heap.size w1).drew.trans hb2).alloc hb2.size _).alloc (Nat.le_trans hb2.size (by simp)) _⟩
      · go_wp2_with fail
        go_meet
        case rel => exact ⟨_, w1.heap.size, rfl, by have := hb2.size; simp at this; omega, Nat.le_refl _, Nt.ly_new (own_below (World.ownsRow_made w1 _ _ (by omega) (by unfold maxLen; omega) (size_madeCells _ _)).drew hb2) rfl rfl, ((((Below.refl w1.heap.size w1).alloc (Nat.le_refl _) _).drew).trans (hb2.mono (by simp))).alloc (by have := hb2.size; simp at this; omega) _⟩
    case rest =>
      obtain ⟨lb, rb, rfl, hlb, hrb, hL, hBc⟩ := hcut
      have HL : Hid _ := HKY.out wc lb rb hL hBc hlb hrb
      clear hL hBc HKY HMK p0 p1 p2 p3 p4
      go_wp2_with fail
      refine Calls.mono HL.out ?_
      rintro e w4 ⟨⟨v4, rfl⟩, L4, B4⟩
      have HPM : Hid _ := put_match lb rb (Nt.msz T + 1) 0 (Nt.code T 0 0) w4 L4 (by have := Hnl.out; have := Hmz.out; omega)
      have HB4 : Hid _ := B4
      clear L4 B4 HL
      go_wp2_with fail
      refine Calls.mono HPM.out ?_
      rintro e w5 ⟨⟨v5, rfl⟩, L5, Z5⟩
      have hb5 : Below w1.heap.size w1 w5 := HB4.out.trans (Z5.below hlb hrb HB4.out.size)
      have hs5 := hb5.size
      have hl5 := L5.lt
      have HB5 : Hid _ := HB2.out.trans (hb5.mono HB2.out.size)
      obtain ⟨q0, q1, q2, q3, q4, q5, q6, q7, q8⟩ := (Nt.NodeAt.under HN2.out hb5).nine
      have l10 : w5.cell? ⟨lb, 10, none⟩ = some (.slice (some ⟨rb, 0, none⟩) (Nt.code T 0 0 ++ [Nt.iMatch]).length (Nt.msz T + 1)) := L5.cell 10
      have HG : Hid (∀ W, Below w5.heap.size w5 W → Calls Tryd.prog 36 #[Nt.ndV T a cap] W fun e w' => e = .returned (.int .i64 (Nt.grps T : Nat)) ∧ Below w5.heap.size w5 w' ∧ w'.cell? ⟨lb, 10, none⟩ = some (.slice (some ⟨rb, 0, none⟩) (Nt.code T 0 0 ++ [Nt.iMatch]).length (Nt.msz T + 1)) ∧ w'.heap[w.heap.size + 1]? = some (.cells #[.int .i64 0, .int .i64 0, .slice none 0 0] 35 (0, 0))) := fun W hW => by
        have hws := HB5.out.size
        have hW2 := HB5.out.trans (hW.mono hws)
        refine Calls.mono (pgroups_any T a cap W ((HN.out.under hW2).mono (fun b (h : b < _) => Nat.lt_of_lt_of_le h hW2.size)) (by omega)) ?_
        rintro e w6 ⟨rfl, hb6⟩
        have hb7 := hW.trans (hb6.mono hW.size)
        exact ⟨rfl, hb7, (World.cell?_of_block (hb7.block lb hl5.1)).trans l10, by rw [hb7.block _ (by omega), hb5.block _ (by omega)]; exact HP2.out⟩
      have HS : Hid (∀ W, Below w5.heap.size w5 W → Calls Tryd.prog 37 #[.slice (some ⟨rb, 0, none⟩) (Nt.code T 0 0 ++ [Nt.iMatch]).length (Nt.msz T + 1)] W fun e w' => e = .returned (.int .i64 (Nt.slo (Nt.prgC T))) ∧ w' = W) := fun W hW => slots_any rb _ (Nt.prgC T) W (own_below L5.row hW) (Nt.prg_ok hcnt hsz) (by rw [Nt.prgC, List.length_append, Hnl.out]; simp; omega)
      have HR5 : Hid _ := L5.row
      simp only [Nt.ndV, Nt.ndA] at HG
      clear L5 Z5 HPM HB4 hb5
      go_wp2_with fail
      generalize hNe : (Nt.code T 0 0 ++ [Nt.iMatch]).length = N at *
      have HNe : Hid ((Nt.prgC T).length = N) := hNe
      clear hNe
      go_region_with (first | (go_at_call 36; refine Calls.mono (HG.out _ (Below.refl _ _).drew) ?_; rintro e w6 ⟨rfl, hb6, l10', P6⟩; have Hb6 : Hid _ := hb6; have c0 : w6.cell? ⟨w.heap.size + 1, 0, none⟩ = some (.int .i64 0) := cell_of_row _ _ _ _ _ _ P6; have c1 : w6.cell? ⟨w.heap.size + 1, 1, none⟩ = some (.int .i64 0) := cell_of_row _ _ _ _ _ _ P6; have c2 : w6.cell? ⟨w.heap.size + 1, 2, none⟩ = some (.slice none 0 0) := cell_of_row _ _ _ _ _ _ P6; have g0 : w6.frozen? ⟨w.heap.size + 1, 0, none⟩ = false := frozen_of_row w6 _ 0 _ _ P6; have g1 : w6.frozen? ⟨w.heap.size + 1, 1, none⟩ = false := frozen_of_row w6 _ 1 _ _ P6; have g2 : w6.frozen? ⟨w.heap.size + 1, 2, none⟩ = false := frozen_of_row w6 _ 2 _ _ P6; have HP6 : Hid _ := P6; clear P6 hb6) | (go_at_call 37; refine Calls.mono (HS.out _ Hb6.out) ?_; rintro e w7 ⟨rfl, rfl⟩))
      all_goals
        go_wp2_with fail
        refine bodyPost_ret (results_prog rfl _ _ (w.heap.size + 1) _ _ _ rfl (Nt.prg_put _ _ _ HP6.out)) rfl ⟨.inr ⟨He0.out, rb, Nt.msz T + 1, ?_, ?_⟩, ?_⟩
        · rw [HNe.out]; rfl
        · rw [HNe.out]
          exact Nt.own_block (Nt.own_up (own_below HR5.out Hb6.out) (by omega)) (Nt.prg_oth _ _ _ _ _ _ (by omega))
        · exact Nt.prg_below (HB5.out.trans (Hb6.out.mono HB5.out.size)) (by omega) _ _ _
end Go.Proofs.YtdiokclbdaojpaaDoor
