/- The law SpaceSteps answers true. -/
import Derived.Test.YtngmaijfahjfcaaSpX8
namespace Go.Proofs.Ytngmaijfahjfcaa
open Go.RowKit

/-- What stands at the head of a round: the space, and the reference's in the block n. -/
def Rw (w : World) (g n : Nat) (s : Sc.St) (quota : Nat) (qv : Value) (W : World) : Prop :=
  Qi w g g s quota (.slice none 0 0) [] [(qv, s.q), (dm n, [])] W ∧ W.heap[n]? = some (.cells #[.string (Sc.bs s.p), .string (Sc.bs s.h), qv, .int .i64 (quota : Nat)] 29)
theorem Rw.tu {w : World} {g n : Nat} {s : Sc.St} {quota : Nat} {qv : Value} {W w' : World} (h : Rw w g n s quota qv W) (ht : Tu (fun _ => False) W w') : Rw w g n s quota qv w' :=
  ⟨h.1.tu ht, by rw [ht.block n (lt_of_block h.2) (fun e => e)]; exact h.2⟩
/-- What stands behind a step: the space has gone on, the reference's not yet; the step lies in the block m. -/
def Rx (w : World) (g n m : Nat) (s r : Sc.St) (quota : Nat) (qv : Value) (j : Int) (t : ByteArray) (i : Nat) (x : ByteArray) (lv : Value) (W : World) : Prop :=
  Qi w g g r quota (.slice none 0 0) [] [(lv, Sc.took s j), (dm m, []), (qv, s.q), (dm n, [])] W ∧ W.heap[n]? = some (.cells #[.string (Sc.bs s.p), .string (Sc.bs s.h), qv, .int .i64 (quota : Nat)] 29) ∧ W.heap[m]? = some (.cells #[.int .i64 j, .string t, .int .u8 (i : Int), .string x] 35)
theorem rx_made {w : World} {g n : Nat} {s : Sc.St} {quota : Nat} {qv : Value} {W : World} (h : Rw w g n s quota qv W) (j : Int) (t : ByteArray) (i : Nat) (x : ByteArray) (hx : t.size ≤ 140737488355328) (hi : i < 256) (hy : x.size ≤ 281474976710656) (hQ : (s.q.length + 1) * 24 ≤ 140737488355328) :
    Calls Try.prog 11 #[.pointer (some ⟨g, 0, none⟩), stV j t i x] (W.alloc (.cells #[.int .i64 j, .string t, .int .u8 (i : Int), .string x] 35)) fun e w' => ∃ lv, e = .returned (.tuple #[.bool (Sc.more s j), lv, .int .i64 (Sc.step quota s j t i x).1]) ∧ Rx w g n W.heap.size s (Sc.step quota s j t i x).2 quota qv j t i x lv w' := by
  refine ((h.1.own _).step2 j t i x hx hi hy hQ).mono ?_
  rintro e w' ⟨lv, rfl, q, k⟩
  refine ⟨lv, rfl, q, ?_, ?_⟩
  · rw [k (dm n, []) (by simp) n rfl]
    exact (((Tu.refl (fun _ => False) W).alloc _).block n (lt_of_block h.2) (fun e => e)).trans h.2
  · rw [k (dm W.heap.size, []) (by simp) W.heap.size rfl]
    exact heap_alloc_new W _
theorem rw_next {w : World} {g n m : Nat} {s r : Sc.St} {quota : Nat} {qv lv : Value} {j : Int} {t : ByteArray} {i : Nat} {x : ByteArray} {a5 : Option Addr} {c5 : Nat} {W w5 w6 : World} (h : Rx w g n m s r quota qv j t i x lv W) (hg : g ≤ n) (ht : Tu (fun _ => False) W w5) (i5 : Its w5 (.slice a5 r.q.length c5) r.q) (o5 : ∀ b, blk (.slice a5 r.q.length c5) = some b → blk qv = some b ∨ W.heap.size ≤ b) (h6 : Tu (fun _ => False) w5 w6) :
    Rw w g n r quota (.slice a5 r.q.length c5) ((((w6.setCell ⟨n, 0, none⟩ (.string (Sc.bs r.p))).setCell ⟨n, 1, none⟩ (.string (Sc.bs r.h))).setCell ⟨n, 2, none⟩ (.slice a5 r.q.length c5)).setCell ⟨n, 3, none⟩ (.int .i64 (quota : Nat))) ∧ Its ((((w6.setCell ⟨n, 0, none⟩ (.string (Sc.bs r.p))).setCell ⟨n, 1, none⟩ (.string (Sc.bs r.h))).setCell ⟨n, 2, none⟩ (.slice a5 r.q.length c5)).setCell ⟨n, 3, none⟩ (.int .i64 (quota : Nat))) lv (Sc.took s j) ∧ Its ((((w6.setCell ⟨n, 0, none⟩ (.string (Sc.bs r.p))).setCell ⟨n, 1, none⟩ (.string (Sc.bs r.h))).setCell ⟨n, 2, none⟩ (.slice a5 r.q.length c5)).setCell ⟨n, 3, none⟩ (.int .i64 (quota : Nat))) qv s.q := by
  have q5 := (h.1.add ht i5 (fun b e => (o5 b e).elim (fun e => .inl ⟨(qv, s.q), by simp, e⟩) .inr)).tu h6
  have p6 : w6.heap[n]? = _ := ((ht.trans h6 (fun _ _ e => e)).block n (lt_of_block h.2.1) (fun e => e)).trans h.2.1
  have iq : Its W qv s.q := h.1.its.2 (qv, s.q) (by simp)
  obtain ⟨aq, cq, rfl⟩ := iq.slice
  obtain ⟨z1, z2⟩ := set4 p6 (.string (Sc.bs r.p)) (.string (Sc.bs r.h)) (.slice a5 r.q.length c5) (.int .i64 (quota : Nat))
  have q6 := q5.upd (n := n) (by simp) hg p6 z2
  exact ⟨⟨q6.less (fun p hp => by simp only [List.mem_cons, List.mem_nil_iff, or_false] at hp ⊢; rcases hp with rfl | rfl <;> simp), z1⟩, q6.its.2 (lv, Sc.took s j) (by simp), q6.its.2 (.slice aq s.q.length cq, s.q) (by simp)⟩
set_option maxRecDepth 100000 in
set_option maxHeartbeats 4000000 in
theorem steps_yes (quota : Nat) (a : Option Addr) (cap : Nat) (l : List Stp) (w : World) (hq : quota ≤ 1073741824) (hl : Stps w a cap l) (hn : (l.length + 1) * 24 ≤ 140737488355328) (hk : ∀ y ∈ l, y.t.size ≤ 140737488355328 ∧ y.i < 256 ∧ y.x.size ≤ 281474976710656) :
    Calls Try.prog 3 #[.int .i64 (quota : Nat), .slice a l.length cap] w fun e w' => e = .returned (.bool true) ∧ Below w.heap.size w w' := by
  have HL : Hid (Stps w a cap l) := hl
  have HKx : Hid (∀ y ∈ l, y.t.size ≤ 140737488355328 ∧ y.i < 256 ∧ y.x.size ≤ 281474976710656) := hk
  have HN : Hid (∀ W : World, Calls Try.prog 9 #[.int .i64 (quota : Nat)] W fun e w' => e = .returned (.tuple #[.pointer (some ⟨W.heap.size, 0, none⟩), .int .i64 0]) ∧ Qi W W.heap.size W.heap.size .nil quota (.slice none 0 0) [] [] w') := fun W => Qi.made quota hq
  have HLk : Hid (∀ (g n : Nat) (s : Sc.St) (qv : Value) (W : World), (s.q.length + 1) * 24 ≤ 140737488355328 → Rw w g n s quota qv W → Calls Try.prog 10 #[.pointer (some ⟨g, 0, none⟩), rsV (Sc.bs s.p) (Sc.bs s.h) qv quota] W fun e w' => e = .returned (.bool true) ∧ Rw w g n s quota qv w') := fun g n s qv W hl' h => by
    refine (like_yes w g g s quota qv W (h.1.less (fun p hp => by simp at hp; simp [hp])) hq hl').mono ?_
    rintro e w' ⟨rfl, t⟩
    exact ⟨rfl, h.tu t⟩
  clear hl hk
  go_enter Try.func3, Try.ntmps3
  go_wp2_with (first
    | (go_at_call 9; refine (HN.out _).mono ?_; rintro e w2 ⟨rfl, h1⟩; (generalize hg : w.heap.size = g at *); have HG : Hid (w.heap.size = g) := hg; clear hg; have K1 : Hid (Qi w g g .nil quota (.slice none 0 0) [] [] w2) := h1; clear h1)
    | (go_at_call 10; refine (HLk.out g w2.heap.size .nil (.slice none 0 0) _ (by simp [Sc.St.nil]) ⟨(K1.out.own _).add (Tu.refl _ _) (.inl ⟨rfl, rfl⟩) (fun b e => by cases e), heap_alloc_new _ _⟩).mono ?_; rintro e w3 ⟨rfl, h3⟩; have K3 : Hid (Rw w g w2.heap.size .nil quota (.slice none 0 0) w3) := h3; clear h3))
  have HB : Hid (g ≤ w2.heap.size) := by
    obtain ⟨S, ⟨_, _, _, q⟩, h2, _⟩ := K1.out
    have := h2 g q.gS
    show g ≤ w2.heap.size
    omega
  clear HN K1
  generalize w2.heap.size = n at *
  go_loopw [8] (fun iv wr => ∃ (k : Nat) (s : Sc.St) (qv : Value), k ≤ l.length ∧ iv = .int .i64 (k : Int) ∧ s.q.length ≤ k ∧ Hid (Rw w g n s quota qv wr)) (fun iv _ => l.length - (intOf iv).toNat)
  case atStart => exact ⟨0, .nil, _, Nat.zero_le _, rfl, Nat.le_refl _, K3⟩
  case round =>
    obtain ⟨k, s, qv, hk, rfl, hs, HQ⟩ := hrel
    by_cases hlt : k < l.length
    · have HC : ∃ b off, a = some ⟨b, off, none⟩ ∧ wr.cell? ⟨b, off + k * 4, none⟩ = some (.int .i64 (l[k]'hlt).k) ∧ wr.cell? ⟨b, off + k * 4 + 1, none⟩ = some (.string (l[k]'hlt).t) ∧ wr.cell? ⟨b, off + k * 4 + 2, none⟩ = some (.int .u8 ((l[k]'hlt).i : Int)) ∧ wr.cell? ⟨b, off + k * 4 + 3, none⟩ = some (.string (l[k]'hlt).x) := by
        obtain ⟨b, off, e, _, c⟩ := (HL.out.below (HQ.out.1.below.mono (Nat.le_of_eq HG.out))).cell k hlt
        exact ⟨b, off, e, c⟩
      obtain ⟨b, off, rfl, d0, d1, d2, d3⟩ := HC
      have hx := HKx.out (l[k]'hlt) (List.getElem_mem hlt)
      have hi1 : (k : Int) < (l.length : Int) := by omega
      generalize l[k]'hlt = y at *
      obtain ⟨j, t, i, x⟩ := y
      simp only at hx d0 d1 d2 d3
      have HD : Hid (Calls Try.prog 11 #[.pointer (some ⟨g, 0, none⟩), stV j t i x] (wr.alloc (.cells #[.int .i64 j, .string t, .int .u8 (i : Int), .string x] 35)) fun e w' => ∃ lv, e = .returned (.tuple #[.bool (Sc.more s j), lv, .int .i64 (Sc.step quota s j t i x).1]) ∧ Rx w g n wr.heap.size s (Sc.step quota s j t i x).2 quota qv j t i x lv w') := rx_made HQ.out j t i x hx.1 hx.2.1 hx.2.2 (by omega)
      have hu : s.used ≤ quota := HQ.out.1.le
      have HR : Hid (∀ W, Its W qv s.q → Calls Try.prog 13 #[rsV (Sc.bs s.p) (Sc.bs s.h) qv quota, stV j t i x] W fun e w' => ∃ v', e = .returned (.tuple #[rsV (Sc.bs (Sc.step quota s j t i x).2.p) (Sc.bs (Sc.step quota s j t i x).2.h) v' quota, .int .i64 (Sc.step quota s j t i x).1]) ∧ Its w' v' (Sc.step quota s j t i x).2.q ∧ Below W.heap.size W w' ∧ ∀ b, blk v' = some b → blk qv = some b ∨ W.heap.size ≤ b) := fun W hW => rdo_any s qv quota j t i x W hW hu hq hx.1 hx.2.2 (by omega)
      have hsz : s.p.length ≤ 1073741824 := by unfold Sc.St.used at hu; omega
      have HF : Hid (∀ V, Calls Try.prog 12 #[.string (Sc.bs s.p)] V fun e w' => e = .returned (.tuple #[.string (Sc.bs (Sc.fst s.p)), .bool (Sc.lf s.p).isSome]) ∧ V = w') := fun V => rfirst_any (Sc.bs s.p) V (by rw [Sc.bs_size]; omega)
      have hlen := step_len quota s j t i x
      generalize Sc.step quota s j t i x = r at *
      obtain ⟨r1, r2⟩ := r
      simp only at hlen HD HR
      have HJ : j = 7 ∨ j = 9 ∨ (j ≠ 7 ∧ j ≠ 9) := by omega
      rcases HJ with rfl | rfl | ⟨h7, h9⟩
      · rw [show Sc.more s 7 = (Sc.lf s.p).isSome from rfl] at HD
        generalize (Sc.lf s.p).isSome = fd at *
        cases fd
        all_goals
          go_wp2_with (first
            | (go_at_call 11; refine HD.out.mono ?_; rintro e w4 ⟨lv, rfl, h4⟩; obtain ⟨⟨c0, c1, c2, c3⟩, _⟩ := cells4 h4.2.1; obtain ⟨⟨x0, x1, x2, x3⟩, _⟩ := cells4 h4.2.2; have K4 : Hid (Rx w g n wr.heap.size s r2 quota qv 7 t i x lv w4) := h4; clear h4)
            | (go_at_call 12; refine (HF.out _).mono ?_; rintro e wx ⟨rfl, rfl⟩)
            | (go_at_call 13; refine (HR.out _ (K4.out.1.its.2 (qv, s.q) (by simp))).mono ?_; rintro e w5 ⟨v5, rfl, i5, b5, o5⟩; obtain ⟨a5, cp5, rfl⟩ := i5.slice; have p5 := bkept b5 K4.out.2.1; have y5 := bkept b5 K4.out.2.2; have ln := lt_of_block p5; have ly := lt_of_block y5; obtain ⟨⟨e0, e1, e2, e3⟩, f0, f1, f2, f3⟩ := cells4 p5; obtain ⟨⟨g0, g1, g2, g3⟩, _⟩ := cells4 y5; have ln' : n ≠ w5.heap.size := (by omega); have ly' : wr.heap.size ≠ w5.heap.size := (by omega); have hne : n ≠ wr.heap.size := (by have := lt_of_block HQ.out.2; omega); have B5 : Hid (Below w4.heap.size w4 w5) := b5; have I5 : Hid (Its w5 (.slice a5 r2.q.length cp5) r2.q) := i5; have O5 : Hid (∀ b, blk (.slice a5 r2.q.length cp5) = some b → blk qv = some b ∨ w4.heap.size ≤ b) := o5; clear b5 i5 o5 p5 y5)
            | (go_at_call 10; refine (HLk.out g n r2 (.slice a5 r2.q.length cp5) _ (by omega) ((rw_next K4.out HB.out (Tu.of_below B5.out) I5.out O5.out (Tu.refl _ _)).1.tu ((Tu.refl _ _).alloc _))).mono ?_; rintro e w7 ⟨rfl, h7'⟩; have K7 : Hid (Rw w g n r2 quota (.slice a5 r2.q.length cp5) w7) := h7'; clear h7'))
        all_goals
          go_roundw
          case rel => exact ⟨k + 1, r2, _, by omega, by go_num, by omega, K7⟩
          case measure => simp [intOf]; omega
      · rw [show Sc.more s 9 = false from rfl] at HD
        generalize (Sc.lf s.p).isSome = fd at *
        cases fd
        all_goals
          go_wp2_with (first
            | (go_at_call 11; refine HD.out.mono ?_; rintro e w4 ⟨lv, rfl, h4⟩; obtain ⟨⟨c0, c1, c2, c3⟩, _⟩ := cells4 h4.2.1; obtain ⟨⟨x0, x1, x2, x3⟩, _⟩ := cells4 h4.2.2; have K4 : Hid (Rx w g n wr.heap.size s r2 quota qv 9 t i x lv w4) := h4; clear h4)
            | (go_at_call 12; refine (HF.out _).mono ?_; rintro e wx ⟨rfl, rfl⟩)
            | (go_at_call 13; refine (HR.out _ (K4.out.1.its.2 (qv, s.q) (by simp))).mono ?_; rintro e w5 ⟨v5, rfl, i5, b5, o5⟩; obtain ⟨a5, cp5, rfl⟩ := i5.slice; have p5 := bkept b5 K4.out.2.1; have y5 := bkept b5 K4.out.2.2; have ln := lt_of_block p5; have ly := lt_of_block y5; obtain ⟨⟨e0, e1, e2, e3⟩, f0, f1, f2, f3⟩ := cells4 p5; obtain ⟨⟨g0, g1, g2, g3⟩, _⟩ := cells4 y5; have ln' : n ≠ w5.heap.size := (by omega); have ly' : wr.heap.size ≠ w5.heap.size := (by omega); have hne : n ≠ wr.heap.size := (by have := lt_of_block HQ.out.2; omega); have B5 : Hid (Below w4.heap.size w4 w5) := b5; have I5 : Hid (Its w5 (.slice a5 r2.q.length cp5) r2.q) := i5; have O5 : Hid (∀ b, blk (.slice a5 r2.q.length cp5) = some b → blk qv = some b ∨ w4.heap.size ≤ b) := o5; clear b5 i5 o5 p5 y5)
            | (go_at_call 14; have T := rw_next K4.out HB.out (Tu.of_below B5.out) I5.out O5.out (Tu.refl _ _); have i1 := T.2.1; rw [show Sc.took s 9 = s.q from rfl] at i1; refine (same_yes lv qv s.q _ (i1.tu ((Tu.refl (fun _ => False) _).alloc _) (fun _ _ e => e)) (T.2.2.tu ((Tu.refl (fun _ => False) _).alloc _) (fun _ _ e => e)) (by omega)).mono ?_; rintro e wx ⟨rfl, n6, rfl⟩; have K6 : Hid (Rw w g n r2 quota (.slice a5 r2.q.length cp5) _) := (T.1.tu ((Tu.refl _ _).alloc (.cells #[.string (Sc.bs r2.p), .string (Sc.bs r2.h), .slice a5 r2.q.length cp5, .int .i64 (quota : Nat)] 29))).tu (tu_drewN _ n6); clear T i1)
            | (go_at_call 10; refine (HLk.out g n r2 (.slice a5 r2.q.length cp5) _ (by omega) K6.out).mono ?_; rintro e w7 ⟨rfl, h7'⟩; have K7 : Hid (Rw w g n r2 quota (.slice a5 r2.q.length cp5) w7) := h7'; clear h7'))
        all_goals
          go_roundw
          case rel => exact ⟨k + 1, r2, _, by omega, by go_num, by omega, K7⟩
          case measure => simp [intOf]; omega
      · rw [show Sc.more s j = false from if_neg h7] at HD
        generalize (Sc.lf s.p).isSome = fd at *
        have b7 : (j == 7) = false := by simpa using h7
        have b9 : (j == 9) = false := by simpa using h9
        cases fd
        all_goals
          go_wp2_with (first
            | (go_at_call 11; refine HD.out.mono ?_; rintro e w4 ⟨lv, rfl, h4⟩; obtain ⟨⟨c0, c1, c2, c3⟩, _⟩ := cells4 h4.2.1; obtain ⟨⟨x0, x1, x2, x3⟩, _⟩ := cells4 h4.2.2; have K4 : Hid (Rx w g n wr.heap.size s r2 quota qv j t i x lv w4) := h4; clear h4)
            | (go_at_call 12; refine (HF.out _).mono ?_; rintro e wx ⟨rfl, rfl⟩)
            | (go_at_call 13; refine (HR.out _ (K4.out.1.its.2 (qv, s.q) (by simp))).mono ?_; rintro e w5 ⟨v5, rfl, i5, b5, o5⟩; obtain ⟨a5, cp5, rfl⟩ := i5.slice; have p5 := bkept b5 K4.out.2.1; have y5 := bkept b5 K4.out.2.2; have ln := lt_of_block p5; have ly := lt_of_block y5; obtain ⟨⟨e0, e1, e2, e3⟩, f0, f1, f2, f3⟩ := cells4 p5; obtain ⟨⟨g0, g1, g2, g3⟩, _⟩ := cells4 y5; have ln' : n ≠ w5.heap.size := (by omega); have ly' : wr.heap.size ≠ w5.heap.size := (by omega); have hne : n ≠ wr.heap.size := (by have := lt_of_block HQ.out.2; omega); have B5 : Hid (Below w4.heap.size w4 w5) := b5; have I5 : Hid (Its w5 (.slice a5 r2.q.length cp5) r2.q) := i5; have O5 : Hid (∀ b, blk (.slice a5 r2.q.length cp5) = some b → blk qv = some b ∨ w4.heap.size ≤ b) := o5; clear b5 i5 o5 p5 y5)
            | (go_at_call 10; refine (HLk.out g n r2 (.slice a5 r2.q.length cp5) _ (by omega) ((rw_next K4.out HB.out (Tu.of_below B5.out) I5.out O5.out (Tu.refl _ _)).1.tu ((Tu.refl _ _).alloc _))).mono ?_; rintro e w7 ⟨rfl, h7'⟩; have K7 : Hid (Rw w g n r2 quota (.slice a5 r2.q.length cp5) w7) := h7'; clear h7'))
        all_goals
          go_roundw
          case rel => exact ⟨k + 1, r2, _, by omega, by go_num, by omega, K7⟩
          case measure => simp [intOf]; omega
    · go_wp2
      go_ret
      exact ⟨rfl, HQ.out.1.below.mono (Nat.le_of_eq HG.out)⟩
set_option maxRecDepth 100000 in
set_option maxHeartbeats 1000000 in
theorem steps_not (quota : Int) (a : Option Addr) (n cap : Nat) (w : World) (hq : quota < 0 ∨ 1073741824 < quota) :
    Calls Try.prog 3 #[.int .i64 quota, .slice a n cap] w fun e w' => e = .returned (.bool true) ∧ Below w.heap.size w w' := by
  have HN : Hid (∀ W, Calls Try.prog 9 #[.int .i64 quota] W fun e w' => e = .returned (.tuple #[.pointer none, .int .i64 2]) ∧ W = w') := fun W => new_not quota W hq
  by_cases h0 : quota < 0
  · go_enter Try.func3, Try.ntmps3
    go_wp2_with (first
      | (go_at_call 9; refine (HN.out _).mono ?_; rintro e w2 ⟨rfl, rfl⟩))
    go_ret
    exact ⟨rfl, Below.refl _ _⟩
  · have h1 : 1073741824 < quota := by omega
    go_enter Try.func3, Try.ntmps3
    go_wp2_with (first
      | (go_at_call 9; refine (HN.out _).mono ?_; rintro e w2 ⟨rfl, rfl⟩))
    go_ret
    exact ⟨rfl, Below.refl _ _⟩
theorem law_steps (quota : Int) (a : Option Addr) (cap : Nat) (l : List Stp) (w : World) (hl : Stps w a cap l) (hn : (l.length + 1) * 24 ≤ 140737488355328) (hk : ∀ y ∈ l, y.t.size ≤ 140737488355328 ∧ y.i < 256 ∧ y.x.size ≤ 281474976710656) :
    Calls Try.prog 3 #[.int .i64 quota, .slice a l.length cap] w fun e w' => e = .returned (.bool true) ∧ Below w.heap.size w w' := by
  by_cases h : quota < 0 ∨ 1073741824 < quota
  · exact steps_not quota a l.length cap w h
  · obtain ⟨n, rfl⟩ : ∃ n : Nat, quota = (n : Int) := ⟨quota.toNat, by omega⟩
    exact steps_yes n a cap l w (by omega) hl hn hk
end Go.Proofs.Ytngmaijfahjfcaa
