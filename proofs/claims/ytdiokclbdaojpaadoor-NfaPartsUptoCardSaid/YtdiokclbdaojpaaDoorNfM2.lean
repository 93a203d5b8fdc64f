/- Pieces of an expression: how one lies in memory; what (*piece).rounds and (*piece).sum answer. posix's tally of a tree's groups: how it lies in memory; what (*tally).begin and (*tally).canName answer. What nfa.measure answers: a tree of pieces. -/
import Derived.Test.YtdiokclbdaojpaaDoorNfM1
import Derived.Deep.QuietTactic
import Derived.BigQuiet
import Derived.BigRegion
namespace Go.Proofs.YtdiokclbdaojpaaDoor
open Go.RowKit

namespace Nt
/-- The block b holds a piece: its node's place, size, least and greatest group, and kids. -/
def PcB (w : World) (b nb off : Nat) (z lo hi : Int) (v : Value) : Prop := w.heap[b]? = some (.cells #[.pointer (some ⟨nb, off, none⟩), .int .i64 z, .int .i64 lo, .int .i64 hi, v] 72 (0, 0))
theorem PcB.lt {w : World} {b nb off : Nat} {z lo hi : Int} {v : Value} (h : PcB w b nb off z lo hi v) : b < w.heap.size := by
  unfold PcB at h
  by_cases hlt : b < w.heap.size
  · exact hlt
  · rw [Array.getElem?_eq_none (by omega)] at h; cases h
theorem PcB.same {w w' : World} {b nb off : Nat} {z lo hi : Int} {v : Value} (h : PcB w b nb off z lo hi v) (hb : w'.heap[b]? = w.heap[b]?) : PcB w' b nb off z lo hi v := by
  unfold PcB; rw [hb]; exact h
theorem PcB.cells {w : World} {b nb off : Nat} {z lo hi : Int} {v : Value} (h : PcB w b nb off z lo hi v) : w.cell? ⟨b, 0, none⟩ = some (.pointer (some ⟨nb, off, none⟩)) ∧ w.cell? ⟨b, 1, none⟩ = some (.int .i64 z) ∧ w.cell? ⟨b, 2, none⟩ = some (.int .i64 lo) ∧ w.cell? ⟨b, 3, none⟩ = some (.int .i64 hi) ∧ w.cell? ⟨b, 4, none⟩ = some v := by
  refine ⟨?_, ?_, ?_, ?_, ?_⟩ <;> rw [cell_of_row w b _ _ _ _ h] <;> rfl
theorem PcB.frozen {w : World} {b nb off : Nat} {z lo hi : Int} {v : Value} (h : PcB w b nb off z lo hi v) (j : Nat) : w.frozen? ⟨b, j, none⟩ = false := frozen_of_row w b j _ _ h
theorem bnd_of {mn mx : Int} (h : bndP mn mx = true) : ∃ m : Nat, mn = (m : Int) ∧ m ≤ 255 ∧ (mx = -1 ∨ ∃ n : Nat, mx = ((m + n : Nat) : Int) ∧ m + n ≤ 255) := by
  simp only [bndP, Bool.and_eq_true, Bool.or_eq_true, decide_eq_true_eq] at h
  obtain ⟨h1, h2, h3⟩ := h
  refine ⟨mn.toNat, by omega, by omega, ?_⟩
  rcases h3 with h3 | ⟨h3, h4⟩
  · exact .inl h3
  · exact .inr ⟨(mx - mn).toNat, by omega, by omega⟩
end Nt
theorem mul_room {m R A B : Nat} (h1 : m ≤ A) (h2 : R ≤ B) : m * R ≤ A * B := Nat.mul_le_mul h1 h2
theorem w64_nat (n : Nat) (h : n ≤ 4611686018427387904) : wrap64 (n : Int) = (n : Int) := by unfold wrap64; omega
theorem rnd_free (m R : Nat) (hm : m ≤ 255) (hR : R ≤ 16386) : wrap64 (wrap64 (wrap64 ((m : Int) * (R : Int)) + (R : Int)) + 4) = ((m * R + R + 4 : Nat) : Int) := by
  have h := mul_room hm hR
  rw [← Int.natCast_mul, w64_nat _ (by omega), ← Int.natCast_add, w64_nat _ (by omega)]
  exact w64_nat (m * R + R + 4) (by omega)
theorem rnd_full (m n R : Nat) (hm : m ≤ 255) (hn : n ≤ 255) (hR : R ≤ 16386) : wrap64 (wrap64 ((m : Int) * (R : Int)) + wrap64 (((m : Int) + (n : Int) - (m : Int)) * ((R : Int) + 3))) = ((m * R + n * (R + 3) : Nat) : Int) := by
  have h := mul_room hm hR
  have h2 := mul_room hn (show R + 3 ≤ 16389 by omega)
  have e : ((m : Int) + (n : Int) - (m : Int)) * ((R : Int) + 3) = ((n * (R + 3) : Nat) : Int) := by
    rw [show (m : Int) + (n : Int) - (m : Int) = (n : Int) by omega, Int.natCast_mul]; rfl
  rw [e, ← Int.natCast_mul, w64_nat _ (by omega), w64_nat _ (by omega), ← Int.natCast_add, w64_nat _ (by omega)]
set_option maxRecDepth 100000 in
set_option maxHeartbeats 2000000 in
theorem rounds_any (T : Nt.NT) (b nb off r : Nat) (z lo hi : Int) (v : Value) (a : Option Addr) (cap : Nat) (w : World) (hP : Nt.PcB w b nb off z lo hi v) (h9 : Nt.Nine w nb off T a cap) (hb : Nt.bndP T.mn T.mx = true) (hr : r ≤ 16385) :
    Calls Tryd.prog 85 #[.pointer (some ⟨b, 0, none⟩), .int .i64 (r : Nat)] w fun e w' => e = .returned (.int .i64 (Nt.rndN T.mn T.mx (if decide (0 < hi) then r + 1 else r) : Nat)) ∧ ∃ n, w' = w.drewN n := by
  obtain ⟨p0, p1, p2, p3, p4⟩ := hP.cells
  obtain ⟨q0, q1, q2, q3, q4, q5, q6, q7, q8⟩ := h9
  obtain ⟨m, hm, hm2, hx⟩ := Nt.bnd_of hb
  clear hb hP
  rw [hm] at q5 ⊢
  clear hm
  have hno : ∀ n : Nat, ((((m + n : Nat) : Int)) == -1) = false := fun n => by simp; omega
  by_cases hhi : 0 < hi
  · rw [decide_eq_true hhi]
    rcases hx with hx | ⟨n, hx, hn⟩
    · rw [hx] at q6 ⊢
      clear hx
      go_enter Tryd.func85, Tryd.ntmps85
      go_wp2_with fail
      go_ret
      refine ⟨ret_int ?_, 0, rfl⟩
      have := rnd_free m (r + 1) hm2 (by omega)
      simp only [Nt.rndN, Int.toNat_natCast] at this ⊢
      simpa using this
    · rw [hx] at q6 ⊢
      have hn' : n ≤ 255 := by omega
      clear hx
      go_enter Tryd.func85, Tryd.ntmps85
      go_wp2_with fail
      go_quiet (fail)
      go_wp2_with fail
      go_ret
      refine ⟨ret_int ?_, _, rfl⟩
      have := rnd_full m n (r + 1) hm2 hn' (by omega)
      have e2 : ((m : Int) + (n : Int) - (m : Int)).toNat = n := by omega
      have e3 : (((m : Int) + (n : Int)) == -1) = false := by have := hno n; simpa using this
      simp only [Nt.rndN, Int.toNat_natCast, e2, e3, Bool.false_eq_true, if_false]
      simpa using this
  · rw [decide_eq_false hhi]
    rcases hx with hx | ⟨n, hx, hn⟩
    · rw [hx] at q6 ⊢
      clear hx
      go_enter Tryd.func85, Tryd.ntmps85
      go_wp2_with fail
      go_ret
      refine ⟨ret_int ?_, 0, rfl⟩
      have := rnd_free m r hm2 (by omega)
      simp only [Nt.rndN, Int.toNat_natCast] at this ⊢
      simpa using this
    · rw [hx] at q6 ⊢
      have hn' : n ≤ 255 := by omega
      clear hx
      go_enter Tryd.func85, Tryd.ntmps85
      go_wp2_with fail
      go_quiet (fail)
      go_wp2_with fail
      go_ret
      refine ⟨ret_int ?_, _, rfl⟩
      have := rnd_full m n r hm2 hn' (by omega)
      have e2 : ((m : Int) + (n : Int) - (m : Int)).toNat = n := by omega
      have e3 : (((m : Int) + (n : Int)) == -1) = false := by have := hno n; simpa using this
      simp only [Nt.rndN, Int.toNat_natCast, e2, e3, Bool.false_eq_true, if_false]
      simpa using this

namespace Nt
theorem fit_five {T : NT} (h : fitP T = true) (hk : T.k = 5) : bndP T.mn T.mx = true ∧ T.kids.length = 1 := by
  rw [fitP, hk] at h
  simp only [Bool.and_eq_true] at h
  obtain ⟨_, _, _, _, h5, h6⟩ := h
  exact ⟨by simpa using h5, by simpa using h6⟩
theorem fit_four {T : NT} (h : fitP T = true) (hk : T.k = 4) : 2 ≤ T.kids.length := by
  rw [fitP, hk] at h
  simp only [Bool.and_eq_true] at h
  obtain ⟨_, _, _, _, _, h6⟩ := h
  simpa using h6
end Nt
set_option maxRecDepth 100000 in
set_option maxHeartbeats 4000000 in
theorem sum_any (T : Nt.NT) (b nb off : Nat) (z lo hi : Int) (ka : Option Addr) (kc : Nat) (bs : Nat → Nat) (a : Option Addr) (cap : Nat) (w : World) (hP : Nt.PcB w b nb off z lo hi (.slice ka T.kids.length kc)) (h9 : Nt.Nine w nb off T a cap) (hfit : Nt.fitP T = true) (hlen : T.kids.length ≤ 8192)
    (hkids : ∀ i (h : i < T.kids.length), ∃ kb ko, ka = some ⟨kb, ko, none⟩ ∧ w.cell? ⟨kb, ko + i, none⟩ = some (.pointer (some ⟨bs i, 0, none⟩)) ∧ w.cell? ⟨bs i, 1, none⟩ = some (.int .i64 (Nt.msz (T.kids[i]) : Nat))) :
    Calls Tryd.prog 75 #[.pointer (some ⟨b, 0, none⟩)] w fun e w' => e = .returned (.int .i64 (Nt.szN T.k T.mn T.mx T.kids.length (decide (0 < hi)) (Nt.msz.mszL T.kids) : Nat)) ∧ ∃ n, w' = w.drewN n := by
  obtain ⟨R, hR⟩ : ∃ R, Nt.szN T.k T.mn T.mx T.kids.length (decide (0 < hi)) (Nt.msz.mszL T.kids) = R := ⟨_, rfl⟩
  rw [hR]
  have HR : Hid _ := hR
  have HRO : Hid (T.k = 5 → Calls Tryd.prog 85 #[.pointer (some ⟨b, 0, none⟩), .int .i64 (Nt.msz.mszL T.kids : Nat)] w fun e w' => e = .returned (.int .i64 (R : Nat)) ∧ ∃ n, w' = w.drewN n) := by
    intro h5
    have hb := Nt.fit_five hfit h5
    have hm := Nt.mszL_le T.kids
    rw [hb.2] at hm
    have := rounds_any T b nb off (Nt.msz.mszL T.kids) z lo hi _ a cap w hP h9 hb.1 (by omega)
    rw [← hR, Nt.szN, h5]
    exact this
  have HFo : Hid _ := Nt.fit_four hfit
  have HKS : Hid _ := hkids
  have HML : Hid (∀ i, Nt.msz.mszL (T.kids.take i) ≤ 16385 * 8192) := by
    intro i
    have h1 := Nt.mszL_le (T.kids.take i)
    have h2 : (T.kids.take i).length ≤ T.kids.length := by simp; omega
    have h3 := Nat.mul_le_mul_left 16385 (Nat.le_trans h2 hlen)
    omega
  obtain ⟨p0, p1, p2, p3, p4⟩ := hP.cells
  obtain ⟨q0, q1, q2, q3, q4, q5, q6, q7, q8⟩ := h9
  clear hR hkids hP
  go_enter Tryd.func75, Tryd.ntmps75
  go_wp2_with fail
  go_loopw [3, 11] (fun sv iv wr => ∃ i : Nat, i ≤ T.kids.length ∧ iv = .int .i64 (i : Int) ∧ sv = .int .i64 (Nt.msz.mszL (T.kids.take i) : Nat) ∧ wr = w) (fun _ iv _ => T.kids.length - (intOf iv).toNat)
  case atStart => exact ⟨0, by omega, rfl, rfl, rfl⟩
  case round =>
    obtain ⟨i, hi', rfl, rfl, rfl⟩ := hrel
    by_cases hlt : i < T.kids.length
    · obtain ⟨kb, ko, rfl, hk1, hk2⟩ := HKS.out i hlt
      have HT : Hid _ := Nt.mszL_take hlt
      have hs1 := HML.out i
      have hs2 := Nt.msz_le (T.kids[i])
      generalize hA : Nt.msz.mszL (T.kids.take i) = A at *
      generalize hC : Nt.msz (T.kids[i]) = C at *
      have HA : Hid _ := hA
      have HC : Hid _ := hC
      clear hA hC
      go_wp2_with fail
      go_roundw
      case rel => exact ⟨i + 1, by omega, by go_num, by rw [HT.out]; go_num, trivial⟩
      case measure => simp [intOf]; omega
    · obtain rfl : i = T.kids.length := by omega
      rw [List.take_length]
      have hs1 := HML.out T.kids.length
      rw [List.take_length] at hs1
      generalize hA : Nt.msz.mszL T.kids = A at *
      clear hA
      by_cases k2 : T.k = 2
      · rw [k2] at q0 HR
        go_wp2_with fail
        go_ret
        exact ⟨ret_int (by rw [← HR.out]; rfl), 0, rfl⟩
      by_cases k7 : T.k = 7
      · rw [k7] at q0 HR
        go_wp2_with fail
        go_ret
        exact ⟨ret_int (by rw [← HR.out]; rfl), 0, rfl⟩
      by_cases k8 : T.k = 8
      · rw [k8] at q0 HR
        go_wp2_with fail
        go_ret
        exact ⟨ret_int (by rw [← HR.out]; rfl), 0, rfl⟩
      by_cases k9 : T.k = 9
      · rw [k9] at q0 HR
        go_wp2_with fail
        go_ret
        exact ⟨ret_int (by rw [← HR.out]; rfl), 0, rfl⟩
      by_cases k6 : T.k = 6
      · rw [k6] at q0 HR
        go_wp2_with fail
        go_ret
        exact ⟨ret_int (by rw [← HR.out]; rfl), 0, rfl⟩
      by_cases k4 : T.k = 4
      · have h2 := HFo.out k4
        rw [k4] at q0 HR
        go_wp2_with fail
        go_ret
        refine ⟨ret_int ?_, 0, rfl⟩
        rw [← HR.out]
        simp only [Nt.szN]
        simp
        omega
      by_cases k5 : T.k = 5
      · have HRO := HRO.out k5
        have HRO : Hid _ := HRO
        rw [k5] at q0
        go_wp2_with fail
        refine Calls.mono HRO.out ?_
        rintro e w2 ⟨rfl, nq, rfl⟩
        clear HRO
        go_wp2_with fail
        go_ret
        exact ⟨rfl, nq, rfl⟩
      have hre : Hid (R = A) := by
        show _ = _
        rw [← HR.out]
        simp [Nt.szN, k2, k7, k8, k9, k6, k4, k5]
      have d2 : ¬ ((T.k : Int) = 2) := by omega
      have d7 : ¬ ((T.k : Int) = 7) := by omega
      have d8 : ¬ ((T.k : Int) = 8) := by omega
      have d9 : ¬ ((T.k : Int) = 9) := by omega
      have d6 : ¬ ((T.k : Int) = 6) := by omega
      have d4 : ¬ ((T.k : Int) = 4) := by omega
      have d5 : ¬ ((T.k : Int) = 5) := by omega
      go_wp2_with fail
      go_ret
      exact ⟨ret_int (by rw [hre.out]), 0, rfl⟩
end Go.Proofs.YtdiokclbdaojpaaDoor
namespace Go.Proofs.YtdiokclbdaojpaaDoor
open Go.RowKit

/-- No block but g has turned. -/
structure Bx (g : Nat) (w w' : World) : Prop where
  os : w'.os = w.os
  tape : w'.tape = w.tape
  output : w'.output = w.output
  size : w.heap.size ≤ w'.heap.size
  block : ∀ k, k < w.heap.size → k ≠ g → w'.heap[k]? = w.heap[k]?
theorem Bx.refl (g : Nat) (w : World) : Bx g w w := ⟨rfl, rfl, rfl, Nat.le_refl _, fun _ _ _ => rfl⟩
theorem Bx.trans {g : Nat} {a b c : World} (h : Bx g a b) (k : Bx g b c) : Bx g a c :=
  ⟨k.os.trans h.os, k.tape.trans h.tape, k.output.trans h.output, Nat.le_trans h.size k.size, fun i hi hg => (k.block i (Nat.lt_of_lt_of_le hi h.size) hg).trans (h.block i hi hg)⟩
theorem Bx.of_below {g : Nat} {a b : World} (h : Below a.heap.size a b) : Bx g a b := ⟨h.os, h.tape, h.output, h.size, fun k hk _ => h.block k hk⟩
theorem Bx.below {g B : Nat} {a b : World} (h : Bx g a b) (hB : B ≤ g) (hs : B ≤ a.heap.size) : Below B a b := ⟨h.os, h.tape, h.output, h.size, fun k hk => h.block k (by omega) (by omega)⟩
theorem Bx.set (g j : Nat) (w : World) (v : Value) : Bx g w (w.setCell ⟨g, j, none⟩ v) := by
  have h := (Below.refl 0 w).setCell (p := ⟨g, j, none⟩) (Nat.zero_le _) v
  exact ⟨h.os, h.tape, h.output, h.size, fun k _ hg => heap_setCell_other w ⟨g, j, none⟩ k v (by simpa using hg)⟩

namespace Nt
/-- The groups that have begun, and which have ended. -/
structure Tl where
  begun : Nat
  ended : Nat → Bool
def tlA (t : Tl) : Array Value := #[.int .i64 (t.begun : Int), .bool (t.ended 0), .bool (t.ended 1), .bool (t.ended 2), .bool (t.ended 3), .bool (t.ended 4), .bool (t.ended 5), .bool (t.ended 6), .bool (t.ended 7), .bool (t.ended 8), .bool (t.ended 9)]
/-- The block g holds a tally. -/
def TlAt (w : World) (g : Nat) (t : Tl) : Prop := w.heap[g]? = some (.cells (tlA t) 104 (0, 0))
theorem TlAt.lt {w : World} {g : Nat} {t : Tl} (h : TlAt w g t) : g < w.heap.size := by
  unfold TlAt at h
  by_cases hlt : g < w.heap.size
  · exact hlt
  · rw [Array.getElem?_eq_none (by omega)] at h; cases h
theorem TlAt.under {w w' : World} {g : Nat} {t : Tl} (h : TlAt w g t) (hb : Below w.heap.size w w') : TlAt w' g t := by
  unfold TlAt; rw [hb.block g h.lt]; exact h
theorem TlAt.cell {w : World} {g : Nat} {t : Tl} (h : TlAt w g t) (j : Nat) : w.cell? ⟨g, j, none⟩ = (tlA t)[j]? := cell_of_row w g _ _ _ _ h
theorem TlAt.frozen {w : World} {g : Nat} {t : Tl} (h : TlAt w g t) (j : Nat) : w.frozen? ⟨g, j, none⟩ = false := frozen_of_row w g j _ _ h
theorem Nine.bx {w w' : World} {b o g : Nat} {T : NT} {a : Option Addr} {cap : Nat} (h : Nine w b o T a cap) (hb : Bx g w w') (hlt : b < w.heap.size) (hne : b ≠ g) : Nine w' b o T a cap := h.same (hb.block b hlt hne)
theorem Nd.bx {w w' : World} {g B : Nat} {T : NT} {a : Option Addr} {cap : Nat} (h : Nd w (fun b => b < B ∧ b ≠ g) T a cap) (hb : Bx g w w') (hB : B ≤ w.heap.size) : Nd w' (fun b => b < B ∧ b ≠ g) T a cap := h.same (fun b hp => hb.block b (by omega) hp.2) (fun _ h => h)
theorem Tabs.bx {w w' : World} {g : Nat} (h : Tabs w) (hb : Bx g w w') (hg : 2 ≤ g) : Tabs w' := h.below (hb.below (B := 2) hg h.big) (Nat.le_refl _)
theorem tl_begun {w : World} {g : Nat} {t : Tl} (h : TlAt w g t) (n : Nat) : TlAt (w.setCell ⟨g, 0, none⟩ (.int .i64 (n : Int))) g ⟨n, t.ended⟩ := by
  exact heap_setCell_same w g 0 _ _ (.int .i64 (n : Int)) h
theorem tl_ended {w : World} {g : Nat} {t : Tl} (h : TlAt w g t) (j : Nat) (hj : j ≤ 9) : TlAt (w.setCell ⟨g, 1 + j, none⟩ (.bool true)) g ⟨t.begun, fun x => x == j || t.ended x⟩ := by
  have := heap_setCell_same w g (1 + j) _ _ (.bool true) h
  match j, hj with
  | 0, _ | 1, _ | 2, _ | 3, _ | 4, _ | 5, _ | 6, _ | 7, _ | 8, _ | 9, _ => exact this
end Nt
set_option maxRecDepth 100000 in
set_option maxHeartbeats 1000000 in
theorem begin_any (g : Nat) (t : Nt.Tl) (gr : Int) (w : World) (hT : Nt.TlAt w g t) (hb : t.begun ≤ 8192) :
    Calls Tryd.prog 73 #[.pointer (some ⟨g, 0, none⟩), .int .i64 gr] w fun e w' => e = .returned (.bool (gr == ((t.begun + 1 : Nat) : Int) && decide (gr ≤ 99))) ∧ w' = w.setCell ⟨g, 0, none⟩ (.int .i64 ((t.begun + 1 : Nat) : Int)) := by
  have c0 : w.cell? ⟨g, 0, none⟩ = some (.int .i64 (t.begun : Int)) := hT.cell 0
  have f0 := hT.frozen 0
  have d0 : (w.setCell ⟨g, 0, none⟩ (.int .i64 ((t.begun : Int) + 1))).cell? ⟨g, 0, none⟩ = some (.int .i64 ((t.begun : Int) + 1)) := World.cell?_setCell_same' _ _ _ (by rw [c0]; rfl)
  clear hT
  by_cases h1 : gr = (t.begun : Int) + 1
  · have h1' : (gr == ((t.begun : Int) + 1)) = true := by simpa using h1
    have H1 : Hid _ := h1
    clear h1
    go_enter Tryd.func73, Tryd.ntmps73
    go_wp2_with fail
    all_goals
      go_ret
      refine ⟨ret_bool ?_, by simp⟩
      have := H1.out
      simp_all
  · have h1' : (gr == ((t.begun : Int) + 1)) = false := by simpa using h1
    have H1 : Hid _ := h1
    clear h1
    go_enter Tryd.func73, Tryd.ntmps73
    go_wp2_with fail
    all_goals
      go_ret
      refine ⟨ret_bool ?_, by simp⟩
      have := H1.out
      simp_all
set_option maxRecDepth 100000 in
set_option maxHeartbeats 1000000 in
theorem can_any (g : Nat) (t : Nt.Tl) (gr : Int) (w : World) (hT : Nt.TlAt w g t) :
    Calls Tryd.prog 74 #[.pointer (some ⟨g, 0, none⟩), .int .i64 gr] w fun e w' => e = .returned (.bool (decide (1 ≤ gr) && (decide (gr ≤ 9) && t.ended gr.toNat))) ∧ w' = w := by
  have c : ∀ j, j ≤ 9 → w.cell? ⟨g, 1 + j, none⟩ = some (.bool (t.ended j)) := fun j hj => by
    rw [hT.cell]
    match j, hj with
    | 0, _ | 1, _ | 2, _ | 3, _ | 4, _ | 5, _ | 6, _ | 7, _ | 8, _ | 9, _ => rfl
  by_cases h1 : 1 ≤ gr
  · by_cases h2 : gr ≤ 9
    · obtain ⟨j, rfl⟩ : ∃ j : Nat, gr = (j : Int) := ⟨gr.toNat, by omega⟩
      have cj := c j (by omega)
      clear c hT
      go_enter Tryd.func74, Tryd.ntmps74
      go_wp2_with fail
      go_ret
      exact ⟨ret_bool (by rw [decide_eq_true h1, decide_eq_true h2]; simp), rfl⟩
    · clear c hT
      go_enter Tryd.func74, Tryd.ntmps74
      go_wp2_with fail
      go_ret
      exact ⟨ret_bool (by rw [decide_eq_false (show ¬ gr ≤ 9 by omega)]; simp), rfl⟩
  · clear c hT
    go_enter Tryd.func74, Tryd.ntmps74
    go_wp2_with fail
    go_ret
    exact ⟨ret_bool (by rw [decide_eq_false (show ¬ 1 ≤ gr by omega)]; simp), rfl⟩
end Go.Proofs.YtdiokclbdaojpaaDoor
namespace Go.Proofs.YtdiokclbdaojpaaDoor
open Go.RowKit

theorem Tryd.infoPtr : (Tryd.prog.info? 66).map (fun i => (i.zero, i.size, i.bytes)) = some (some (.pointer none), 1, 8) := by kernel_rfl

namespace Nt
/-- The block b holds the piece of a tree, all of whose blocks are such that P is true. -/
inductive Pc (w : World) (P : Nat → Prop) : NT → Nat → Prop
  | mk {T : NT} {b : Nat} (nb off : Nat) (a : Option Addr) (cap : Nat) (ka : Option Addr) (kc : Nat) (bs : Nat → Nat) (hb : P b) (blk : PcB w b nb off (msz T : Nat) (glo T) (ghi T) (.slice ka T.kids.length kc)) (hn : P nb) (node : Nine w nb off T a cap) (len : T.kids.length ≤ 8192) (room : T.kids.length ≤ kc) (most : kc ≤ maxLen)
    (kids : ∀ i (_h : i < T.kids.length), ∃ kb ko, ka = some ⟨kb, ko, none⟩ ∧ P kb ∧ w.cell? ⟨kb, ko + i, none⟩ = some (.pointer (some ⟨bs i, 0, none⟩)))
    (sub : ∀ i (h : i < T.kids.length), Pc w P (T.kids[i]) (bs i)) : Pc w P T b
theorem Pc.same {w w' : World} {P Q : Nat → Prop} {T : NT} {b : Nat} (h : Pc w P T b) (hb : ∀ x, P x → w'.heap[x]? = w.heap[x]?) (hQ : ∀ x, P x → Q x) : Pc w' Q T b := by
  induction h with
  | mk nb off a cap ka kc bs hb' blk hn node len room most kids sub ih =>
    refine .mk nb off a cap ka kc bs (hQ _ hb') (blk.same (hb _ hb')) (hQ _ hn) (node.same (hb _ hn)) len room most (fun i hi => ?_) (fun i hi => ih i hi)
    obtain ⟨kb, ko, e, hp, hc⟩ := kids i hi
    exact ⟨kb, ko, e, hQ _ hp, (World.cell?_of_block (w := w) (hb _ hp)).trans hc⟩
theorem Pc.head {w : World} {P : Nat → Prop} {T : NT} {b : Nat} (h : Pc w P T b) : P b ∧ ∃ nb off v, PcB w b nb off (msz T : Nat) (glo T) (ghi T) v := by
  cases h with | mk nb off a cap ka kc bs hb blk hn node len room most kids sub => exact ⟨hb, nb, off, _, blk⟩
def ptrL (bs : List Nat) : List Value := bs.map fun b : Nat => Value.pointer (some ⟨b, 0, none⟩)
/-- A row of the call's own that reads as pointers to the pieces of the trees l. -/
def KRow (w : World) (base : Nat) (N : Nat → Prop) (v : Value) (l : List NT) : Prop :=
  ∃ bs : List Nat, bs.length = l.length ∧ w.ownsRow base 66 1 v bs.length (ptrL bs) ∧ ∀ i (h : i < l.length), Pc w (fun x => N x ∨ (base ≤ x ∧ x < w.heap.size ∧ some x ≠ v.ownBlock)) (l[i]) (bs.getD i 0)
theorem KRow.empty (w : World) (base : Nat) (N : Nat → Prop) : KRow w base N (.slice none 0 0) [] := ⟨[], rfl, World.ownsRow_nil _ _ _ _, fun i h => absurd h (by simp)⟩
theorem KRow.below {w w' : World} {base : Nat} {N : Nat → Prop} {v : Value} {l : List NT} (h : KRow w base N v l) (hb : Below w.heap.size w w') (hN : ∀ x, N x → x < w.heap.size) : KRow w' base N v l := by
  obtain ⟨bs, h1, h2, h3⟩ := h
  refine ⟨bs, h1, own_below h2 hb, fun i hi => (h3 i hi).same (fun x hx => ?_) (fun x hx => ?_)⟩
  · rcases hx with hx | hx
    · exact hb.block x (hN x hx)
    · exact hb.block x hx.2.1
  · rcases hx with hx | hx
    · exact .inl hx
    · exact .inr ⟨hx.1, Nat.lt_of_lt_of_le hx.2.1 hb.size, hx.2.2⟩
theorem KRow.bx {w w' : World} {base g : Nat} {N : Nat → Prop} {v : Value} {l : List NT} (h : KRow w base N v l) (hb : Bx g w w') (hg : g < base) (hN : ∀ x, N x → x < w.heap.size ∧ x ≠ g) : KRow w' base N v l := by
  obtain ⟨bs, h1, h2, h3⟩ := h
  refine ⟨bs, h1, ⟨h2.1, ?_⟩, fun i hi => (h3 i hi).same (fun x hx => ?_) (fun x hx => ?_)⟩
  · rcases h2.2 with h2 | ⟨k, cap, cur, hv, hbg, hk, r⟩
    · exact .inl h2
    · exact .inr ⟨k, cap, cur, hv, hbg, by rw [hb.block k (lt_of_block hk) (by omega)]; exact hk, r⟩
  · rcases hx with hx | hx
    · exact hb.block x (hN x hx).1 (hN x hx).2
    · exact hb.block x hx.2.1 (by omega)
  · rcases hx with hx | hx
    · exact .inl hx
    · exact .inr ⟨hx.1, Nat.lt_of_lt_of_le hx.2.1 hb.size, hx.2.2⟩
theorem krow_snoc {w w' : World} {base m b : Nat} {N : Nat → Prop} {v v' : Value} {l : List NT} {bs : List Nat} {T : NT} {o : Obj} (hl : bs.length = l.length) (he : ∀ i (h : i < l.length), Pc w (fun x => N x ∨ (base ≤ x ∧ x < w.heap.size ∧ some x ≠ v.ownBlock)) (l[i]) (bs.getD i 0))
    (hx : Pc w (fun x => N x ∨ (base ≤ x ∧ x < w.heap.size ∧ some x ≠ v.ownBlock)) T b) (own' : w'.ownsRow base 66 1 v' (bs.length + 1) (ptrL bs ++ [.pointer (some ⟨b, 0, none⟩)])) (hgr : (w.alloc o).grownBy w' v.ownBlock) (hat : v'.ownBlock = v.ownBlock ∨ v'.ownBlock = some m) (hm : w.heap.size ≤ m) (hN : ∀ x, N x → x < w.heap.size ∧ x < base) (hown : ∀ k, v.ownBlock = some k → base ≤ k) : KRow w' base N v' (l ++ [T]) := by
  have hsz : w.heap.size ≤ w'.heap.size := by have := hgr.size; simp at this; omega
  have key : ∀ x, (N x ∨ (base ≤ x ∧ x < w.heap.size ∧ some x ≠ v.ownBlock)) → w'.heap[x]? = w.heap[x]? := fun x hp => by
    rcases hp with hp | hp
    · rw [hgr.block x (by have := (hN x hp).1; simp; omega) (fun e => by have := hown x e.symm; have := (hN x hp).2; omega), heap_alloc_old w o (hN x hp).1]
    · rw [hgr.block x (by simp; omega) (fun e => hp.2.2 e), heap_alloc_old w o hp.2.1]
  have kq : ∀ x, (N x ∨ (base ≤ x ∧ x < w.heap.size ∧ some x ≠ v.ownBlock)) → (N x ∨ (base ≤ x ∧ x < w'.heap.size ∧ some x ≠ v'.ownBlock)) := fun x hp => by
    rcases hp with hp | hp
    · exact .inl hp
    · refine .inr ⟨hp.1, by omega, ?_⟩
      rcases hat with e | e
      · rw [e]; exact hp.2.2
      · rw [e]; intro q; injection q with q; omega
  refine ⟨bs ++ [b], by simp [hl], ?_, fun i hi => ?_⟩
  · have e : ptrL (bs ++ [b]) = ptrL bs ++ [.pointer (some ⟨b, 0, none⟩)] := by simp [ptrL]
    rw [e, List.length_append]; exact own'
  · by_cases h : i < l.length
    · have e1 : (l ++ [T])[i] = l[i] := List.getElem_append_left h
      have e2 : (bs ++ [b]).getD i 0 = bs.getD i 0 := by
        rw [List.getD_eq_getElem?_getD, List.getD_eq_getElem?_getD, List.getElem?_append_left (by omega)]
      rw [e1, e2]
      exact (he i h).same key kq
    · have hi' : i = l.length := by simp at hi; omega
      subst hi'
      have e1 : (l ++ [T])[l.length] = T := by simp
      have e2 : (bs ++ [b]).getD l.length 0 = b := by rw [List.getD_eq_getElem?_getD, ← hl]; simp
      rw [e1, e2]
      exact hx.same key kq
theorem gloL_take {l : List NT} {i : Nat} (h : i < l.length) (s : Int) : glo.gloL s (l.take (i + 1)) = (if glo.gloL s (l.take i) == 0 then glo (l[i]) else glo.gloL s (l.take i)) := by rw [List.take_succ_eq_append_getElem h, gloL_snoc]
theorem ghiL_take {l : List NT} {i : Nat} (h : i < l.length) (s : Int) : ghi.ghiL s (l.take (i + 1)) = max (ghi.ghiL s (l.take i)) (ghi (l[i])) := by rw [List.take_succ_eq_append_getElem h, ghiL_snoc]
theorem PcB.put1 {w : World} {b nb off : Nat} {z lo hi : Int} {v : Value} (h : PcB w b nb off z lo hi v) (x : Int) : PcB (w.setCell ⟨b, 1, none⟩ (.int .i64 x)) b nb off x lo hi v := heap_setCell_same w b 1 _ _ (.int .i64 x) h
theorem PcB.put2 {w : World} {b nb off : Nat} {z lo hi : Int} {v : Value} (h : PcB w b nb off z lo hi v) (x : Int) : PcB (w.setCell ⟨b, 2, none⟩ (.int .i64 x)) b nb off z x hi v := heap_setCell_same w b 2 _ _ (.int .i64 x) h
theorem PcB.put3 {w : World} {b nb off : Nat} {z lo hi : Int} {v : Value} (h : PcB w b nb off z lo hi v) (x : Int) : PcB (w.setCell ⟨b, 3, none⟩ (.int .i64 x)) b nb off z lo x v := heap_setCell_same w b 3 _ _ (.int .i64 x) h
theorem PcB.put4 {w : World} {b nb off : Nat} {z lo hi : Int} {v : Value} (h : PcB w b nb off z lo hi v) (x : Value) : PcB (w.setCell ⟨b, 4, none⟩ x) b nb off z lo hi x := heap_setCell_same w b 4 _ _ x h
/-- A row of pieces, as a piece's kids. -/
theorem KRow.pc {w : World} {base b nb off : Nat} {N : Nat → Prop} {v : Value} {T : NT} {a : Option Addr} {cap : Nat} {P : Nat → Prop} (h : KRow w base N v T.kids) (hlen : T.kids.length ≤ 8192) (blk : PcB w b nb off (msz T : Nat) (glo T) (ghi T) v) (node : Nine w nb off T a cap) (hb : P b) (hn : P nb) (hP : ∀ x, N x ∨ (base ≤ x ∧ x < w.heap.size) → P x) : Pc w P T b := by
  obtain ⟨bs, h1, h2, h3⟩ := h
  have h2' := h2
  rcases h2.2 with ⟨hv, hz⟩ | ⟨g, kc, cur, hv, hbg, hg, hcap, hmax, hsize, htake⟩
  · refine .mk nb off a cap none 0 (fun i => bs.getD i 0) hb (by rw [hv] at blk; rw [← h1, hz]; exact blk) hn node hlen (by omega) (Nat.zero_le _) (fun i hi => absurd hi (by omega)) (fun i hi => absurd hi (by omega))
  · refine .mk nb off a cap (some ⟨g, 0, none⟩) kc (fun i => bs.getD i 0) hb (by rw [hv, h1] at blk; exact blk) hn node hlen (by omega) hmax (fun i hi => ⟨g, 0, rfl, hP g (.inr ⟨hbg, lt_of_block hg⟩), ?_⟩) (fun i hi => (h3 i hi).same (fun _ _ => rfl) (fun x hx => hP x (hx.imp id (fun h => ⟨h.1, h.2.1⟩))))
    rw [hv] at h2'
    have hlt : i < bs.length := by omega
    have := h2'.cellAt i (by omega)
    rw [Nat.zero_add, this, ptrL, List.getElem?_map, List.getElem?_eq_getElem hlt, List.getD_eq_getElem?_getD, List.getElem?_eq_getElem hlt]
    rfl
end Nt
end Go.Proofs.YtdiokclbdaojpaaDoor
