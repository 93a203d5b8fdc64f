/- What sets.Bracket answers, over what readItem answers in the worlds that follow on the first one. -/
import Derived.Test.YtmlpfgfpmbnbeaaSBrk
import Derived.Test.YtmlpfgfpmbnbeaaSRdC
namespace Go.Proofs.Ytmlpfgfpmbnbeaa
open Go.RowKit

set_option maxRecDepth 100000 in
set_option maxHeartbeats 800000 in
theorem bracketB_any (s : ByteArray) (IP : Nat → (Nat → Bool) × Nat × Bool) (w : World) (hs : s.size ≤ 140737488355328)
    (HI : Hid (∀ j w1, j ≤ s.size → Below w.heap.size w w1 → Calls Try.prog 42 #[.string s, .int .i64 (j : Int)] w1 fun e w' => e = .returned (.tuple #[St.setV (IP j).1, .int .i64 ((IP j).2.1 : Nat), .bool (IP j).2.2]) ∧ Below w1.heap.size w1 w'))
    (HM : Hid (∀ j, (IP j).2.2 = true → j < (IP j).2.1 ∧ (IP j).2.1 ≤ s.size)) :
    Calls Try.prog 32 #[.string s] w fun e w' => e = .returned (.tuple #[St.setV (St.brP IP s).1, .int .i64 ((St.brP IP s).2.1 : Nat), .int .i64 ((St.brP IP s).2.2.1 : Nat), .int .i64 ((St.brP IP s).2.2.2 : Nat)]) ∧ Below w.heap.size w w' := by
  have P1 : Hid (∀ w1, Calls Try.prog 41 #[.string s, .string ⟨#[94]⟩] w1 fun e w' => e = .returned (.bool (St.pre1 s 0 94)) ∧ w1 = w') := fun w1 => pre1_whole s 94 w1 hs
  obtain ⟨R, hR⟩ : ∃ R, St.brP IP s = R := ⟨_, rfl⟩
  rw [hR]
  have HR : Hid (St.brP IP s = R) := hR
  clear hR
  unfold St.brP at HR
  have A0 : SetAt ((w.alloc (.cells #[.int .u64 0, .int .u64 0, .int .u64 0, .int .u64 0] 25)).alloc (.cells #[.int .u64 0, .int .u64 0, .int .u64 0, .int .u64 0] 25)) w.heap.size (St.inL []) := atS1 w
  have A1 : SetAt ((w.alloc (.cells #[.int .u64 0, .int .u64 0, .int .u64 0, .int .u64 0] 25)).alloc (.cells #[.int .u64 0, .int .u64 0, .int .u64 0, .int .u64 0] 25)) (w.heap.size + 1) (St.inL []) := atS2 w
  have hnx0 : Below w.heap.size w ((w.alloc (.cells #[.int .u64 0, .int .u64 0, .int .u64 0, .int .u64 0] 25)).alloc (.cells #[.int .u64 0, .int .u64 0, .int .u64 0, .int .u64 0] 25)) := ((Below.refl _ _).alloc (Nat.le_refl _) _).alloc (by simp) _
  have HN : Hid (∀ p w1, Calls Try.prog 26 #[St.setV p] w1 fun e w' => e = .returned (St.setV (fun x => !p x)) ∧ Below w1.heap.size w1 w') := fun p w1 => not_any p w1
  have HOr : Hid (∀ p q w1, Calls Try.prog 24 #[St.setV p, St.setV q] w1 fun e w' => e = .returned (St.setV (fun x => p x || q x)) ∧ Below w1.heap.size w1 w') := fun p q w1 => or_any p q w1
  simp only [St.setV] at HI HN HOr ⊢
  cases hn : St.pre1 s 0 94
  · rw [hn] at P1 HR
    have HR : Hid (St.brGo IP s false (s.size + 1) 0 true (St.inL []) = R) := HR
    go_enter Try.func32, Try.ntmps32
    go_wp2_with fail
    refine (P1.out _).mono ?_
    rintro x w1 ⟨rfl, rfl⟩
    go_wp2_with fail
    go_loopw [6, 9] (fun a f wr => ∃ (k fuel : Nat) (fb : Bool) (acc : Nat → Bool), k ≤ s.size ∧ a = .int .i64 k ∧ f = .bool fb ∧ s.size < k + fuel ∧ Hid (St.brGo IP s false fuel k fb acc = R) ∧ SetAt wr (w.heap.size + 1) acc ∧ SetAt wr w.heap.size (St.inL []) ∧ Below w.heap.size w wr) (fun a _ _ => s.size - (intOf a).toNat)
    case atStart => exact ⟨0, s.size + 1, true, St.inL [], by omega, rfl, rfl, by omega, HR, A1, A0, hnx0⟩
    case round =>
      clear A0 A1 hnx0 P1
      obtain ⟨k, fuel, fb, acc, hk, rfl, rfl, hfu, HC, S1, S0, hnx⟩ := hrel
      obtain ⟨f, rfl⟩ : ∃ f, fuel = f + 1 := ⟨fuel - 1, by omega⟩
      have hl1 := S1.lt
      have HIk : Hid (∀ w1, Below w.heap.size w w1 → Calls Try.prog 42 #[.string s, .int .i64 (k : Int)] w1 fun e w' => e = .returned (.tuple #[.agg #[.int .u64 (St.wd (IP k).1 0 : Nat), .int .u64 (St.wd (IP k).1 1 : Nat), .int .u64 (St.wd (IP k).1 2 : Nat), .int .u64 (St.wd (IP k).1 3 : Nat)], .int .i64 ((IP k).2.1 : Nat), .bool (IP k).2.2]) ∧ Below w1.heap.size w1 w') := fun w1 hbw => HI.out k w1 hk hbw
      cases fb
      · by_cases hlt : k < s.size
        · have HBK : Hid (St.bt s k = (s[k]'hlt).toNat) := St.bt_in hlt
          cases hc : (((s[k]'hlt).toNat : Int) != 93)
          · have HT : Hid ((false || (decide (k < s.size) && !(St.bt s k == 93))) = false) := by
              show _ = _
              have h93 : (s[k]'hlt).toNat = 93 := by simp at hc; omega
              rw [HBK.out, h93]; simp
            have HC : Hid ((if false then (fun x => !acc x) else acc, k + 1, 0, 0) = R) := by have := HC.out; rwa [St.brGo_ok HT.out (by omega)] at this
            have hre := HC.out
            subst hre
            obtain ⟨q0, q1, q2, q3⟩ := S1.cells
            obtain ⟨r0, r1, r2, r3⟩ := S0.cells
            have f0 := S0.frozen 0
            have f1 := S0.frozen 1
            have f2 := S0.frozen 2
            have f3 := S0.frozen 3
            go_wp2_with fail
            (try simp only [Exit.inBlock, Exit.then])
            exact bodyPost_ret (results_set4 rfl _ _ w.heap.size acc rfl (S0.put (q := acc))) rfl ⟨rfl, put4_below hnx (Nat.le_refl _)⟩
          · have HT : Hid ((false || (decide (k < s.size) && !(St.bt s k == 93))) = true) := by
              show _ = _
              have h93 : (s[k]'hlt).toNat ≠ 93 := by simp at hc; omega
              rw [HBK.out, decide_eq_true hlt]; simp; omega
            cases hok : (IP k).2.2
            · have HC : Hid ((St.inL [], 0, 70, (IP k).2.1) = R) := by have := HC.out; rwa [St.brGo_bad HT.out hok] at this
              rw [hok] at HIk
              generalize (IP k).2.1 = nx at *
              generalize (IP k).1 = st at *
              have hre := HC.out
              subst hre
              go_wp2_with fail
              refine (HIk.out _ (by first | exact hnx | exact hnx.drew | exact Below.drewN hnx _)).mono ?_
              rintro x w2 ⟨rfl, hb⟩
              have S0' := S0.under hb
              have hnx' := Below.more hnx hb (by omega)
              have hs2 := hb.size
              clear hb
              obtain ⟨r0, r1, r2, r3⟩ := S0'.cells
              have f0 := S0'.frozen 0
              have f1 := S0'.frozen 1
              have f2 := S0'.frozen 2
              have f3 := S0'.frozen 3
              have hl2 := S0'.lt
              go_wp2_with fail
              (try simp only [Exit.inBlock, Exit.then])
              exact bodyPost_ret (results_set4 rfl _ _ w.heap.size (St.inL []) rfl ((SetAt.putZ S0').alloc _)) rfl ⟨rfl, (putZ_below hnx' (Nat.le_refl _)).alloc (putZ_below hnx' (Nat.le_refl _)).size _⟩
            · have HC : Hid (St.brGo IP s false f (IP k).2.1 false (fun x => acc x || (IP k).1 x) = R) := by have := HC.out; rwa [St.brGo_go HT.out hok] at this
              have hmk := HM.out k hok
              rw [hok] at HIk
              have HOr' := HOr.out acc (IP k).1
              have HOr' : Hid (∀ w1, Calls Try.prog 24 #[.agg #[.int .u64 (St.wd acc 0 : Nat), .int .u64 (St.wd acc 1 : Nat), .int .u64 (St.wd acc 2 : Nat), .int .u64 (St.wd acc 3 : Nat)], .agg #[.int .u64 (St.wd (IP k).1 0 : Nat), .int .u64 (St.wd (IP k).1 1 : Nat), .int .u64 (St.wd (IP k).1 2 : Nat), .int .u64 (St.wd (IP k).1 3 : Nat)]] w1 _) := HOr'
              generalize (IP k).2.1 = nx at *
              generalize (IP k).1 = st at *
              go_wp2_with fail
              refine (HIk.out _ (by first | exact hnx | exact hnx.drew | exact Below.drewN hnx _)).mono ?_
              rintro x w2 ⟨rfl, hb⟩
              have S0' := S0.under hb
              have S1' := S1.under hb
              have hnx' := Below.more hnx hb (by omega)
              have hs2 := hb.size
              clear hb
              obtain ⟨q0, q1, q2, q3⟩ := S1'.cells
              have hl2 := S1'.lt
              have T0 := S0'.alloc (.cells #[.int .u64 (St.wd st 0 : Nat), .int .u64 (St.wd st 1 : Nat), .int .u64 (St.wd st 2 : Nat), .int .u64 (St.wd st 3 : Nat)] 25)
              have T1 := S1'.alloc (.cells #[.int .u64 (St.wd st 0 : Nat), .int .u64 (St.wd st 1 : Nat), .int .u64 (St.wd st 2 : Nat), .int .u64 (St.wd st 3 : Nat)] 25)
              have hnT := hnx'.alloc (by omega) (.cells #[.int .u64 (St.wd st 0 : Nat), .int .u64 (St.wd st 1 : Nat), .int .u64 (St.wd st 2 : Nat), .int .u64 (St.wd st 3 : Nat)] 25)
              go_wp2_with fail
              refine (HOr'.out _).mono ?_
              rintro x w3 ⟨rfl, hb⟩
              have U0 := T0.under hb
              have U1 := T1.under hb
              have hnU := Below.more hnT hb hnT.size
              have hs3 := hb.size
              have hl3 := U1.lt
              clear hb T0 T1 hnT S0' S1' q0 q1 q2 q3
              obtain ⟨r0, r1, r2, r3⟩ := U1.cells
              have f0 := U1.frozen 0
              have f1 := U1.frozen 1
              have f2 := U1.frozen 2
              have f3 := U1.frozen 3
              go_wp2_with fail
              refine ⟨⟨nx, f, false, _, hmk.2, rfl, rfl, by omega, HC, U1.put, U0.other (by omega), put4_below hnU (by omega)⟩, ?_⟩
              simp [intOf]; omega
        · have HT : Hid ((false || (decide (k < s.size) && !(St.bt s k == 93))) = false) := by show _ = _; rw [decide_eq_false hlt]; rfl
          have hke : k = s.size := by omega
          have HC : Hid ((St.inL [], 0, 70, k) = R) := by have := HC.out; rwa [St.brGo_end HT.out hke] at this
          have hre := HC.out
          subst hre
          have HKE : Hid (k = s.size) := hke
          clear hke
          have hke' : ((k : Int) == (s.size : Int)) = true := by rw [HKE.out]; simp
          obtain ⟨r0, r1, r2, r3⟩ := S0.cells
          have f0 := S0.frozen 0
          have f1 := S0.frozen 1
          have f2 := S0.frozen 2
          have f3 := S0.frozen 3
          go_wp2_with fail
          (try simp only [Exit.inBlock, Exit.then])
          exact bodyPost_ret (results_set4 rfl _ _ w.heap.size (St.inL []) rfl (SetAt.putZ S0)) rfl ⟨rfl, putZ_below hnx (Nat.le_refl _)⟩
      · have HT : Hid ((true || (decide (k < s.size) && !(St.bt s k == 93))) = true) := by show _ = _; rfl
        cases hok : (IP k).2.2
        · have HC : Hid ((St.inL [], 0, 70, (IP k).2.1) = R) := by have := HC.out; rwa [St.brGo_bad HT.out hok] at this
          rw [hok] at HIk
          generalize (IP k).2.1 = nx at *
          generalize (IP k).1 = st at *
          have hre := HC.out
          subst hre
          go_wp2_with fail
          refine (HIk.out _ (by first | exact hnx | exact hnx.drew | exact Below.drewN hnx _)).mono ?_
          rintro x w2 ⟨rfl, hb⟩
          have S0' := S0.under hb
          have hnx' := Below.more hnx hb (by omega)
          have hs2 := hb.size
          clear hb
          obtain ⟨r0, r1, r2, r3⟩ := S0'.cells
          have f0 := S0'.frozen 0
          have f1 := S0'.frozen 1
          have f2 := S0'.frozen 2
          have f3 := S0'.frozen 3
          have hl2 := S0'.lt
          go_wp2_with fail
          (try simp only [Exit.inBlock, Exit.then])
          exact bodyPost_ret (results_set4 rfl _ _ w.heap.size (St.inL []) rfl ((SetAt.putZ S0').alloc _)) rfl ⟨rfl, (putZ_below hnx' (Nat.le_refl _)).alloc (putZ_below hnx' (Nat.le_refl _)).size _⟩
        · have HC : Hid (St.brGo IP s false f (IP k).2.1 false (fun x => acc x || (IP k).1 x) = R) := by have := HC.out; rwa [St.brGo_go HT.out hok] at this
          have hmk := HM.out k hok
          rw [hok] at HIk
          have HOr' := HOr.out acc (IP k).1
          have HOr' : Hid (∀ w1, Calls Try.prog 24 #[.agg #[.int .u64 (St.wd acc 0 : Nat), .int .u64 (St.wd acc 1 : Nat), .int .u64 (St.wd acc 2 : Nat), .int .u64 (St.wd acc 3 : Nat)], .agg #[.int .u64 (St.wd (IP k).1 0 : Nat), .int .u64 (St.wd (IP k).1 1 : Nat), .int .u64 (St.wd (IP k).1 2 : Nat), .int .u64 (St.wd (IP k).1 3 : Nat)]] w1 _) := HOr'
          generalize (IP k).2.1 = nx at *
          generalize (IP k).1 = st at *
          go_wp2_with fail
          refine (HIk.out _ (by first | exact hnx | exact hnx.drew | exact Below.drewN hnx _)).mono ?_
          rintro x w2 ⟨rfl, hb⟩
          have S0' := S0.under hb
          have S1' := S1.under hb
          have hnx' := Below.more hnx hb (by omega)
          have hs2 := hb.size
          clear hb
          obtain ⟨q0, q1, q2, q3⟩ := S1'.cells
          have hl2 := S1'.lt
          have T0 := S0'.alloc (.cells #[.int .u64 (St.wd st 0 : Nat), .int .u64 (St.wd st 1 : Nat), .int .u64 (St.wd st 2 : Nat), .int .u64 (St.wd st 3 : Nat)] 25)
          have T1 := S1'.alloc (.cells #[.int .u64 (St.wd st 0 : Nat), .int .u64 (St.wd st 1 : Nat), .int .u64 (St.wd st 2 : Nat), .int .u64 (St.wd st 3 : Nat)] 25)
          have hnT := hnx'.alloc (by omega) (.cells #[.int .u64 (St.wd st 0 : Nat), .int .u64 (St.wd st 1 : Nat), .int .u64 (St.wd st 2 : Nat), .int .u64 (St.wd st 3 : Nat)] 25)
          go_wp2_with fail
          refine (HOr'.out _).mono ?_
          rintro x w3 ⟨rfl, hb⟩
          have U0 := T0.under hb
          have U1 := T1.under hb
          have hnU := Below.more hnT hb hnT.size
          have hs3 := hb.size
          have hl3 := U1.lt
          clear hb T0 T1 hnT S0' S1' q0 q1 q2 q3
          obtain ⟨r0, r1, r2, r3⟩ := U1.cells
          have f0 := U1.frozen 0
          have f1 := U1.frozen 1
          have f2 := U1.frozen 2
          have f3 := U1.frozen 3
          go_wp2_with fail
          refine ⟨⟨nx, f, false, _, hmk.2, rfl, rfl, by omega, HC, U1.put, U0.other (by omega), put4_below hnU (by omega)⟩, ?_⟩
          simp [intOf]; omega
  · rw [hn] at P1 HR
    have HR : Hid (St.brGo IP s true (s.size + 1) 1 true (St.inL []) = R) := HR
    have h1 : 1 ≤ s.size := by
      unfold St.pre1 at hn
      rw [beq_iff_eq] at hn
      have := St.bt_lt_iff.1 (show St.bt s 0 < 256 by omega)
      omega
    go_enter Try.func32, Try.ntmps32
    go_wp2_with fail
    refine (P1.out _).mono ?_
    rintro x w1 ⟨rfl, rfl⟩
    go_wp2_with fail
    go_loopw [6, 9] (fun a f wr => ∃ (k fuel : Nat) (fb : Bool) (acc : Nat → Bool), k ≤ s.size ∧ a = .int .i64 k ∧ f = .bool fb ∧ s.size < k + fuel ∧ Hid (St.brGo IP s true fuel k fb acc = R) ∧ SetAt wr (w.heap.size + 1) acc ∧ SetAt wr w.heap.size (St.inL []) ∧ Below w.heap.size w wr) (fun a _ _ => s.size - (intOf a).toNat)
    case atStart => exact ⟨1, s.size + 1, true, St.inL [], by omega, rfl, rfl, by omega, HR, A1, A0, hnx0⟩
    case round =>
      clear A0 A1 hnx0 P1
      obtain ⟨k, fuel, fb, acc, hk, rfl, rfl, hfu, HC, S1, S0, hnx⟩ := hrel
      obtain ⟨f, rfl⟩ : ∃ f, fuel = f + 1 := ⟨fuel - 1, by omega⟩
      have hl1 := S1.lt
      have HIk : Hid (∀ w1, Below w.heap.size w w1 → Calls Try.prog 42 #[.string s, .int .i64 (k : Int)] w1 fun e w' => e = .returned (.tuple #[.agg #[.int .u64 (St.wd (IP k).1 0 : Nat), .int .u64 (St.wd (IP k).1 1 : Nat), .int .u64 (St.wd (IP k).1 2 : Nat), .int .u64 (St.wd (IP k).1 3 : Nat)], .int .i64 ((IP k).2.1 : Nat), .bool (IP k).2.2]) ∧ Below w1.heap.size w1 w') := fun w1 hbw => HI.out k w1 hk hbw
      cases fb
      · by_cases hlt : k < s.size
        · have HBK : Hid (St.bt s k = (s[k]'hlt).toNat) := St.bt_in hlt
          cases hc : (((s[k]'hlt).toNat : Int) != 93)
          · have HT : Hid ((false || (decide (k < s.size) && !(St.bt s k == 93))) = false) := by
              show _ = _
              have h93 : (s[k]'hlt).toNat = 93 := by simp at hc; omega
              rw [HBK.out, h93]; simp
            have HC : Hid ((if true then (fun x => !acc x) else acc, k + 1, 0, 0) = R) := by have := HC.out; rwa [St.brGo_ok HT.out (by omega)] at this
            have hre := HC.out
            subst hre
            obtain ⟨q0, q1, q2, q3⟩ := S1.cells
            have HNa := HN.out acc
            have HNa : Hid (∀ w1, Calls Try.prog 26 #[.agg #[.int .u64 (St.wd acc 0 : Nat), .int .u64 (St.wd acc 1 : Nat), .int .u64 (St.wd acc 2 : Nat), .int .u64 (St.wd acc 3 : Nat)]] w1 _) := HNa
            go_wp2_with fail
            refine (HNa.out _).mono ?_
            rintro x w3 ⟨rfl, hb⟩
            have U0 := S0.under hb
            have U1 := S1.under hb
            have hnU := Below.more hnx hb (by omega)
            have hl3 := U1.lt
            clear hb q0 q1 q2 q3
            obtain ⟨r0, r1, r2, r3⟩ := U1.cells
            have f0 := U1.frozen 0
            have f1 := U1.frozen 1
            have f2 := U1.frozen 2
            have f3 := U1.frozen 3
            obtain ⟨t0, t1, t2, t3⟩ := U0.cells
            have g0 := U0.frozen 0
            have g1 := U0.frozen 1
            have g2 := U0.frozen 2
            have g3 := U0.frozen 3
            go_wp2_with fail
            (try simp only [Exit.inBlock, Exit.then])
            exact bodyPost_ret (results_set4 rfl _ _ w.heap.size (fun x => !acc x) rfl (SetAt.put (w := put4 w3 (w.heap.size + 1) (fun x => !acc x)) (U0.other (by omega)))) rfl ⟨rfl, put4_below (put4_below hnU (by omega)) (Nat.le_refl _)⟩
          · have HT : Hid ((false || (decide (k < s.size) && !(St.bt s k == 93))) = true) := by
              show _ = _
              have h93 : (s[k]'hlt).toNat ≠ 93 := by simp at hc; omega
              rw [HBK.out, decide_eq_true hlt]; simp; omega
            cases hok : (IP k).2.2
            · have HC : Hid ((St.inL [], 0, 70, (IP k).2.1) = R) := by have := HC.out; rwa [St.brGo_bad HT.out hok] at this
              rw [hok] at HIk
              generalize (IP k).2.1 = nx at *
              generalize (IP k).1 = st at *
              have hre := HC.out
              subst hre
              go_wp2_with fail
              refine (HIk.out _ (by first | exact hnx | exact hnx.drew | exact Below.drewN hnx _)).mono ?_
              rintro x w2 ⟨rfl, hb⟩
              have S0' := S0.under hb
              have hnx' := Below.more hnx hb (by omega)
              have hs2 := hb.size
              clear hb
              obtain ⟨r0, r1, r2, r3⟩ := S0'.cells
              have f0 := S0'.frozen 0
              have f1 := S0'.frozen 1
              have f2 := S0'.frozen 2
              have f3 := S0'.frozen 3
              have hl2 := S0'.lt
              go_wp2_with fail
              (try simp only [Exit.inBlock, Exit.then])
              exact bodyPost_ret (results_set4 rfl _ _ w.heap.size (St.inL []) rfl ((SetAt.putZ S0').alloc _)) rfl ⟨rfl, (putZ_below hnx' (Nat.le_refl _)).alloc (putZ_below hnx' (Nat.le_refl _)).size _⟩
            · have HC : Hid (St.brGo IP s true f (IP k).2.1 false (fun x => acc x || (IP k).1 x) = R) := by have := HC.out; rwa [St.brGo_go HT.out hok] at this
              have hmk := HM.out k hok
              rw [hok] at HIk
              have HOr' := HOr.out acc (IP k).1
              have HOr' : Hid (∀ w1, Calls Try.prog 24 #[.agg #[.int .u64 (St.wd acc 0 : Nat), .int .u64 (St.wd acc 1 : Nat), .int .u64 (St.wd acc 2 : Nat), .int .u64 (St.wd acc 3 : Nat)], .agg #[.int .u64 (St.wd (IP k).1 0 : Nat), .int .u64 (St.wd (IP k).1 1 : Nat), .int .u64 (St.wd (IP k).1 2 : Nat), .int .u64 (St.wd (IP k).1 3 : Nat)]] w1 _) := HOr'
              generalize (IP k).2.1 = nx at *
              generalize (IP k).1 = st at *
              go_wp2_with fail
              refine (HIk.out _ (by first | exact hnx | exact hnx.drew | exact Below.drewN hnx _)).mono ?_
              rintro x w2 ⟨rfl, hb⟩
              have S0' := S0.under hb
              have S1' := S1.under hb
              have hnx' := Below.more hnx hb (by omega)
              have hs2 := hb.size
              clear hb
              obtain ⟨q0, q1, q2, q3⟩ := S1'.cells
              have hl2 := S1'.lt
              have T0 := S0'.alloc (.cells #[.int .u64 (St.wd st 0 : Nat), .int .u64 (St.wd st 1 : Nat), .int .u64 (St.wd st 2 : Nat), .int .u64 (St.wd st 3 : Nat)] 25)
              have T1 := S1'.alloc (.cells #[.int .u64 (St.wd st 0 : Nat), .int .u64 (St.wd st 1 : Nat), .int .u64 (St.wd st 2 : Nat), .int .u64 (St.wd st 3 : Nat)] 25)
              have hnT := hnx'.alloc (by omega) (.cells #[.int .u64 (St.wd st 0 : Nat), .int .u64 (St.wd st 1 : Nat), .int .u64 (St.wd st 2 : Nat), .int .u64 (St.wd st 3 : Nat)] 25)
              go_wp2_with fail
              refine (HOr'.out _).mono ?_
              rintro x w3 ⟨rfl, hb⟩
              have U0 := T0.under hb
              have U1 := T1.under hb
              have hnU := Below.more hnT hb hnT.size
              have hs3 := hb.size
              have hl3 := U1.lt
              clear hb T0 T1 hnT S0' S1' q0 q1 q2 q3
              obtain ⟨r0, r1, r2, r3⟩ := U1.cells
              have f0 := U1.frozen 0
              have f1 := U1.frozen 1
              have f2 := U1.frozen 2
              have f3 := U1.frozen 3
              go_wp2_with fail
              refine ⟨⟨nx, f, false, _, hmk.2, rfl, rfl, by omega, HC, U1.put, U0.other (by omega), put4_below hnU (by omega)⟩, ?_⟩
              simp [intOf]; omega
        · have HT : Hid ((false || (decide (k < s.size) && !(St.bt s k == 93))) = false) := by show _ = _; rw [decide_eq_false hlt]; rfl
          have hke : k = s.size := by omega
          have HC : Hid ((St.inL [], 0, 70, k) = R) := by have := HC.out; rwa [St.brGo_end HT.out hke] at this
          have hre := HC.out
          subst hre
          have HKE : Hid (k = s.size) := hke
          clear hke
          have hke' : ((k : Int) == (s.size : Int)) = true := by rw [HKE.out]; simp
          obtain ⟨r0, r1, r2, r3⟩ := S0.cells
          have f0 := S0.frozen 0
          have f1 := S0.frozen 1
          have f2 := S0.frozen 2
          have f3 := S0.frozen 3
          go_wp2_with fail
          (try simp only [Exit.inBlock, Exit.then])
          exact bodyPost_ret (results_set4 rfl _ _ w.heap.size (St.inL []) rfl (SetAt.putZ S0)) rfl ⟨rfl, putZ_below hnx (Nat.le_refl _)⟩
      · have HT : Hid ((true || (decide (k < s.size) && !(St.bt s k == 93))) = true) := by show _ = _; rfl
        cases hok : (IP k).2.2
        · have HC : Hid ((St.inL [], 0, 70, (IP k).2.1) = R) := by have := HC.out; rwa [St.brGo_bad HT.out hok] at this
          rw [hok] at HIk
          generalize (IP k).2.1 = nx at *
          generalize (IP k).1 = st at *
          have hre := HC.out
          subst hre
          go_wp2_with fail
          refine (HIk.out _ (by first | exact hnx | exact hnx.drew | exact Below.drewN hnx _)).mono ?_
          rintro x w2 ⟨rfl, hb⟩
          have S0' := S0.under hb
          have hnx' := Below.more hnx hb (by omega)
          have hs2 := hb.size
          clear hb
          obtain ⟨r0, r1, r2, r3⟩ := S0'.cells
          have f0 := S0'.frozen 0
          have f1 := S0'.frozen 1
          have f2 := S0'.frozen 2
          have f3 := S0'.frozen 3
          have hl2 := S0'.lt
          go_wp2_with fail
          (try simp only [Exit.inBlock, Exit.then])
          exact bodyPost_ret (results_set4 rfl _ _ w.heap.size (St.inL []) rfl ((SetAt.putZ S0').alloc _)) rfl ⟨rfl, (putZ_below hnx' (Nat.le_refl _)).alloc (putZ_below hnx' (Nat.le_refl _)).size _⟩
        · have HC : Hid (St.brGo IP s true f (IP k).2.1 false (fun x => acc x || (IP k).1 x) = R) := by have := HC.out; rwa [St.brGo_go HT.out hok] at this
          have hmk := HM.out k hok
          rw [hok] at HIk
          have HOr' := HOr.out acc (IP k).1
          have HOr' : Hid (∀ w1, Calls Try.prog 24 #[.agg #[.int .u64 (St.wd acc 0 : Nat), .int .u64 (St.wd acc 1 : Nat), .int .u64 (St.wd acc 2 : Nat), .int .u64 (St.wd acc 3 : Nat)], .agg #[.int .u64 (St.wd (IP k).1 0 : Nat), .int .u64 (St.wd (IP k).1 1 : Nat), .int .u64 (St.wd (IP k).1 2 : Nat), .int .u64 (St.wd (IP k).1 3 : Nat)]] w1 _) := HOr'
          generalize (IP k).2.1 = nx at *
          generalize (IP k).1 = st at *
          go_wp2_with fail
          refine (HIk.out _ (by first | exact hnx | exact hnx.drew | exact Below.drewN hnx _)).mono ?_
          rintro x w2 ⟨rfl, hb⟩
          have S0' := S0.under hb
          have S1' := S1.under hb
          have hnx' := Below.more hnx hb (by omega)
          have hs2 := hb.size
          clear hb
          obtain ⟨q0, q1, q2, q3⟩ := S1'.cells
          have hl2 := S1'.lt
          have T0 := S0'.alloc (.cells #[.int .u64 (St.wd st 0 : Nat), .int .u64 (St.wd st 1 : Nat), .int .u64 (St.wd st 2 : Nat), .int .u64 (St.wd st 3 : Nat)] 25)
          have T1 := S1'.alloc (.cells #[.int .u64 (St.wd st 0 : Nat), .int .u64 (St.wd st 1 : Nat), .int .u64 (St.wd st 2 : Nat), .int .u64 (St.wd st 3 : Nat)] 25)
          have hnT := hnx'.alloc (by omega) (.cells #[.int .u64 (St.wd st 0 : Nat), .int .u64 (St.wd st 1 : Nat), .int .u64 (St.wd st 2 : Nat), .int .u64 (St.wd st 3 : Nat)] 25)
          go_wp2_with fail
          refine (HOr'.out _).mono ?_
          rintro x w3 ⟨rfl, hb⟩
          have U0 := T0.under hb
          have U1 := T1.under hb
          have hnU := Below.more hnT hb hnT.size
          have hs3 := hb.size
          have hl3 := U1.lt
          clear hb T0 T1 hnT S0' S1' q0 q1 q2 q3
          obtain ⟨r0, r1, r2, r3⟩ := U1.cells
          have f0 := U1.frozen 0
          have f1 := U1.frozen 1
          have f2 := U1.frozen 2
          have f3 := U1.frozen 3
          go_wp2_with fail
          refine ⟨⟨nx, f, false, _, hmk.2, rfl, rfl, by omega, HC, U1.put, U0.other (by omega), put4_below hnU (by omega)⟩, ?_⟩
          simp [intOf]; omega
end Go.Proofs.Ytmlpfgfpmbnbeaa
