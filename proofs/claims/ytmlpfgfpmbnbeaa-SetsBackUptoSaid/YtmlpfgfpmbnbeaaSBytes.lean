/- What sets.Bytes and the reference's Bytes answer. -/
import Derived.Test.YtmlpfgfpmbnbeaaSRange
import Derived.Test.YtmlpfgfpmbnbeaaLShare
namespace Go.Proofs.Ytmlpfgfpmbnbeaa
open Go.RowKit

namespace St
/-- A set's bytes below n, rising. -/
def lst (p : Nat → Bool) : Nat → List UInt8
  | 0 => []
  | n + 1 => lst p n ++ (if p n then [UInt8.ofNat n] else [])
theorem lst_length (p : Nat → Bool) : ∀ n, (lst p n).length = cnt p n
  | 0 => rfl
  | n + 1 => by rw [lst, List.length_append, lst_length p n, cnt]; by_cases h : p n <;> simp [h]
theorem lst_yes {p : Nat → Bool} {n : Nat} (h : p n = true) : lst p (n + 1) = lst p n ++ [UInt8.ofNat n] := by rw [lst, if_pos h]
theorem lst_no {p : Nat → Bool} {n : Nat} (h : p n = false) : lst p (n + 1) = lst p n := by rw [lst, h]; simp
theorem inL_lst (p : Nat → Bool) : ∀ n, n ≤ 256 → ∀ c, inL (lst p n) c = (decide (c < n) && p c)
  | 0, _, c => by simp [lst, inL]
  | n + 1, hn, c => by
    have ih := inL_lst p n (by omega) c
    rw [lst]
    unfold inL at *
    rw [List.any_append, ih]
    have e : (UInt8.ofNat n).toNat = n := by simp; omega
    by_cases hp : p n
    · rw [if_pos hp, List.any_cons, List.any_nil, Bool.or_false, e]
      by_cases h : n = c
      · subst h; simp [hp]
      · have : (n == c) = false := by simpa using h
        rw [this, Bool.or_false]
        congr 1
        rw [decide_eq_decide]
        omega
    · have hp' : p n = false := by simpa using hp
      rw [if_neg hp, List.any_nil, Bool.or_false]
      by_cases h : n = c
      · subst h; simp [hp']
      · congr 1
        rw [decide_eq_decide]
        omega
end St
theorem own_mono {w : World} {base base' : Nat} {e : TypeId} {size : Nat} {v : Value} {n : Nat} {xs : List Value} (h : w.ownsRow base e size v n xs) (hb : base' ≤ base) : w.ownsRow base' e size v n xs := by
  refine ⟨h.1, ?_⟩
  rcases h.2 with h2 | ⟨g, cap, cur, hv, hbg, hg, r⟩
  · exact .inl h2
  · exact .inr ⟨g, cap, cur, hv, Nat.le_trans hb hbg, hg, r⟩
theorem at_new (w : World) (p : Nat → Bool) : SetAt (w.alloc (.cells #[.int .u64 (St.wd p 0 : Nat), .int .u64 (St.wd p 1 : Nat), .int .u64 (St.wd p 2 : Nat), .int .u64 (St.wd p 3 : Nat)] 25)) w.heap.size p := heap_alloc_new w _
theorem SetAt.grown {w w' : World} {g : Nat} {p : Nat → Bool} {row : Option Nat} (h : SetAt w g p) (hg : w.grownBy w' row) (hn : row ≠ some g) : SetAt w' g p := by
  unfold SetAt; rw [hg.block g h.lt (fun e => hn e.symm)]; exact h

set_option maxRecDepth 100000 in
set_option maxHeartbeats 1000000 in
theorem bytes_any (p : Nat → Bool) (w : World) :
    Calls Try.prog 15 #[St.setV p] w fun e w' => ∃ v, e = .returned v ∧ w'.ownsRow w.heap.size 5 1 v (St.cnt p 256) (bcells (St.lst p 256)) ∧ Below w.heap.size w w' := by
  simp only [St.setV]
  obtain ⟨i0, hi, hz0, hz1, hz2⟩ := info_parts Try.infoByte
  obtain ⟨LL, hLL⟩ : ∃ LL, St.lst p 256 = LL := ⟨_, rfl⟩
  obtain ⟨NN, hNN⟩ : ∃ NN, St.cnt p 256 = NN := ⟨_, rfl⟩
  rw [hLL, hNN]
  have HLL : Hid (∀ m, m = 256 → St.lst p m = LL) := fun m hm => by rw [hm]; exact hLL
  have HNN : Hid (∀ m, m = 256 → St.cnt p m = NN) := fun m hm => by rw [hm]; exact hNN
  clear hLL hNN
  go_enter Try.func15, Try.ntmps15
  go_wp2_with fail
  go_loopw [3, 5] (fun v i wr => ∃ k : Nat, k ≤ 256 ∧ i = .int .i64 k ∧ SetAt wr w.heap.size p ∧ wr.ownsRow (w.heap.size + 1) 5 1 v (St.lst p k).length (bcells (St.lst p k)) ∧ Below w.heap.size w wr) (fun _ i _ => 256 - (intOf i).toNat)
  case atStart => exact ⟨0, by omega, rfl, at_new w p, World.ownsRow_nil _ _ _ _, (Below.refl _ _).alloc (Nat.le_refl _) _⟩
  case round =>
    obtain ⟨k, hk, rfl, S1, hown, hnx⟩ := hrel
    obtain ⟨q0, q1, q2, q3⟩ := S1.cells
    have hl1 := S1.lt
    by_cases hlt : k < 256
    · have hw := wrap_byte hlt
      have hll : (St.lst p k).length ≤ 256 := by rw [St.lst_length]; exact Nat.le_trans (St.cnt_le p k) hk
      cases hp : p k
      · have HT : Hid (St.lst p (k + 1) = St.lst p k) := St.lst_no hp
        generalize St.lst p k = L at *
        go_wp2_with (go_at_call 17; refine (has_any p k hlt _).mono ?_; rw [hp]; rintro x w1 ⟨rfl, hb⟩)
        refine ⟨⟨k + 1, by omega, by go_num, S1.under hb, by rw [HT.out]; exact own_below hown hb, Below.more hnx hb (by omega)⟩, ?_⟩
        simp [intOf]; omega
      · have HT : Hid (St.lst p (k + 1) = St.lst p k ++ [UInt8.ofNat k]) := St.lst_yes hp
        have hck : ((UInt8.ofNat k).toNat : Int) = (k : Int) := by simp; omega
        have HCK : Hid (((UInt8.ofNat k).toNat : Int) = (k : Int)) := hck
        clear hck
        generalize St.lst p k = L at *
        go_wp2_with fail
        refine (has_any p k hlt _).mono ?_
        rw [hp]
        rintro x w1 ⟨rfl, hb⟩
        have hb1 := Below.more hnx hb (by omega)
        have hs1 := hb.size
        have S1' := S1.under hb
        have hown' := own_below hown hb
        go_wp2_with (at_builtin; refine wpList_append_own _ rfl (.tmp 12) (.tmp 15) 22 rfl (w.heap.size + 1) 5 i0 (.int .u8 0) 1 1 Try.underlying22 hi hz0 hz1 hz2 rfl (by decide) _ _ _ rfl (hown'.alloc _) ⟨w1.heap.size, 0, none⟩ 1 1 [.int .u8 (k : Int)] rfl rfl (cell_one_new _ _ _) ?c2 ?c3 ?c4 ?c5 ?_)
        case c2 => first | exact one_ints (k := .u8) _ | rfl | (intro u hu; simp at hu; subst hu; rfl)
        case c3 => unfold maxLen; omega
        case c4 => omega
        case c5 => first | omega | (simp; omega)
        intro v3 w3 hown3 hgr3 _
        have hB3 : Below w.heap.size w w3 := (hb1.alloc (by omega) _).grown hgr3 (by simp; omega) (fun g hg => Nat.le_of_succ_le (hown'.lt g hg).1)
        have S3 : SetAt w3 w.heap.size p := ((S1'.under ((Below.refl _ _).alloc (Nat.le_refl _) _)).grown hgr3 (fun e => by have := (hown'.lt _ e).1; omega))
        have ho3 : w3.ownsRow (w.heap.size + 1) 5 1 v3 (L ++ [UInt8.ofNat k]).length (bcells (L ++ [UInt8.ofNat k])) := by
          rw [bcells_append, List.length_append]
          show World.ownsRow w3 _ _ _ _ _ (bcells L ++ [.int .u8 ((UInt8.ofNat k).toNat : Int)])
          rw [HCK.out]
          exact hown3
        clear hgr3 hown3
        go_wp2_with fail
        refine ⟨⟨k + 1, by omega, by go_num, S3, by rw [HT.out]; exact ho3, hB3⟩, ?_⟩
        simp [intOf]; omega
    · have hk6 : k = 256 := by omega
      rw [St.lst_length, HNN.out k hk6, HLL.out k hk6] at hown
      clear hk6
      go_wp2_with fail
      go_ret
      exact ⟨_, rfl, own_mono hown (Nat.le_succ _), hnx⟩

set_option maxRecDepth 100000 in
set_option maxHeartbeats 1000000 in
theorem rbytes_any (p : Nat → Bool) (w : World) :
    Calls Try.prog 16 #[St.setV p] w fun e w' => ∃ v, e = .returned v ∧ w'.ownsRow w.heap.size 5 1 v (St.cnt p 256) (bcells (St.lst p 256)) ∧ Below w.heap.size w w' := by
  simp only [St.setV]
  obtain ⟨i0, hi, hz0, hz1, hz2⟩ := info_parts Try.infoByte
  obtain ⟨LL, hLL⟩ : ∃ LL, St.lst p 256 = LL := ⟨_, rfl⟩
  obtain ⟨NN, hNN⟩ : ∃ NN, St.cnt p 256 = NN := ⟨_, rfl⟩
  rw [hLL, hNN]
  have HLL : Hid (∀ m, m = 256 → St.lst p m = LL) := fun m hm => by rw [hm]; exact hLL
  have HNN : Hid (∀ m, m = 256 → St.cnt p m = NN) := fun m hm => by rw [hm]; exact hNN
  clear hLL hNN
  go_enter Try.func16, Try.ntmps16
  go_wp2_with fail
  go_loopw [3, 4] (fun v i wr => ∃ k : Nat, k ≤ 256 ∧ i = .int .i64 k ∧ SetAt wr w.heap.size p ∧ wr.ownsRow (w.heap.size + 1) 5 1 v (St.lst p k).length (bcells (St.lst p k)) ∧ Below w.heap.size w wr) (fun _ i _ => 256 - (intOf i).toNat)
  case atStart => exact ⟨0, by omega, rfl, at_new w p, World.ownsRow_nil _ _ _ _, (Below.refl _ _).alloc (Nat.le_refl _) _⟩
  case round =>
    obtain ⟨k, hk, rfl, S1, hown, hnx⟩ := hrel
    obtain ⟨q0, q1, q2, q3⟩ := S1.cells
    have hl1 := S1.lt
    by_cases hlt : k < 256
    · have hw := wrap_byte hlt
      have hll : (St.lst p k).length ≤ 256 := by rw [St.lst_length]; exact Nat.le_trans (St.cnt_le p k) hk
      cases hp : p k
      · have HT : Hid (St.lst p (k + 1) = St.lst p k) := St.lst_no hp
        generalize St.lst p k = L at *
        go_wp2_with (go_at_call 18; refine (rhas_any p k hlt _).mono ?_; rw [hp]; rintro x w1 ⟨rfl, hb⟩)
        refine ⟨⟨k + 1, by omega, by go_num, S1.under hb, by rw [HT.out]; exact own_below hown hb, Below.more hnx hb (by omega)⟩, ?_⟩
        simp [intOf]; omega
      · have HT : Hid (St.lst p (k + 1) = St.lst p k ++ [UInt8.ofNat k]) := St.lst_yes hp
        have hck : ((UInt8.ofNat k).toNat : Int) = (k : Int) := by simp; omega
        have HCK : Hid (((UInt8.ofNat k).toNat : Int) = (k : Int)) := hck
        clear hck
        generalize St.lst p k = L at *
        go_wp2_with fail
        refine (rhas_any p k hlt _).mono ?_
        rw [hp]
        rintro x w1 ⟨rfl, hb⟩
        have hb1 := Below.more hnx hb (by omega)
        have hs1 := hb.size
        have S1' := S1.under hb
        have hown' := own_below hown hb
        go_wp2_with (at_builtin; refine wpList_append_own _ rfl (.tmp 13) (.tmp 16) 22 rfl (w.heap.size + 1) 5 i0 (.int .u8 0) 1 1 Try.underlying22 hi hz0 hz1 hz2 rfl (by decide) _ _ _ rfl (hown'.alloc _) ⟨w1.heap.size, 0, none⟩ 1 1 [.int .u8 (k : Int)] rfl rfl (cell_one_new _ _ _) ?c2 ?c3 ?c4 ?c5 ?_)
        case c2 => first | exact one_ints (k := .u8) _ | rfl | (intro u hu; simp at hu; subst hu; rfl)
        case c3 => unfold maxLen; omega
        case c4 => omega
        case c5 => first | omega | (simp; omega)
        intro v3 w3 hown3 hgr3 _
        have hB3 : Below w.heap.size w w3 := (hb1.alloc (by omega) _).grown hgr3 (by simp; omega) (fun g hg => Nat.le_of_succ_le (hown'.lt g hg).1)
        have S3 : SetAt w3 w.heap.size p := ((S1'.under ((Below.refl _ _).alloc (Nat.le_refl _) _)).grown hgr3 (fun e => by have := (hown'.lt _ e).1; omega))
        have ho3 : w3.ownsRow (w.heap.size + 1) 5 1 v3 (L ++ [UInt8.ofNat k]).length (bcells (L ++ [UInt8.ofNat k])) := by
          rw [bcells_append, List.length_append]
          show World.ownsRow w3 _ _ _ _ _ (bcells L ++ [.int .u8 ((UInt8.ofNat k).toNat : Int)])
          rw [HCK.out]
          exact hown3
        clear hgr3 hown3
        go_wp2_with fail
        refine ⟨⟨k + 1, by omega, by go_num, S3, by rw [HT.out]; exact ho3, hB3⟩, ?_⟩
        simp [intOf]; omega
    · have hk6 : k = 256 := by omega
      rw [St.lst_length, HNN.out k hk6, HLL.out k hk6] at hown
      clear hk6
      go_wp2_with fail
      go_ret
      exact ⟨_, rfl, own_mono hown (Nat.le_succ _), hnx⟩
end Go.Proofs.Ytmlpfgfpmbnbeaa
