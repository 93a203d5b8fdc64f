/- What the reference's Told and some answer: a byte, told; whether a byte that is told by octal digits goes on so. What the reference's Quote answers: the same as lines.Quote. What the reference's some answers: whether a byte that is told by octal digits goes on so. What the reference's escape answers. What the reference's Unquote answers: the same as lines.Unquote. -/
import Derived.Test.YtcloljkaojnipaaGreatDoorPgI
import Derived.Test.YtcloljkaojnipaaGreatDoorPgR
import Derived.Laws.OwnMore
import Derived.Test.YtcloljkaojnipaaGreatDoorLQuote
namespace Go.Proofs.YtcloljkaojnipaaGreatDoor
open Go.RowKit

namespace Ln
theorem toldR_oct : ∀ b : UInt8, b ≠ 92 → (b.toNat < 7 ∨ 13 < b.toNat) → ¬ (32 ≤ b.toNat ∧ b.toNat < 127) → toldL b = [92, 48 + b / 64, 48 + b / 8 % 8, 48 + b % 8] :=
  all_bytes (by decide +kernel)
theorem toldR_plain : ∀ b : UInt8, b ≠ 92 → 32 ≤ b.toNat ∧ b.toNat < 127 → toldL b = [b] :=
  all_bytes (by decide +kernel)
theorem told_o1 : ∀ b : UInt8, ((48 + b / 64).toNat : Int) = (48 + (b.toNat : Int) / 64) := all_bytes (by decide +kernel)
theorem told_o3 : ∀ b : UInt8, ((48 + b % 8).toNat : Int) = (48 + (b.toNat : Int) % 8) := all_bytes (by decide +kernel)
end Ln

theorem conv_lit (w : World) (l : List UInt8) (h : l.length ≤ 1024) :
    (convert 74 9 (.slice (some ⟨w.heap.size, 0, none⟩) l.length l.length)).run Tryz.prog (w.alloc (.cells (bcells l).toArray 5)) = .ok (.string (Ln.bs l)) (w.alloc (.cells (bcells l).toArray 5)) := by
  have ho := World.ownsRow_lit (base := w.heap.size) (e := 5) (size := 1) w (bcells l).toArray l.length (Nat.le_refl _) (by unfold maxLen; omega) (by simp [bcells])
  exact conv_own (by simpa using ho)

set_option maxRecDepth 100000 in
set_option maxHeartbeats 1000000 in
theorem rtold_any (b : UInt8) (w : World) :
    Calls Tryz.prog 84 #[.int .u8 b.toNat] w fun e w' => e = .returned (.string (Ln.bs (Ln.toldL b))) ∧ Below w.heap.size w w' := by
  by_cases h1 : b = 92
  · subst h1
    show Calls _ _ #[.int .u8 92] _ _
    go_enter Tryz.func84, Tryz.ntmps84
    go_wp2
    go_ret
    exact ⟨rfl, Below.refl _ _⟩
  by_cases h2 : b.toNat < 7 ∨ 13 < b.toNat
  · have e1 : ((b.toNat : Int) == 92) = false := by
      rw [beq_eq_false_iff_ne]; intro e; apply h1; rw [← UInt8.toNat_inj]; simp; omega
    have e2 : ((b.toNat : Int) == 7) = false := by rw [beq_eq_false_iff_ne]; omega
    have e3 : ((b.toNat : Int) == 8) = false := by rw [beq_eq_false_iff_ne]; omega
    have e4 : ((b.toNat : Int) == 12) = false := by rw [beq_eq_false_iff_ne]; omega
    have e5 : ((b.toNat : Int) == 10) = false := by rw [beq_eq_false_iff_ne]; omega
    have e6 : ((b.toNat : Int) == 13) = false := by rw [beq_eq_false_iff_ne]; omega
    have e7 : ((b.toNat : Int) == 9) = false := by rw [beq_eq_false_iff_ne]; omega
    have e8 : ((b.toNat : Int) == 11) = false := by rw [beq_eq_false_iff_ne]; omega
    by_cases h3 : 32 ≤ b.toNat ∧ b.toNat < 127
    · rw [Ln.toldR_plain b h1 h3]
      have i1 : (b.toNat : Int) ≥ 32 := by omega
      have i2 : (b.toNat : Int) < 127 := by omega
      have hcv : (convert 74 9 (.slice (some ⟨w.heap.size, 0, none⟩) 1 1)).run Tryz.prog (w.alloc (.cells #[.int .u8 b.toNat] 5)) = .ok (.string (Ln.bs [b])) (w.alloc (.cells #[.int .u8 b.toNat] 5)) := conv_lit w [b] (by simp)
      go_enter Tryz.func84, Tryz.ntmps84
      go_wp2_with fail
      go_ret
      exact ⟨rfl, (Below.refl _ _).alloc (Nat.le_refl _) _⟩
    · rw [Ln.toldR_oct b h1 h2 h3]
      have hcv : (convert 74 9 (.slice (some ⟨w.heap.size, 0, none⟩) 4 4)).run Tryz.prog (w.alloc (.cells #[.int .u8 92, .int .u8 (48 + (b.toNat : Int) / 64), .int .u8 (48 + (b.toNat : Int) / 8 % 8), .int .u8 (48 + (b.toNat : Int) % 8)] 5)) = .ok (.string (Ln.bs [92, 48 + b / 64, 48 + b / 8 % 8, 48 + b % 8])) (w.alloc (.cells #[.int .u8 92, .int .u8 (48 + (b.toNat : Int) / 64), .int .u8 (48 + (b.toNat : Int) / 8 % 8), .int .u8 (48 + (b.toNat : Int) % 8)] 5)) := by
        have h := conv_lit w [92, 48 + b / 64, 48 + b / 8 % 8, 48 + b % 8] (by simp)
        have e : (bcells [92, 48 + b / 64, 48 + b / 8 % 8, 48 + b % 8]).toArray = #[.int .u8 92, .int .u8 (48 + (b.toNat : Int) / 64), .int .u8 (48 + (b.toNat : Int) / 8 % 8), .int .u8 (48 + (b.toNat : Int) % 8)] := by
          simp only [bcells, List.map, Ln.told_o1, Ln.told_o3]; rfl
        rw [e] at h
        exact h
      have b255 : (b.toNat : Int) ≤ 255 := by have := b.toNat_lt; omega
      have m1 : (48 + (b.toNat : Int) / 64) % 256 = 48 + (b.toNat : Int) / 64 := by omega
      go_enter Tryz.func84, Tryz.ntmps84
      rcases (show (b.toNat : Int) < 32 ∨ (32 ≤ (b.toNat : Int) ∧ ¬ (b.toNat : Int) < 127) by omega) with i1 | ⟨i1, i2⟩
      · have i1' : ¬ (b.toNat : Int) ≥ 32 := by omega
        go_wp2_with fail
        go_ret
        exact ⟨rfl, (Below.refl _ _).alloc (Nat.le_refl _) _⟩
      · go_wp2_with fail
        go_ret
        exact ⟨rfl, (Below.refl _ _).alloc (Nat.le_refl _) _⟩
  · have h3 : b = 7 ∨ b = 8 ∨ b = 9 ∨ b = 10 ∨ b = 11 ∨ b = 12 ∨ b = 13 := by
      simp only [← UInt8.toNat_inj]; simp; omega
    rcases h3 with rfl | rfl | rfl | rfl | rfl | rfl | rfl
    · show Calls _ _ #[.int .u8 7] _ _
      go_enter Tryz.func84, Tryz.ntmps84
      go_wp2
      go_ret
      exact ⟨rfl, Below.refl _ _⟩
    · show Calls _ _ #[.int .u8 8] _ _
      go_enter Tryz.func84, Tryz.ntmps84
      go_wp2
      go_ret
      exact ⟨rfl, Below.refl _ _⟩
    · show Calls _ _ #[.int .u8 9] _ _
      go_enter Tryz.func84, Tryz.ntmps84
      go_wp2
      go_ret
      exact ⟨rfl, Below.refl _ _⟩
    · show Calls _ _ #[.int .u8 10] _ _
      go_enter Tryz.func84, Tryz.ntmps84
      go_wp2
      go_ret
      exact ⟨rfl, Below.refl _ _⟩
    · show Calls _ _ #[.int .u8 11] _ _
      go_enter Tryz.func84, Tryz.ntmps84
      go_wp2
      go_ret
      exact ⟨rfl, Below.refl _ _⟩
    · show Calls _ _ #[.int .u8 12] _ _
      go_enter Tryz.func84, Tryz.ntmps84
      go_wp2
      go_ret
      exact ⟨rfl, Below.refl _ _⟩
    · show Calls _ _ #[.int .u8 13] _ _
      go_enter Tryz.func84, Tryz.ntmps84
      go_wp2
      go_ret
      exact ⟨rfl, Below.refl _ _⟩
end Go.Proofs.YtcloljkaojnipaaGreatDoor
namespace Go.Proofs.YtcloljkaojnipaaGreatDoor
open Go.RowKit

set_option maxRecDepth 100000 in
set_option maxHeartbeats 1000000 in
theorem rquote_any (s : ByteArray) (w : World) (hs : s.size ≤ 16777216) :
    Calls Tryz.prog 53 #[.string s] w fun e w' => e = .returned (.string (Ln.quoP s)) ∧ Below w.heap.size w w' := by
  obtain ⟨i0, hi, hz0, hz1, hz2⟩ := info_parts Tryz.infoByte
  have ho0 := lit_owns w w.heap.size 34 (Nat.le_refl _)
  have hb0 : Below w.heap.size w (w.alloc (.cells #[.int .u8 34] 5)) := (Below.refl _ _).alloc (Nat.le_refl _) _
  go_enter Tryz.func53, Tryz.ntmps53
  go_wp2_with fail
  generalize w.alloc (.cells #[.int .u8 34] 5) = w0 at ho0 hb0 ⊢
  go_loopw [3, 4] (fun v i wr => ∃ (k : Nat) (Q : List UInt8), k ≤ s.size ∧ i = .int .i64 k ∧ Hid (Ln.quoS (s.data.toList.take k) = Q) ∧ 1 ≤ Q.length ∧ Q.length ≤ 4 * k + 1 ∧ wr.ownsRow w.heap.size 5 1 v Q.length (bcells Q) ∧ Below w.heap.size w wr) (fun _ i _ => s.size - (intOf i).toNat)
  case atStart => exact ⟨0, [34], Nat.zero_le _, rfl, rfl, by simp, by simp, ho0, hb0⟩
  case round =>
    obtain ⟨k, Q, hk, rfl, HQ, hQ1, hQ2, hown, hnx⟩ := hrel
    have hsz := hnx.size
    by_cases hlt : k < s.size
    · have hst := Ln.quoS_snoc s k hlt
      rw [HQ.out] at hst
      have hql := Ln.qL_len s[k]
      have i1 : (k : Int) < (s.size : Int) := by omega
      cases hq : ((s[k].toNat : Int) == 34)
      · have e : Ln.qL s[k] = Ln.toldL s[k] := by rw [Ln.qL, if_neg (Ln.byteN34 hq)]
        have HS : Hid (Ln.quoS (s.data.toList.take (k + 1)) = Q ++ Ln.toldL s[k]) := by rw [e] at hst; exact hst
        have htl := Ln.told_len s[k]
        have htz := Ln.bs_size (Ln.toldL s[k])
        have HTD : Hid ((Ln.bs (Ln.toldL s[k])).data.toList = Ln.toldL s[k]) := rfl
        obtain ⟨t, ht⟩ : ∃ t, Ln.toldL s[k] = t := ⟨_, rfl⟩
        rw [ht] at HS htl htz HTD
        have HTT : Hid (Ln.toldL s[k] = t) := ht
        obtain ⟨tb, htb⟩ : ∃ tb, Ln.bs t = tb := ⟨_, rfl⟩
        rw [htb] at htz HTD
        have HTB : Hid (Ln.bs t = tb) := htb
        clear hst e hql HQ ht htb
        go_wp2_with fail
        refine (rtold_any s[k] _).mono ?_
        rw [HTT.out, HTB.out]
        rintro e w2 ⟨rfl, hb2⟩
        replace hown := own_below hown hb2
        replace hnx := hnx.trans (hb2.mono hsz)
        replace hsz := hnx.size
        clear hb2
        go_wp2_with (at_builtin; refine Lib.wpList_append_own_string _ rfl _ _ 74 9 rfl w.heap.size 5 i0 Tryz.underlying74 Tryz.underlying9 hi hz0 hz1 hz2 _ _ _ rfl hown tb rfl (by unfold maxLen; omega) (by omega) (by omega) ?_)
        intro v3 w3 hown3 hgr3 _
        have hB3 : Below w.heap.size w w3 := hnx.grown hgr3 hsz (fun g hg => (hown.lt g hg).1)
        have ho3 : w3.ownsRow w.heap.size 5 1 v3 (Q ++ t).length (bcells (Q ++ t)) := by
          rw [bcells_append, List.length_append, show bcells t = Lib.strCells tb by rw [strCells_eq, HTD.out]]; exact hown3
        clear hgr3 hown3
        go_wp2
        go_roundw
        case rel => exact ⟨k + 1, Q ++ t, by omega, by first | rfl | go_num, HS, by simp; omega, by simp; omega, ho3, hB3⟩
        case measure => simp [intOf]; omega
      · have e : Ln.qL s[k] = [92, 34] := by rw [Ln.qL, if_pos (Ln.byte34 hq)]
        have HS : Hid (Ln.quoS (s.data.toList.take (k + 1)) = Q ++ [92] ++ [34]) := by rw [e] at hst; show _ = _; simpa using hst
        clear hst e hql HQ
        go_wp2_with (at_builtin; refine wpList_append_own _ rfl _ _ 74 rfl w.heap.size 5 i0 (.int .u8 0) 1 1 Tryz.underlying74 hi hz0 hz1 hz2 rfl (by decide) _ _ _ rfl (hown.alloc _) ⟨_, 0, none⟩ 1 1 [.int .u8 92] rfl rfl (cell_one_new _ _ _) (one_ints (k := .u8) _) (by unfold maxLen; omega) (by omega) (by simp; omega) ?_)
        intro v3 w3 hown3 hgr3 _
        have hB3 : Below w.heap.size w w3 := (hnx.alloc hsz _).grown hgr3 (by simp; omega) (fun g hg => (hown.lt g hg).1)
        have hs3 := hB3.size
        have ho3 : w3.ownsRow w.heap.size 5 1 v3 (Q ++ [92]).length (bcells (Q ++ [92])) := by rw [bcells_append, List.length_append]; exact hown3
        have hQ3 : (Q ++ [92]).length ≤ 4 * k + 2 := by simp; omega
        clear hgr3 hown3
        generalize Q ++ [92] = Q3 at *
        go_wp2_with (at_builtin; refine wpList_append_own _ rfl _ _ 74 rfl w.heap.size 5 i0 (.int .u8 0) 1 1 Tryz.underlying74 hi hz0 hz1 hz2 rfl (by decide) _ _ _ rfl (ho3.alloc _) ⟨_, 0, none⟩ 1 1 [.int .u8 34] rfl rfl (cell_one_new _ _ _) (one_ints (k := .u8) _) (by unfold maxLen; omega) (by omega) (by simp; omega) ?_)
        intro v4 w4 hown4 hgr4 _
        have hB4 : Below w.heap.size w w4 := (hB3.alloc hs3 _).grown hgr4 (by simp; omega) (fun g hg => (ho3.lt g hg).1)
        have ho4 : w4.ownsRow w.heap.size 5 1 v4 (Q3 ++ [34]).length (bcells (Q3 ++ [34])) := by rw [bcells_append, List.length_append]; exact hown4
        clear hgr4 hown4
        go_wp2
        go_roundw
        case rel => exact ⟨k + 1, Q3 ++ [34], by omega, by first | rfl | go_num, HS, by simp, by simp; omega, ho4, hB4⟩
        case measure => simp [intOf]; omega
    · have HT : Hid (s.data.toList.take k = s.data.toList) := Ln.take_all s k (by omega)
      have hQl : Q.length ≤ 67108865 := by omega
      have HQ2 : Hid (Ln.quoS s.data.toList = Q) := by have := HQ.out; rwa [HT.out] at this
      clear HQ HT
      obtain ⟨g1, c1, rfl, hbg, hgl⟩ := hown.form (by omega)
      go_wp2_with (at_builtin; refine wpList_append_own _ rfl _ _ 74 rfl w.heap.size 5 i0 (.int .u8 0) 1 1 Tryz.underlying74 hi hz0 hz1 hz2 rfl (by decide) _ _ _ rfl (hown.alloc _) ⟨_, 0, none⟩ 1 1 [.int .u8 34] rfl rfl (cell_one_new _ _ _) (one_ints (k := .u8) _) (by unfold maxLen; omega) (by omega) (by simp; omega) ?_)
      intro v3 w3 hown3 hgr3 _
      have hB3 : Below w.heap.size w w3 := (hnx.alloc hsz _).grown hgr3 (by simp; omega) (fun g hg => (hown.lt g hg).1)
      have ho3 : w3.ownsRow w.heap.size 5 1 v3 (Q ++ [34]).length (bcells (Q ++ [34])) := by rw [bcells_append, List.length_append]; exact hown3
      clear hgr3 hown3
      obtain ⟨g3, c3, rfl, _, _⟩ := ho3.form (by simp)
      have hcv := conv_own ho3
      generalize hL : (Q ++ [34]).length = n3 at hcv
      go_wp2_with fail
      go_ret
      refine ⟨?_, hB3⟩
      rw [Ln.quoP, HQ2.out]
      rfl
end Go.Proofs.YtcloljkaojnipaaGreatDoor
namespace Go.Proofs.YtcloljkaojnipaaGreatDoor
open Go.RowKit

namespace Ln
def t4 (b : Nat) : Bool := (toldL (UInt8.ofNat b)).length == 4
theorem t4_iff : ∀ b : Fin 256, t4 b.val = decide (b.val < 7 ∨ (13 < b.val ∧ b.val < 32) ∨ 126 < b.val) := by decide +kernel
theorem t4_is {b : Nat} (h : b < 256) : t4 b = true ↔ (b < 7 ∨ (13 < b ∧ b < 32) ∨ 126 < b) := by
  have := t4_iff ⟨b, h⟩
  simp only at this
  rw [this, decide_eq_true_iff]
theorem some_yes {b v rest : Nat} (hb : b < 256) (h4 : t4 b = true) (hr : 0 < rest) (h : b / rest = v) : octB (v * rest : Nat) (v * rest + rest - 1 : Nat) = true := by
  have h4 := (t4_is hb).1 h4
  have h1 := Nat.div_mul_le_self b rest
  have h2 := Nat.lt_div_mul_add (a := b) hr
  rw [h] at h1 h2
  simp only [octB, Bool.or_eq_true, Bool.and_eq_true, decide_eq_true_eq]
  omega
theorem some_no {v rest : Nat} (hr : 0 < rest) (h : ∀ b, b < 256 → t4 b = true → ¬ b / rest = v) : octB (v * rest : Nat) (v * rest + rest - 1 : Nat) = false := by
  by_cases hq : octB (v * rest : Nat) (v * rest + rest - 1 : Nat) = true
  · exfalso
    have key : ∀ b, b < 256 → (b < 7 ∨ (13 < b ∧ b < 32) ∨ 126 < b) → v * rest ≤ b → b < v * rest + rest → False := fun b h1 h2 h3 h4 => by
      refine h b h1 ((t4_is h1).2 h2) ?_
      rw [Nat.div_eq_iff hr]
      constructor <;> omega
    simp only [octB, Bool.or_eq_true, Bool.and_eq_true, decide_eq_true_eq] at hq
    rcases hq with (⟨a, b⟩ | ⟨a, b⟩) | ⟨a, b⟩
    · exact key (v * rest) (by omega) (by omega) (by omega) (by omega)
    · by_cases c : v * rest ≤ 14
      · exact key 14 (by omega) (by omega) (by omega) (by omega)
      · exact key (v * rest) (by omega) (by omega) (by omega) (by omega)
    · by_cases c : v * rest ≤ 127
      · exact key 127 (by omega) (by omega) (by omega) (by omega)
      · exact key (v * rest) (by omega) (by omega) (by omega) (by omega)
  · simpa using hq
end Ln

theorem rtold_nat (b : Nat) (hb : b < 256) (w : World) :
    Calls Tryz.prog 84 #[.int .u8 (b : Int)] w fun e w' => e = .returned (.string (Ln.bs (Ln.toldL (UInt8.ofNat b)))) ∧ Below w.heap.size w w' := by
  have h := rtold_any (UInt8.ofNat b) w
  rwa [show ((UInt8.ofNat b).toNat : Int) = (b : Int) by simp; omega] at h

theorem wrap_small (n : Nat) (h : n ≤ 1073741824) : IntKind.i64.wrap (n : Int) = (n : Int) := by
  simp [IntKind.wrap, IntKind.signed, IntKind.bits]; omega

set_option maxRecDepth 100000 in
set_option maxHeartbeats 1000000 in
theorem rsome_any (n k : Nat) (c : UInt8) (w : World) (hn : n ≤ 64) (hk : k ≤ 2) (h1 : 48 ≤ c.toNat) (h2 : c.toNat ≤ 55) :
    Calls Tryz.prog 120 #[.int .i64 n, .int .u8 c.toNat, .int .i64 k] w fun e w' => e = .returned (.bool (Ln.octB ((n * 8 + (c.toNat - 48)) * 8 ^ (2 - k) : Nat) ((n * 8 + (c.toNat - 48)) * 8 ^ (2 - k) + 8 ^ (2 - k) - 1 : Nat))) ∧ Below w.heap.size w w' := by
  obtain ⟨v, hv⟩ : ∃ v, n * 8 + (c.toNat - 48) = v := ⟨_, rfl⟩
  obtain ⟨rest, hrest⟩ : ∃ r, 8 ^ (2 - k) = r := ⟨_, rfl⟩
  have hr : 0 < rest := by rw [← hrest]; exact Nat.pow_pos (by decide)
  obtain ⟨R, hR⟩ : ∃ R, Ln.octB (v * rest : Nat) (v * rest + rest - 1 : Nat) = R := ⟨_, rfl⟩
  rw [hv, hrest, hR]
  have cv : 8 * (n : Int) + ((c.toNat : Int) - 48) = (v : Int) := by omega
  have v1 : v ≤ 1024 := by omega
  go_enter Tryz.func120, Tryz.ntmps120
  go_wp2
  go_loopw [7] (fun i wr => ∃ b : Nat, b ≤ 256 ∧ i = .int .i64 b ∧ Hid (∀ x, x < b → Ln.t4 x = true → ¬ x / rest = v) ∧ Below w.heap.size w wr) (fun i _ => 256 - (intOf i).toNat)
  case atStart => exact ⟨0, by omega, rfl, (fun x hx => absurd hx (by omega)), Below.refl _ _⟩
  case round =>
    obtain ⟨b, hb, rfl, HC, hnx⟩ := hrel
    have hsz := hnx.size
    by_cases hlt : b < 256
    · have i1 : (b : Int) < 256 := by omega
      have HT : Hid (Ln.t4 b = ((Ln.bs (Ln.toldL (UInt8.ofNat b))).size == 4)) := by show _ = _; rw [Ln.bs_size]; rfl
      obtain ⟨t, ht⟩ : ∃ t, Ln.bs (Ln.toldL (UInt8.ofNat b)) = t := ⟨_, rfl⟩
      rw [ht] at HT
      have HTT : Hid (Ln.bs (Ln.toldL (UInt8.ofNat b)) = t) := ht
      clear ht
      by_cases h4 : t.size = 4
      · have q4 : ((t.size : Int) != 4) = false := by rw [h4]; rfl
        have HT4 : Hid (Ln.t4 b = true) := by have := HT.out; rw [h4] at this; exact this
        go_wp2_with (go_at_call 84; refine (rtold_nat b hlt _).mono ?_; rw [HTT.out]; rintro e w1 ⟨rfl, hb1⟩)
        have hB1 := hnx.trans (hb1.mono hsz)
        go_loopw [9, 10] (fun lv jv wr => ∃ j q : Nat, k ≤ j ∧ j ≤ 2 ∧ q ≤ 256 ∧ jv = .int .i64 j ∧ lv = .int .i64 q ∧ Hid (q = b / 8 ^ (2 - j)) ∧ Below w.heap.size w wr) (fun _ jv _ => (intOf jv).toNat)
        case atStart => exact ⟨2, b, hk, Nat.le_refl _, by omega, rfl, rfl, by simp [Hid], hB1⟩
        case round =>
          obtain ⟨j, q, hj1, hj2, hq, rfl, rfl, HQ, hB2⟩ := hrel
          by_cases hjk : k < j
          · have i2 : (j : Int) > (k : Int) := by omega
            have d1 : IntKind.i64.wrap ((q : Int).tdiv 8) = ((q / 8 : Nat) : Int) := by
              rw [Int.tdiv_eq_ediv_of_nonneg (by omega), show (q : Int) / 8 = ((q / 8 : Nat) : Int) by omega]
              exact wrap_small _ (by omega)
            go_wp2
            go_roundw
            case rel =>
              refine ⟨j - 1, q / 8, by omega, by omega, by omega, by first | (congr 1; omega) | go_num, by first | rfl | (congr 1; omega) | go_num, ?_, hB2⟩
              show q / 8 = _
              rw [HQ.out, Nat.div_div_eq_div_mul, ← Nat.pow_succ]
              congr 2
              omega
            case measure => simp [intOf]; omega
          · have i2 : ¬ (j : Int) > (k : Int) := by omega
            have hjk' : j = k := by omega
            have HQ2 : Hid (q = b / rest) := by show q = _; rw [HQ.out, hjk', hrest]
            cases hqv : ((q : Int) == (v : Int))
            · have HN : Hid (¬ b / rest = v) := by
                show ¬ _
                rw [← HQ2.out]; intro e; rw [e] at hqv; simp at hqv
              go_wp2
              go_roundw
              case rel =>
                refine ⟨b + 1, by omega, by go_num, fun x hx hx4 => ?_, hB2⟩
                by_cases hxb : x = b
                · subst hxb; exact HN.out
                · exact HC.out x (by omega) hx4
              case measure => simp [intOf]; omega
            · have HE : Hid (R = true) := by
                show R = true
                rw [← hR]
                refine Ln.some_yes hlt HT4.out hr ?_
                rw [← HQ2.out]
                have : (q : Int) = (v : Int) := by simpa using hqv
                omega
              go_wp2
              go_ret
              exact ⟨ret_bool HE.out.symm, hB2⟩
      · have q4 : ((t.size : Int) != 4) = true := by rw [bne_iff_ne]; omega
        have HT4 : Hid (Ln.t4 b = false) := by have := HT.out; rw [show (t.size == 4) = false by simpa using h4] at this; exact this
        go_wp2_with (go_at_call 84; refine (rtold_nat b hlt _).mono ?_; rw [HTT.out]; rintro e w1 ⟨rfl, hb1⟩)
        go_roundw
        case rel =>
          refine ⟨b + 1, by omega, by go_num, fun x hx hx4 => ?_, hnx.trans (hb1.mono hsz)⟩
          by_cases hxb : x = b
          · subst hxb; rw [HT4.out] at hx4; cases hx4
          · exact HC.out x (by omega) hx4
        case measure => simp [intOf]; omega
    · have HE : Hid (R = false) := by
        show R = false
        rw [← hR]
        exact Ln.some_no hr (fun x hx => HC.out x (by omega))
      have i2 : ¬ (b : Int) < 256 := by omega
      clear hlt
      go_wp2
      go_ret
      exact ⟨ret_bool HE.out.symm, hnx⟩
end Go.Proofs.YtcloljkaojnipaaGreatDoor
namespace Go.Proofs.YtcloljkaojnipaaGreatDoor
open Go.RowKit

namespace Ln
def escP (l : List UInt8) (off : Nat) : UInt8 × Nat × Bool :=
  match l with
  | [] => (0, off, false)
  | d :: r => if d = 92 then (92, off + 1, true) else if letF d 14 < 14 then (UInt8.ofNat (letF d 14), off + 1, true) else octP (d :: r) off
theorem unt_esc (r : List UInt8) (off : Nat) : untP (92 :: r) off = escP r (off + 1) := by
  cases r <;> rfl
def pls : List Nat := [92, 97, 98, 102, 110, 114, 116, 118]
def mns : List Nat := [92, 7, 8, 12, 10, 13, 9, 11]
theorem esc_hits : ∀ d : UInt8, ∀ k : Fin 8, d.toNat = pls.getD k.val 0 → (if d = 92 then some 92 else if letF d 14 < 14 then some (UInt8.ofNat (letF d 14)) else none) = some (UInt8.ofNat (mns.getD k.val 0)) := all_bytes (by decide +kernel)
theorem esc_hit {d : UInt8} {k : Nat} (hk : k < 8) (h : d.toNat = pls.getD k 0) (r : List UInt8) (off : Nat) : escP (d :: r) off = (UInt8.ofNat (mns.getD k 0), off + 1, true) := by
  have h1 := esc_hits d ⟨k, hk⟩ h
  simp only [escP]
  split at h1
  · rename_i h2; rw [if_pos h2]; simp only [Option.some.injEq] at h1; rw [← h1]
  · rename_i h2
    rw [if_neg h2]
    split at h1
    · rename_i h3; rw [if_pos h3]; simp only [Option.some.injEq] at h1; rw [← h1]
    · cases h1
theorem esc_misses : ∀ d : UInt8, (∀ k : Fin 8, ¬ d.toNat = pls.getD k.val 0) → d ≠ 92 ∧ ¬ letF d 14 < 14 := all_bytes (by decide +kernel)
theorem esc_miss {d : UInt8} (h : ∀ k, k < 8 → ¬ d.toNat = pls.getD k 0) (r : List UInt8) (off : Nat) : escP (d :: r) off = octP (d :: r) off := by
  obtain ⟨h1, h2⟩ := esc_misses d (fun k => h k.val k.isLt)
  simp only [escP, if_neg h1, if_neg h2]
theorem mns_small (k : Nat) : mns.getD k 0 < 256 := by
  by_cases h : k < 8
  · match k, h with
    | 0, _ | 1, _ | 2, _ | 3, _ | 4, _ | 5, _ | 6, _ | 7, _ => decide
  · have : mns.length ≤ k := by simp [mns]; omega
    simp [List.getD, List.getElem?_eq_none this]
theorem oct_past {s : ByteArray} {i j x : Nat} (hj : j < 3) (h : i + j = s.size) : octGo (3 - j) (8 ^ (2 - j)) x (s.data.toList.drop (i + j)) (i + j) = (0, i + j, false) := by
  rw [List.drop_eq_nil_of_le (by rw [szL]; omega)]
  rcases (show j = 0 ∨ j = 1 ∨ j = 2 by omega) with rfl | rfl | rfl <;> rfl
theorem oct_bad {s : ByteArray} {i j x : Nat} (hj : j < 3) (h : i + j < s.size) (hc : s[i + j].toNat < 48 ∨ 55 < s[i + j].toNat) : octGo (3 - j) (8 ^ (2 - j)) x (s.data.toList.drop (i + j)) (i + j) = (0, i + j, false) := by
  rw [drop_cons s _ h]
  rcases (show j = 0 ∨ j = 1 ∨ j = 2 by omega) with rfl | rfl | rfl <;> exact octGo_no hc
theorem oct_off {s : ByteArray} {i j x : Nat} (hj : j < 3) (h : i + j < s.size) (hc : ¬ (s[i + j].toNat < 48 ∨ 55 < s[i + j].toNat)) (h2 : octB ((x * 8 + (s[i + j].toNat - 48)) * 8 ^ (2 - j) : Nat) ((x * 8 + (s[i + j].toNat - 48)) * 8 ^ (2 - j) + 8 ^ (2 - j) - 1 : Nat) = false) :
    octGo (3 - j) (8 ^ (2 - j)) x (s.data.toList.drop (i + j)) (i + j) = (0, i + j, false) := by
  rw [drop_cons s _ h]
  rcases (show j = 0 ∨ j = 1 ∨ j = 2 by omega) with rfl | rfl | rfl <;> exact octGo_out hc h2
theorem oct_step {s : ByteArray} {i j x : Nat} (hj : j < 3) (h : i + j < s.size) (hc : ¬ (s[i + j].toNat < 48 ∨ 55 < s[i + j].toNat)) (h2 : octB ((x * 8 + (s[i + j].toNat - 48)) * 8 ^ (2 - j) : Nat) ((x * 8 + (s[i + j].toNat - 48)) * 8 ^ (2 - j) + 8 ^ (2 - j) - 1 : Nat) = true) :
    octGo (3 - j) (8 ^ (2 - j)) x (s.data.toList.drop (i + j)) (i + j) = octGo (3 - (j + 1)) (8 ^ (2 - (j + 1))) (x * 8 + (s[i + j].toNat - 48)) (s.data.toList.drop (i + (j + 1))) (i + (j + 1)) := by
  rw [drop_cons s _ h]
  rcases (show j = 0 ∨ j = 1 ∨ j = 2 by omega) with rfl | rfl | rfl <;> exact (octGo_on hc h2).trans rfl
def plB : ByteArray := ⟨#[92, 97, 98, 102, 110, 114, 116, 118]⟩
theorem plB_size : plB.size = 8 := rfl
theorem plB_get : ∀ (k : Nat) (h : k < plB.size), (plB[k]'h).toNat = pls.getD k 0
  | 0, _ | 1, _ | 2, _ | 3, _ | 4, _ | 5, _ | 6, _ | 7, _ => rfl
  | k + 8, h => absurd h (by rw [plB_size]; omega)
end Ln
def mnO : Obj := .cells #[.int .u8 92, .int .u8 7, .int .u8 8, .int .u8 12, .int .u8 10, .int .u8 13, .int .u8 9, .int .u8 11] 5
theorem mnO_cell (w : World) (m : Nat) {k : Nat} (hk : k < 8) : ((w.alloc mnO).drewN m).cell? ⟨w.heap.size, k, none⟩ = some (.int .u8 (Ln.mns.getD k 0 : Nat)) := by
  match k, hk with
  | 0, _ | 1, _ | 2, _ | 3, _ | 4, _ | 5, _ | 6, _ | 7, _ => simp [mnO, Ln.mns]

set_option maxRecDepth 100000 in
set_option maxHeartbeats 2000000 in
theorem resc_any (s : ByteArray) (i : Nat) (w : World) (hs : s.size ≤ 16777216) (hi : i ≤ s.size) :
    Calls Tryz.prog 97 #[.string s, .int .i64 i] w fun e w' => e = TOLD (Ln.escP (s.data.toList.drop i) i) ∧ Below w.heap.size w w' := by
  by_cases h0 : i < s.size
  · have hcb : s[i].toNat < 256 := s[i].toNat_lt
    have g1 : ¬ (i : Int) ≥ (s.size : Int) := by omega
    have HR0 : Hid (Ln.escP (s.data.toList.drop i) i = Ln.escP (s[i] :: s.data.toList.drop (i + 1)) i) := by show _ = _; rw [Ln.drop_cons s i h0]
    obtain ⟨R, hR⟩ : ∃ R, Ln.escP (s.data.toList.drop i) i = R := ⟨_, rfl⟩
    rw [hR] at HR0 ⊢
    clear hR
    go_enter Tryz.func97, Tryz.ntmps97
    go_wp2
    rw [show (⟨#[92, 97, 98, 102, 110, 114, 116, 118]⟩ : ByteArray) = Ln.plB from rfl, show (Obj.cells #[.int .u8 92, .int .u8 7, .int .u8 8, .int .u8 12, .int .u8 10, .int .u8 13, .int .u8 9, .int .u8 11] 5) = mnO from rfl]
    have hps := Ln.plB_size
    have hpg : Hid (∀ (k : Nat) (h : k < Ln.plB.size), (Ln.plB[k]'h).toNat = Ln.pls.getD k 0) := Ln.plB_get
    generalize Ln.plB = PL at hps hpg ⊢
    have hmc : Hid (∀ m k, k < 8 → ((w.alloc mnO).drewN m).cell? ⟨w.heap.size, k, none⟩ = some (.int .u8 (Ln.mns.getD k 0 : Nat))) := fun m k hk => mnO_cell w m hk
    have hw0 : Below w.heap.size w (w.alloc mnO) := (Below.refl _ _).alloc (Nat.le_refl _) _
    generalize w.alloc mnO = w1 at hmc hw0 ⊢
    go_loopw [9] (fun kv wr => ∃ k m : Nat, k ≤ 8 ∧ kv = .int .i64 k ∧ Hid (∀ j, j < k → ¬ s[i].toNat = Ln.pls.getD j 0) ∧ wr = w1.drewN m) (fun kv _ => 8 - (intOf kv).toNat)
    case atStart => exact ⟨0, 0, by omega, rfl, (fun j hj => absurd hj (by omega)), rfl⟩
    case round =>
      obtain ⟨k, m, hk, rfl, HC, rfl⟩ := hrel
      have hB : Below w.heap.size w (w1.drewN m) := below_drewN hw0 m
      by_cases hlt : k < 8
      · have hit : Hid (s[i].toNat = Ln.pls.getD k 0 → R = (UInt8.ofNat (Ln.mns.getD k 0), i + 1, true)) := fun h => HR0.out.trans (Ln.esc_hit hlt h _ _)
        have next : Hid (¬ s[i].toNat = Ln.pls.getD k 0 → ∀ j, j < k + 1 → ¬ s[i].toNat = Ln.pls.getD j 0) := fun h j hj => by
          by_cases e : j = k
          · subst e; exact h
          · exact HC.out j (by omega)
        have hc := hmc.out m k hlt
        have hp : k < PL.size := by omega
        have hpk : (PL[k]'hp).toNat = Ln.pls.getD k 0 := hpg.out k hp
        have i1 : (k : Int) < 8 := by omega
        rw [← hpk] at hit next
        clear hpk
        cases hq : ((s[i].toNat : Int) == ((PL[k]'hp).toNat : Int))
        · have HN : Hid (∀ j, j < k + 1 → ¬ s[i].toNat = Ln.pls.getD j 0) := next.out (by intro e; rw [e] at hq; simp at hq)
          clear hit next HC
          go_wp2_with fail
          go_quiet (fail)
          go_wp2_with fail
          go_roundw
          case rel => exact ⟨k + 1, m + nq, by omega, by go_num, HN, rfl⟩
          case measure => simp [intOf]; omega
        · have hR := hit.out (by have : (s[i].toNat : Int) = ((PL[k]'hp).toNat : Int) := by simpa using hq
                                 omega)
          have hm256 : Ln.mns.getD k 0 < 256 := Ln.mns_small k
          have hmc2 : Hid (∀ m, (w1.drewN m).cell? ⟨w.heap.size, k, none⟩ = some (.int .u8 (Ln.mns.getD k 0 : Nat))) := fun m => hmc.out m k hlt
          generalize Ln.mns.getD k 0 = mn at hR hm256 hmc2
          clear hit next HC hc hmc
          go_wp2_with fail
          go_quiet (fail)
          have hc := hmc2.out (m + nq)
          go_wp2_with fail
          have e2 : ((UInt8.ofNat mn).toNat : Int) = (mn : Int) := by simp; omega
          have hB2 := below_drewN hw0 (m + nq)
          go_ret3
          refine ⟨?_, hB2⟩
          rw [hR]
          show Ending.returned (.tuple #[.int .u8 (mn : Int), .int .i64 ((i : Int) + 1), .bool true]) = .returned (.tuple #[.int .u8 ((UInt8.ofNat mn).toNat : Int), .int .i64 ((i + 1 : Nat) : Int), .bool true])
          rw [e2]
          rfl
      · have HR : Hid (Ln.octGo 3 64 0 (s.data.toList.drop i) i = R) := by
          show _ = R
          rw [HR0.out, Ln.esc_miss (fun j hj => HC.out j (by omega)), Ln.drop_cons s i h0]; rfl
        clear HR0 HC hmc
        have i1 : ¬ (k : Int) < 8 := by omega
        clear hlt
        go_wp2_with fail
        clear i1
        go_loopw [10, 11] (fun nv kv wr => ∃ j x : Nat, j ≤ 3 ∧ i + j ≤ s.size ∧ kv = .int .i64 j ∧ nv = .int .i64 x ∧ Hid (x < 8 ^ j) ∧ Hid (Ln.octGo (3 - j) (8 ^ (2 - j)) x (s.data.toList.drop (i + j)) (i + j) = R) ∧ Below w.heap.size w wr) (fun _ kv _ => 3 - (intOf kv).toNat)
        case atStart => exact ⟨0, 0, by omega, by omega, rfl, rfl, (show 0 < 8 ^ 0 by decide), HR, hB⟩
        case round =>
          obtain ⟨j, x, hj, hij, rfl, rfl, HX, HJ, hnx⟩ := hrel
          have hsz := hnx.size
          by_cases hj3 : j < 3
          · have i1 : (j : Int) < 3 := by omega
            have hx : x ≤ 63 := by
              have h8 : 8 ^ j ≤ 8 ^ 2 := Nat.pow_le_pow_right (by decide) (by omega)
              have := HX.out
              omega
            by_cases hlt : i + j < s.size
            · have hcb2 : s[i + j].toNat < 256 := s[i + j].toNat_lt
              have i2 : ¬ (i : Int) + (j : Int) ≥ (s.size : Int) := by omega
              by_cases h1 : s[i + j].toNat < 48
              · have hR : R = (0, i + j, false) := HJ.out.symm.trans (Ln.oct_bad hj3 hlt (.inl h1))
                have h1' : (s[i + j].toNat : Int) < 48 := by omega
                go_wp2_with fail
                go_ret3
                exact ⟨by rw [hR]; rfl, hnx⟩
              by_cases h2 : 55 < s[i + j].toNat
              · have hR : R = (0, i + j, false) := HJ.out.symm.trans (Ln.oct_bad hj3 hlt (.inr h2))
                have h1' : ¬ (s[i + j].toNat : Int) < 48 := by omega
                have h2' : (s[i + j].toNat : Int) > 55 := by omega
                go_wp2_with fail
                go_ret3
                exact ⟨by rw [hR]; rfl, hnx⟩
              have h1' : ¬ (s[i + j].toNat : Int) < 48 := by omega
              have h2' : ¬ (s[i + j].toNat : Int) > 55 := by omega
              have HS := rsome_any x j s[i + j] wr (by omega) (by omega) (by omega) (by omega)
              have HOF : Hid (Ln.octB ((x * 8 + (s[i + j].toNat - 48)) * 8 ^ (2 - j) : Nat) ((x * 8 + (s[i + j].toNat - 48)) * 8 ^ (2 - j) + 8 ^ (2 - j) - 1 : Nat) = false → R = (0, i + j, false)) := fun h => HJ.out.symm.trans (Ln.oct_off hj3 hlt (by omega) h)
              have HON : Hid (Ln.octB ((x * 8 + (s[i + j].toNat - 48)) * 8 ^ (2 - j) : Nat) ((x * 8 + (s[i + j].toNat - 48)) * 8 ^ (2 - j) + 8 ^ (2 - j) - 1 : Nat) = true → Ln.octGo (3 - (j + 1)) (8 ^ (2 - (j + 1))) (x * 8 + (s[i + j].toNat - 48)) (s.data.toList.drop (i + (j + 1))) (i + (j + 1)) = R) := fun h => (Ln.oct_step hj3 hlt (by omega) h).symm.trans HJ.out
              generalize Ln.octB ((x * 8 + (s[i + j].toNat - 48)) * 8 ^ (2 - j) : Nat) ((x * 8 + (s[i + j].toNat - 48)) * 8 ^ (2 - j) + 8 ^ (2 - j) - 1 : Nat) = O at HS HOF HON
              have HSH : Hid (Calls Tryz.prog 120 #[.int .i64 x, .int .u8 s[i + j].toNat, .int .i64 j] wr fun e w' => e = .returned (.bool O) ∧ Below wr.heap.size wr w') := HS
              clear HS HJ
              cases O
              · have hR := HOF.out rfl
                go_wp2_with (go_at_call 120; refine HSH.out.mono ?_; rintro e w2 ⟨rfl, hb2⟩)
                go_ret3
                exact ⟨by rw [hR]; rfl, hnx.trans (hb2.mono hsz)⟩
              · have HN : Hid _ := HON.out rfl
                have HX2 : Hid (x * 8 + (s[i + j].toNat - 48) < 8 ^ (j + 1)) := by
                  show _ < _
                  have := HX.out
                  rw [Nat.pow_succ]
                  omega
                go_wp2_with (go_at_call 120; refine HSH.out.mono ?_; rintro e w2 ⟨rfl, hb2⟩)
                go_roundw
                case rel => exact ⟨j + 1, x * 8 + (s[i + j].toNat - 48), by omega, by omega, by go_num, by go_num, HX2, HN, hnx.trans (hb2.mono hsz)⟩
                case measure => simp [intOf]; omega
            · have hR : R = (0, i + j, false) := HJ.out.symm.trans (Ln.oct_past hj3 (by omega))
              have i2 : (i : Int) + (j : Int) ≥ (s.size : Int) := by omega
              have hsj : (s.size : Int) = ((i + j : Nat) : Int) := by omega
              have HSJ : Hid ((s.size : Int) = ((i + j : Nat) : Int)) := hsj
              clear hsj
              go_wp2_with fail
              go_ret3
              refine ⟨?_, hnx⟩
              rw [hR]
              show Ending.returned (.tuple #[.int .u8 0, .int .i64 (s.size : Int), .bool false]) = .returned (.tuple #[.int .u8 ((0 : UInt8).toNat : Int), .int .i64 ((i + j : Nat) : Int), .bool false])
              rw [HSJ.out]; rfl
          · obtain rfl : j = 3 := by omega
            have hR : R = (UInt8.ofNat x, i + 3, true) := HJ.out.symm
            have hx : x < 512 := HX.out
            clear HJ HX
            go_wp2_with fail
            go_ret3
            refine ⟨?_, hnx⟩
            rw [hR]
            have e : ((UInt8.ofNat x).toNat : Int) = (x : Int) % 256 := by simp
            show Ending.returned (.tuple #[.int .u8 ((x : Int) % 256), .int .i64 ((i : Int) + 3), .bool true]) = .returned (.tuple #[.int .u8 ((UInt8.ofNat x).toNat : Int), .int .i64 ((i + 3 : Nat) : Int), .bool true])
            rw [e]; rfl
  · obtain rfl : i = s.size := by omega
    have HR : Hid (Ln.escP (s.data.toList.drop s.size) s.size = (0, s.size, false)) := by show _ = _; rw [List.drop_eq_nil_of_le (by rw [Ln.szL]; exact Nat.le_refl _)]; rfl
    go_enter Tryz.func97, Tryz.ntmps97
    go_wp2
    go_ret3
    exact ⟨by rw [HR.out]; rfl, Below.refl _ _⟩
end Go.Proofs.YtcloljkaojnipaaGreatDoor
namespace Go.Proofs.YtcloljkaojnipaaGreatDoor
open Go.RowKit

set_option maxRecDepth 100000 in
set_option maxHeartbeats 2000000 in
theorem runq_any (s : ByteArray) (w : World) (hs : s.size ≤ 16777216) :
    Calls Tryz.prog 76 #[.string s] w fun e w' => e = .returned (.tuple #[.string (Ln.bs (Ln.unqP s).1), .int .i64 ((Ln.unqP s).2.1 : Nat), .int .i64 (Ln.unqP s).2.2.1, .int .i64 ((Ln.unqP s).2.2.2 : Nat)]) ∧ Below w.heap.size w w' := by
  obtain ⟨i0, hi, hz0, hz1, hz2⟩ := info_parts Tryz.infoByte
  by_cases h0 : s.size = 0
  · have HR : Hid (Ln.unqP s = ([], 0, 10, 0)) := by
      have : s.data.toList = [] := List.eq_nil_of_length_eq_zero (by rw [Ln.szL]; exact h0)
      show _ = _; rw [Ln.unqP, if_neg (by rw [this]; simp)]
    have h0' : ((s.size : Int) == 0) = true := by rw [h0]; rfl
    clear h0
    go_enter Tryz.func76, Tryz.ntmps76
    go_wp2_with fail
    rw [HR.out]
    exact bodyPost_ret (v := .tuple #[.string ⟨#[]⟩, .int .i64 0, .int .i64 10, .int .i64 0]) (by simp [results, Tryz.results76, go_sem]) rfl ⟨rfl, Below.refl _ _⟩
  have hpos : 0 < s.size := by omega
  have b0 : ((s.size : Int) == 0) = false := by rw [beq_eq_false_iff_ne]; omega
  clear h0
  cases h1 : ((s[0].toNat : Int) == 34)
  · have HR : Hid (Ln.unqP s = ([], 0, 10, 0)) := by
      have hh := @Ln.head_is s 0 34 hpos
      rw [List.drop_zero] at hh
      show _ = _
      rw [Ln.unqP, if_neg (fun q => by have := hh.1 q; rw [show ((34 : UInt8).toNat : Int) = 34 from rfl, h1] at this; cases this)]
    have h1' : ((s[0].toNat : Int) != 34) = true := by simpa using h1
    go_enter Tryz.func76, Tryz.ntmps76
    go_wp2_with fail
    rw [HR.out]
    exact bodyPost_ret (v := .tuple #[.string ⟨#[]⟩, .int .i64 0, .int .i64 10, .int .i64 0]) (by simp [results, Tryz.results76, go_sem]) rfl ⟨rfl, Below.refl _ _⟩
  have HR0 : Ln.unqP s = Ln.unqGo s.data.toList s.size 1 [] := by
    have hh := @Ln.head_is s 0 34 hpos
    rw [List.drop_zero] at hh
    rw [Ln.unqP, if_pos (hh.2 h1)]
  have h1' : ((s[0].toNat : Int) != 34) = false := by simpa using h1
  obtain ⟨R, hR⟩ : ∃ R, Ln.unqP s = R := ⟨_, rfl⟩
  rw [hR] at HR0 ⊢
  have HR : Hid (Ln.unqGo s.data.toList s.size 1 [] = R) := HR0.symm
  clear hR HR0
  go_enter Tryz.func76, Tryz.ntmps76
  go_wp2_with fail
  go_loopw [6, 7] (fun v i wr => ∃ (off f : Nat) (out : List UInt8), off ≤ s.size ∧ s.size < off + f ∧ i = .int .i64 off ∧ out.length ≤ off ∧ Hid (Ln.unqGo s.data.toList f off out = R) ∧ wr.ownsRow w.heap.size 5 1 v out.length (bcells out) ∧ Below w.heap.size w wr) (fun _ i _ => s.size + 1 - (intOf i).toNat)
  case atStart => exact ⟨1, s.size, [], by omega, by omega, rfl, by simp, HR, World.ownsRow_nil _ _ _ _, Below.refl _ _⟩
  case round =>
    obtain ⟨off, f0, out, hoff, hf, rfl, hol, HC, hown, hnx⟩ := hrel
    have hsz := hnx.size
    obtain ⟨f, rfl⟩ : ∃ f, f0 = f + 1 := ⟨f0 - 1, by omega⟩
    by_cases hlt : off < s.size
    · have i1 : (off : Int) < (s.size : Int) := by omega
      have hcb : s[off].toNat < 256 := s[off].toNat_lt
      cases hq : ((s[off].toNat : Int) == 34)
      · have hh : ¬ (s.data.toList.drop off).head? = some 34 := fun e => by
          have := (Ln.head_is (a := 34) hlt).1 e
          rw [show ((34 : UInt8).toNat : Int) = 34 from rfl, hq] at this; cases this
        cases h92 : ((s[off].toNat : Int) == 92)
        · have hb : Ln.begL (s.data.toList.drop off) 92 34 = false := by
            by_cases h : off + 1 < s.size
            · rw [Ln.beg_at h, show ((92 : UInt8).toNat : Int) = 92 from rfl, h92]; rfl
            · exact Ln.beg_past h _ _
          have hu : Ln.untP (s.data.toList.drop off) off = Ln.plainP s[off] off := by rw [Ln.drop_cons s off hlt]; exact Ln.unt_plain (Ln.byteN92 h92)
          by_cases hp : s[off].toNat < 32 ∨ 127 ≤ s[off].toNat
          · have hR : R = ([], 0, 10, off) := by
              have e : Ln.plainP s[off] off = (0, off, false) := by rw [Ln.plainP, if_pos hp]
              have := HC.out.symm.trans (Ln.unq_bad hh hb (by rw [hu, e]))
              rwa [hu, e] at this
            subst hR
            clear HC HR hh hb hu
            rcases hp with hp | hp
            · have p1 : ¬ (s[off].toNat : Int) ≥ 32 := by omega
              go_wp2_with fail
              exact bodyPost_ret (v := .tuple #[.string ⟨#[]⟩, .int .i64 0, .int .i64 10, .int .i64 (off : Int)]) (by simp [results, Tryz.results76, go_sem]) rfl ⟨rfl, hnx⟩
            · have p1 : (s[off].toNat : Int) ≥ 32 := by omega
              have p2 : ¬ (s[off].toNat : Int) < 127 := by omega
              go_wp2_with fail
              exact bodyPost_ret (v := .tuple #[.string ⟨#[]⟩, .int .i64 0, .int .i64 10, .int .i64 (off : Int)]) (by simp [results, Tryz.results76, go_sem]) rfl ⟨rfl, hnx⟩
          · have HC2 : Hid (Ln.unqGo s.data.toList f (off + 1) (out ++ [s[off]]) = R) := by
              have e : Ln.plainP s[off] off = (s[off], off + 1, true) := by rw [Ln.plainP, if_neg hp]
              have := HC.out
              rw [Ln.unq_on hh hb (by rw [hu, e]), hu, e] at this
              exact this
            have p1 : (s[off].toNat : Int) ≥ 32 := by omega
            have p2 : (s[off].toNat : Int) < 127 := by omega
            clear HC HR hh hb hu hp
            go_wp2_with (at_builtin; refine wpList_append_own _ rfl _ _ 74 rfl w.heap.size 5 i0 (.int .u8 0) 1 1 Tryz.underlying74 hi hz0 hz1 hz2 rfl (by decide) _ _ _ rfl (hown.alloc _) ⟨_, 0, none⟩ 1 1 [.int .u8 (s[off].toNat : Int)] rfl rfl (cell_one_new _ _ _) (one_ints (k := .u8) _) (by unfold maxLen; omega) (by omega) (by simp; omega) ?_)
            intro v3 w3 hown3 hgr3 _
            have hB3 : Below w.heap.size w w3 := (hnx.alloc hsz _).grown hgr3 (by simp; omega) (fun g hg => (hown.lt g hg).1)
            have ho3 : w3.ownsRow w.heap.size 5 1 v3 (out ++ [s[off]]).length (bcells (out ++ [s[off]])) := by rw [bcells_append, List.length_append]; exact hown3
            clear hgr3 hown3
            go_wp2
            go_roundw
            case rel => exact ⟨off + 1, f, out ++ [s[off]], by omega, by omega, by first | rfl | go_num, by simp; omega, HC2, ho3, hB3⟩
            case measure => simp [intOf]; omega
        · cases hb : Ln.begL (s.data.toList.drop off) 92 34
          · have hu : Ln.untP (s.data.toList.drop off) off = Ln.escP (s.data.toList.drop (off + 1)) (off + 1) := by rw [Ln.drop_cons s off hlt, Ln.byte92 h92]; exact Ln.unt_esc _ _
            have hok := @Ln.unt_ok (s.data.toList.drop off) off
            rw [hu, List.length_drop, Ln.szL] at hok
            obtain ⟨U, hU⟩ : ∃ U, Ln.escP (s.data.toList.drop (off + 1)) (off + 1) = U := ⟨_, rfl⟩
            have HU : Hid (Ln.escP (s.data.toList.drop (off + 1)) (off + 1) = U) := hU
            rw [hU] at hu hok
            have hg : off + 1 = s.size ∨ (∃ h : off + 1 < s.size, (off : Int) + 1 < (s.size : Int) ∧ ((s[off + 1].toNat : Int) == 34) = false) := by
              by_cases h : off + 1 < s.size
              · right
                refine ⟨h, by omega, ?_⟩
                rw [Ln.beg_at h, show ((92 : UInt8).toNat : Int) = 92 from rfl, h92] at hb
                simpa using hb
              · left; omega
            obtain ⟨ub, un, uk⟩ := U
            have hesc : Hid (∀ w : World, Calls Tryz.prog 97 #[.string s, .int .i64 ((off : Int) + 1)] w fun e w' => e = TOLD (ub, un, uk) ∧ Below w.heap.size w w') := fun w => by
              have := resc_any s (off + 1) w hs (by omega)
              rw [hU] at this
              exact this
            cases uk
            · have hR : R = ([], 0, 10, un) := by have := HC.out.symm.trans (Ln.unq_bad hh hb (by rw [hu])); rwa [hu] at this
              subst hR
              clear HC HR hh hb hu hok hU
              rcases hg with g1 | ⟨hl2, g1, g2⟩
              · have g1' : ¬ (off : Int) + 1 < (s.size : Int) := by omega
                clear g1
                go_wp2_with (go_at_call 97; refine (hesc.out _).mono ?_; rintro e w1 ⟨rfl, hb1⟩)
                exact bodyPost_ret (v := .tuple #[.string ⟨#[]⟩, .int .i64 0, .int .i64 10, .int .i64 (un : Int)]) (by simp [results, Tryz.results76, go_sem]) rfl ⟨rfl, hnx.trans (hb1.mono hsz)⟩
              · go_wp2_with (go_at_call 97; refine (hesc.out _).mono ?_; rintro e w1 ⟨rfl, hb1⟩)
                exact bodyPost_ret (v := .tuple #[.string ⟨#[]⟩, .int .i64 0, .int .i64 10, .int .i64 (un : Int)]) (by simp [results, Tryz.results76, go_sem]) rfl ⟨rfl, hnx.trans (hb1.mono hsz)⟩
            · have HC2 : Hid (Ln.unqGo s.data.toList f un (out ++ [ub]) = R) := by have := HC.out; rw [Ln.unq_on hh hb (by rw [hu]), hu] at this; exact this
              obtain ⟨k1, k2⟩ := hok rfl
              have k1 : off < un := k1
              have k2 : un ≤ off + (s.size - off) := k2
              clear HC HR hh hb hu hok hU
              rcases hg with g1 | ⟨hl2, g1, g2⟩
              · have g1' : ¬ (off : Int) + 1 < (s.size : Int) := by omega
                clear g1
                go_wp2_with (first | (go_at_call 97; refine (hesc.out _).mono ?_; rintro e w1 ⟨rfl, hb1⟩; replace hown := own_below hown hb1; replace hnx := hnx.trans (hb1.mono hsz); replace hsz := hnx.size) | (at_builtin; refine wpList_append_own _ rfl _ _ 74 rfl w.heap.size 5 i0 (.int .u8 0) 1 1 Tryz.underlying74 hi hz0 hz1 hz2 rfl (by decide) _ _ _ rfl (hown.alloc _) ⟨_, 0, none⟩ 1 1 [.int .u8 (ub.toNat : Int)] rfl rfl (cell_one_new _ _ _) (one_ints (k := .u8) _) (by unfold maxLen; omega) (by omega) (by simp; omega) ?_))
                intro v3 w3 hown3 hgr3 _
                have hB3 : Below w.heap.size w w3 := (hnx.alloc hsz _).grown hgr3 (by simp; omega) (fun g hg => (hown.lt g hg).1)
                have ho3 : w3.ownsRow w.heap.size 5 1 v3 (out ++ [ub]).length (bcells (out ++ [ub])) := by rw [bcells_append, List.length_append]; exact hown3
                clear hgr3 hown3
                go_wp2
                go_roundw
                case rel => exact ⟨un, f, out ++ [ub], by omega, by omega, by first | rfl | go_num, by simp; omega, HC2, ho3, hB3⟩
                case measure => simp [intOf]; omega
              · go_wp2_with (first | (go_at_call 97; refine (hesc.out _).mono ?_; rintro e w1 ⟨rfl, hb1⟩; replace hown := own_below hown hb1; replace hnx := hnx.trans (hb1.mono hsz); replace hsz := hnx.size) | (at_builtin; refine wpList_append_own _ rfl _ _ 74 rfl w.heap.size 5 i0 (.int .u8 0) 1 1 Tryz.underlying74 hi hz0 hz1 hz2 rfl (by decide) _ _ _ rfl (hown.alloc _) ⟨_, 0, none⟩ 1 1 [.int .u8 (ub.toNat : Int)] rfl rfl (cell_one_new _ _ _) (one_ints (k := .u8) _) (by unfold maxLen; omega) (by omega) (by simp; omega) ?_))
                intro v3 w3 hown3 hgr3 _
                have hB3 : Below w.heap.size w w3 := (hnx.alloc hsz _).grown hgr3 (by simp; omega) (fun g hg => (hown.lt g hg).1)
                have ho3 : w3.ownsRow w.heap.size 5 1 v3 (out ++ [ub]).length (bcells (out ++ [ub])) := by rw [bcells_append, List.length_append]; exact hown3
                clear hgr3 hown3
                go_wp2
                go_roundw
                case rel => exact ⟨un, f, out ++ [ub], by omega, by omega, by first | rfl | go_num, by simp; omega, HC2, ho3, hB3⟩
                case measure => simp [intOf]; omega
          · have hl2 : off + 1 < s.size := by
              by_cases h : off + 1 < s.size
              · exact h
              · rw [Ln.beg_past h] at hb; cases hb
            have HC2 : Hid (Ln.unqGo s.data.toList f (off + 2) (out ++ [34]) = R) := by have := HC.out; rwa [Ln.unq_quote hh hb] at this
            have g1 : (off : Int) + 1 < (s.size : Int) := by omega
            have g2 : ((s[off + 1].toNat : Int) == 34) = true := by
              rw [Ln.beg_at hl2, show ((92 : UInt8).toNat : Int) = 92 from rfl, h92] at hb
              simpa using hb
            clear HC HR hh hb
            go_wp2_with (at_builtin; refine wpList_append_own _ rfl _ _ 74 rfl w.heap.size 5 i0 (.int .u8 0) 1 1 Tryz.underlying74 hi hz0 hz1 hz2 rfl (by decide) _ _ _ rfl (hown.alloc _) ⟨_, 0, none⟩ 1 1 [.int .u8 34] rfl rfl (cell_one_new _ _ _) (one_ints (k := .u8) _) (by unfold maxLen; omega) (by omega) (by simp; omega) ?_)
            intro v3 w3 hown3 hgr3 _
            have hB3 : Below w.heap.size w w3 := (hnx.alloc hsz _).grown hgr3 (by simp; omega) (fun g hg => (hown.lt g hg).1)
            have ho3 : w3.ownsRow w.heap.size 5 1 v3 (out ++ [34]).length (bcells (out ++ [34])) := by rw [bcells_append, List.length_append]; exact hown3
            clear hgr3 hown3
            go_wp2
            go_roundw
            case rel => exact ⟨off + 2, f, out ++ [34], by omega, by omega, by first | rfl | go_num, by simp; omega, HC2, ho3, hB3⟩
            case measure => simp [intOf]; omega
      · have hR : R = (out, off + 1, 0, 0) := HC.out.symm.trans (Ln.unq_end ((Ln.head_is (a := 34) hlt).2 hq))
        subst hR
        clear HC HR
        rcases hown.2 with ⟨hv, hn⟩ | ⟨g, cap, cur, hv, _⟩
        · subst hv
          have ho : out = [] := List.eq_nil_of_length_eq_zero hn
          subst ho
          have hcv : (convert 74 9 (.slice none 0 0)).run Tryz.prog wr = .ok (.string ByteArray.empty) wr := run_convert_bytes_nil wr 74 5 Tryz.underlying74 Tryz.underlying5 0 0 9 Tryz.underlying9
          go_wp2_with fail
          exact bodyPost_ret (v := .tuple #[.string ByteArray.empty, .int .i64 ((off : Int) + 1), .int .i64 0, .int .i64 0]) (by simp [results, Tryz.results76, go_sem]) rfl ⟨rfl, hnx⟩
        · subst hv
          have hcv := conv_own hown
          go_wp2_with fail
          exact bodyPost_ret (v := .tuple #[.string ⟨out.toArray⟩, .int .i64 ((off : Int) + 1), .int .i64 0, .int .i64 0]) (by simp [results, Tryz.results76, go_sem]) rfl ⟨rfl, hnx⟩
    · obtain rfl : off = s.size := by omega
      have hR : R = ([], 0, 10, s.size) := by
        have e : s.data.toList.drop s.size = [] := List.drop_eq_nil_of_le (by rw [Ln.szL]; exact Nat.le_refl _)
        have := HC.out.symm.trans (Ln.unq_bad (by rw [e]; simp) (by rw [e]; rfl) (by rw [e]; rfl))
        rwa [e] at this
      subst hR
      clear HC HR
      go_wp2_with fail
      exact bodyPost_ret (v := .tuple #[.string ⟨#[]⟩, .int .i64 0, .int .i64 10, .int .i64 (s.size : Int)]) (by simp [results, Tryz.results76, go_sem]) rfl ⟨rfl, hnx⟩
end Go.Proofs.YtcloljkaojnipaaGreatDoor
