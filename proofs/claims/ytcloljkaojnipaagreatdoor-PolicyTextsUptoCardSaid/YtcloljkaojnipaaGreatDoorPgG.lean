/- What policy.isNumber answers; decimal digits and their number. What policy.Parse has in memory: the policy that is read, the readers' boxes, what was told. The program's variables that a policy's readers and writers look at, and what keeps them; what strings.Cut, strconv.Atoi and strconv.Itoa answer here. -/
import Derived.Test.YtcloljkaojnipaaGreatDoorPgA
import Derived.Test.YtcloljkaojnipaaGreatDoorPoCheck
import Derived.Lib.AtoiAll
import Derived.BigQuiet
import Derived.Test.YtcloljkaojnipaaGreatDoorPgF
import Derived.Test.YtcloljkaojnipaaGreatDoorPgC
import Derived.Test.YtcloljkaojnipaaGreatDoorPgD
import Derived.Lib.AppendIntMem
namespace Go.Proofs.YtcloljkaojnipaaGreatDoor
open Go.RowKit

namespace Pl
def digB (c : UInt8) : Bool := !(decide (c.toNat < 48) || decide (57 < c.toNat))
def isNum (l : List UInt8) : Bool := !l.isEmpty && (!(l.head? == some 48 && decide (1 < l.length)) && l.all digB)
def valF (n : Nat) (l : List UInt8) : Nat := l.foldl (fun n c => n * 10 + (c.toNat - 48)) n
def valN (l : List UInt8) : Nat := valF 0 l
theorem num_none {l : List UInt8} (h : l = []) : isNum l = false := by subst h; rfl
theorem num_zero {l : List UInt8} (h : l.head? = some 48) (h2 : 1 < l.length) : isNum l = false := by
  unfold isNum; rw [h, decide_eq_true h2]; simp
theorem num_all {l : List UInt8} (h0 : l ≠ []) (h : ¬ (l.head? = some 48 ∧ 1 < l.length)) : isNum l = l.all digB := by
  unfold isNum
  have h1 : l.isEmpty = false := by simpa using h0
  have h2 : (l.head? == some 48 && decide (1 < l.length)) = false := by
    rw [Bool.eq_false_iff]
    intro e
    rw [Bool.and_eq_true, beq_iff_eq, decide_eq_true_eq] at e
    exact h e
  rw [h1, h2]; simp
theorem dig_step {s : ByteArray} {k : Nat} (h : k < s.size) (ha : (s.data.toList.take k).all digB = true) (h1 : ¬ s[k].toNat < 48) (h2 : ¬ 57 < s[k].toNat) : (s.data.toList.take (k + 1)).all digB = true := by
  rw [take_snoc s k h, List.all_append, ha]; simp [digB]; omega
theorem dig_stop {s : ByteArray} {k : Nat} (h : k < s.size) (h1 : s[k].toNat < 48 ∨ 57 < s[k].toNat) : s.data.toList.all digB = false := by
  have e : digB s[k] = false := by unfold digB; rcases h1 with h1 | h1 <;> simp [h1]
  rw [← List.take_append_drop (k + 1) s.data.toList, List.all_append, take_snoc s k h, List.all_append]; simp [e]
theorem valF_mono : ∀ (l : List UInt8) (n : Nat), n ≤ valF n l
  | [], n => Nat.le_refl _
  | c :: r, n => by
    have h := valF_mono r (n * 10 + (c.toNat - 48))
    show n ≤ valF (n * 10 + (c.toNat - 48)) r
    omega
/-- Digits are read as their number, or are too great for a machine's word. -/
theorem parse_digits : ∀ (l : List UInt8) (n : Nat), l.all digB = true → (Lib.parseUint10 n l = .ok (valF n l)) ∨ (Lib.parseUint10 n l = .range ∧ 18446744073709551616 ≤ valF n l)
  | [], n, _ => .inl rfl
  | c :: r, n, h => by
    simp only [List.all_cons, Bool.and_eq_true] at h
    have hc : 48 ≤ c.toNat ∧ c.toNat ≤ 57 := by
      have := h.1
      unfold digB at this
      simp at this
      omega
    have hv : valF n (c :: r) = valF (n * 10 + (c.toNat - 48)) r := rfl
    have hm := valF_mono r (n * 10 + (c.toNat - 48))
    rw [Lib.parseUint10, if_pos hc, hv]
    by_cases h1 : 1844674407370955162 ≤ n
    · rw [if_pos h1]; exact .inr ⟨rfl, by omega⟩
    · rw [if_neg h1]
      by_cases h2 : 18446744073709551616 ≤ n * 10 + (c.toNat - 48)
      · rw [if_pos h2]; exact .inr ⟨rfl, by omega⟩
      · rw [if_neg h2]; exact parse_digits r _ h.2
theorem atoi_digits {l : List UInt8} (h : isNum l = true) : (Lib.atoiAll l = .ok ((valN l : Nat) : Int) ∧ valN l < 9223372036854775808) ∨ (Lib.atoiAll l = .range ∧ 9223372036854775808 ≤ valN l) := by
  have ha : l.all digB = true := by
    unfold isNum at h
    simp only [Bool.and_eq_true] at h
    exact h.2.2
  cases l with
  | nil => cases h
  | cons c r =>
    have hc : 48 ≤ c.toNat ∧ c.toNat ≤ 57 := by
      simp only [List.all_cons, Bool.and_eq_true] at ha
      have := ha.1
      unfold digB at this
      simp at this
      omega
    have e1 : ¬ (c.toNat = 43 ∨ c.toNat = 45) := by omega
    have e2 : ¬ c.toNat = 45 := by omega
    unfold Lib.atoiAll
    simp only []
    rw [if_neg e1]
    unfold Lib.parseMag
    rw [if_neg (by simp)]
    rcases parse_digits (c :: r) 0 ha with hp | ⟨hp, hv⟩
    · rw [hp]
      simp only []
      by_cases h1 : 9223372036854775808 ≤ valF 0 (c :: r)
      · rw [if_pos ⟨e2, h1⟩]; exact .inr ⟨rfl, h1⟩
      · rw [if_neg (fun q => h1 q.2), if_neg (fun q => e2 q.1), if_neg e2]; exact .inl ⟨rfl, by show valF 0 (c :: r) < _; omega⟩
    · rw [hp]; exact .inr ⟨rfl, by show _ ≤ valF 0 (c :: r); omega⟩
end Pl

set_option maxRecDepth 100000 in
set_option maxHeartbeats 1000000 in
theorem isnum_any (s : ByteArray) (w : World) (hs : s.size ≤ maxLen) :
    Calls Tryz.prog 94 #[.string s] w fun e w' => e = .returned (.bool (Pl.isNum s.data.toList)) ∧ w = w' := by
  unfold maxLen at hs
  by_cases h0 : s.toList = []
  · have HE : Hid (Pl.isNum s.data.toList = false) := Pl.num_none (by rw [Pl.toL] at h0; exact h0)
    go_enter Tryz.func94, Tryz.ntmps94
    go_wp2
    go_ret
    exact ⟨ret_bool HE.out.symm, rfl⟩
  have hpos : 0 < s.size := Pl.size_pos h0
  have hh := Pl.head_byte hpos
  have b0 : s.toList.isEmpty = false := by simpa using h0
  have b0' : (s.toList == []) = false := by simpa using h0
  have hne : s.data.toList ≠ [] := by rw [Pl.toL] at h0; exact h0
  have hsz := Pl.szL s
  by_cases c0 : s[0] = 48
  · by_cases c1 : 1 < s.size
    · have HE : Hid (Pl.isNum s.data.toList = false) := Pl.num_zero (by rw [hh, c0]) (by omega)
      have d0 : ((s[0].toNat : Int) == 48) = true := by rw [c0]; rfl
      have d1 : (1 : Int) < (s.size : Int) := by omega
      have d1' : decide ((1 : Int) < (s.size : Int)) = true := by simpa using d1
      clear hh h0 hne hsz c0
      go_enter Tryz.func94, Tryz.ntmps94
      go_wp2
      go_ret
      exact ⟨ret_bool HE.out.symm, rfl⟩
    · have HH : Hid (Pl.isNum s.data.toList = s.data.toList.all Pl.digB) := Pl.num_all hne (by omega)
      have d0 : ((s[0].toNat : Int) == 48) = true := by rw [c0]; rfl
      have d1 : ¬ (1 : Int) < (s.size : Int) := by omega
      have d1' : decide ((1 : Int) < (s.size : Int)) = false := by simpa using d1
      clear hh h0 hne hsz c0
      go_enter Tryz.func94, Tryz.ntmps94
      go_wp2
      go_loop [3, 18] (fun _ i => ∃ k : Nat, k ≤ s.size ∧ i = .int .i64 k ∧ Hid ((s.data.toList.take k).all Pl.digB = true)) (fun _ i => s.size - (intOf i).toNat)
      case atStart => exact ⟨0, Nat.zero_le _, rfl, rfl⟩
      case round =>
        obtain ⟨k, hk, rfl, HA⟩ := hrel
        clear d0 d1 d1'
        by_cases hlt : k < s.size
        · by_cases x1 : s[k].toNat < 48
          · have HS : Hid (s.data.toList.all Pl.digB = false) := Pl.dig_stop hlt (.inl x1)
            have y1 : decide ((s[k].toNat : Int) < 48) = true := decide_eq_true (by omega)
            go_wp2
            go_ret
            exact ⟨ret_bool (by rw [HH.out, HS.out]), rfl⟩
          have y1 : decide ((s[k].toNat : Int) < 48) = false := decide_eq_false (by omega)
          by_cases x2 : 57 < s[k].toNat
          · have HS : Hid (s.data.toList.all Pl.digB = false) := Pl.dig_stop hlt (.inr x2)
            have y2 : decide (57 < (s[k].toNat : Int)) = true := decide_eq_true (by omega)
            go_wp2
            go_ret
            exact ⟨ret_bool (by rw [HH.out, HS.out]), rfl⟩
          have y2 : decide (57 < (s[k].toNat : Int)) = false := decide_eq_false (by omega)
          have HT : Hid ((s.data.toList.take (k + 1)).all Pl.digB = true) := Pl.dig_step hlt HA.out x1 x2
          go_wp2
          go_round
          case rel => exact ⟨k + 1, by omega, by go_num, HT⟩
          case measure => simp [intOf]; omega
        · go_wp2
          go_ret
          exact ⟨ret_bool (by rw [HH.out, ← HA.out, Pl.take_all s k (by omega)]), rfl⟩
  · have HH : Hid (Pl.isNum s.data.toList = s.data.toList.all Pl.digB) := Pl.num_all hne (by rw [hh]; intro q; exact c0 (Option.some.inj q.1))
    have d0 : ((s[0].toNat : Int) == 48) = false := by
      rw [beq_eq_false_iff_ne]; intro e; exact c0 (by rw [← UInt8.toNat_inj]; simp; omega)
    clear hh h0 hne hsz c0
    go_enter Tryz.func94, Tryz.ntmps94
    go_wp2
    go_loop [3, 18] (fun _ i => ∃ k : Nat, k ≤ s.size ∧ i = .int .i64 k ∧ Hid ((s.data.toList.take k).all Pl.digB = true)) (fun _ i => s.size - (intOf i).toNat)
    case atStart => exact ⟨0, Nat.zero_le _, rfl, rfl⟩
    case round =>
      obtain ⟨k, hk, rfl, HA⟩ := hrel
      clear d0
      by_cases hlt : k < s.size
      · by_cases x1 : s[k].toNat < 48
        · have HS : Hid (s.data.toList.all Pl.digB = false) := Pl.dig_stop hlt (.inl x1)
          have y1 : decide ((s[k].toNat : Int) < 48) = true := decide_eq_true (by omega)
          go_wp2
          go_ret
          exact ⟨ret_bool (by rw [HH.out, HS.out]), rfl⟩
        have y1 : decide ((s[k].toNat : Int) < 48) = false := decide_eq_false (by omega)
        by_cases x2 : 57 < s[k].toNat
        · have HS : Hid (s.data.toList.all Pl.digB = false) := Pl.dig_stop hlt (.inr x2)
          have y2 : decide (57 < (s[k].toNat : Int)) = true := decide_eq_true (by omega)
          go_wp2
          go_ret
          exact ⟨ret_bool (by rw [HH.out, HS.out]), rfl⟩
        have y2 : decide (57 < (s[k].toNat : Int)) = false := decide_eq_false (by omega)
        have HT : Hid ((s.data.toList.take (k + 1)).all Pl.digB = true) := Pl.dig_step hlt HA.out x1 x2
        go_wp2
        go_round
        case rel => exact ⟨k + 1, by omega, by go_num, HT⟩
        case measure => simp [intOf]; omega
      · go_wp2
        go_ret
        exact ⟨ret_bool (by rw [HH.out, ← HA.out, Pl.take_all s k (by omega)]), rfl⟩
end Go.Proofs.YtcloljkaojnipaaGreatDoor
namespace Go.Proofs.YtcloljkaojnipaaGreatDoor
open Go.RowKit

theorem cell_blk {w w' : World} {b o : Nat} (h : w'.heap[b]? = w.heap[b]?) : w'.cell? ⟨b, o, none⟩ = w.cell? ⟨b, o, none⟩ := by
  simp only [World.cell?, h]
theorem Strs.tu {O : Nat → Prop} {w w' : World} {x : Option Addr} {c : Nat} {l : List ByteArray} (h : Strs w x c l) (ht : Tu O w w') (hk : l ≠ [] → ∀ ad, x = some ad → ¬ O ad.block) : Strs w' x c l := by
  refine ⟨h.len, h.nil, h.room, h.most, h.size, fun i hi => ?_⟩
  obtain ⟨b, off, e, hlt, hc⟩ := h.cells i hi
  have hl : l ≠ [] := fun q => by subst q; simp at hi
  exact ⟨b, off, e, Nat.lt_of_lt_of_le hlt ht.size, (cell_blk (ht.block b hlt (hk hl _ e))).trans hc⟩
theorem own_tu {O : Nat → Prop} {w w' : World} {base : Nat} {e : TypeId} {size : Nat} {v : Value} {n : Nat} {xs : List Value} (h : w.ownsRow base e size v n xs) (ht : Tu O w w') (hk : ∀ b, v.ownBlock = some b → ¬ O b) : w'.ownsRow base e size v n xs := by
  refine ⟨h.1, ?_⟩
  rcases h.2 with h2 | ⟨g, cap, cur, hv, hbg, hg, r⟩
  · exact .inl h2
  · subst hv
    exact .inr ⟨g, cap, cur, rfl, hbg, by rw [ht.block g (lt_of_block hg) (hk g rfl)]; exact hg, r⟩

/-- A row of paths of the call's own, none of which lies in it, nor in another row. -/
def PRowO (w : World) (base : Nat) (v u : Value) (l : List (List ByteArray)) : Prop := ∃ xs, w.ownsRow base 26 1 v l.length xs ∧ Elts w v.ownBlock xs l ∧ Elts w u.ownBlock xs l
theorem PRowO.empty (w : World) (base : Nat) (u : Value) : PRowO w base (.slice none 0 0) u [] := ⟨[], World.ownsRow_nil _ _ _ _, fun i h => absurd h (by simp), fun i h => absurd h (by simp)⟩
theorem PRowO.row {w : World} {base : Nat} {v u : Value} {l : List (List ByteArray)} (h : PRowO w base v u l) : PRow w base v l := by obtain ⟨xs, h1, h2, _⟩ := h; exact ⟨xs, h1, h2⟩
theorem PRowO.below {w w' : World} {base : Nat} {v u : Value} {l : List (List ByteArray)} (h : PRowO w base v u l) (hb : Below w.heap.size w w') : PRowO w' base v u l := by
  obtain ⟨xs, h1, h2, h3⟩ := h
  exact ⟨xs, own_below h1 hb, h2.below hb, h3.below hb⟩
/-- What another row's growth leaves of it. -/
theorem PRowO.other {w w' : World} {base m : Nat} {v u u' : Value} {l : List (List ByteArray)} (h : PRowO w base v u l) (ht : Tu (fun k => u.ownBlock = some k) w w') (hne : ∀ b, v.ownBlock = some b → u.ownBlock ≠ some b) (hat : u'.ownBlock = u.ownBlock ∨ u'.ownBlock = some m) (hm : w.heap.size ≤ m) : PRowO w' base v u' l := by
  obtain ⟨xs, h1, h2, h3⟩ := h
  have hs : ∀ (x : Option Addr) (c : Nat) (p : List ByteArray), Strs w x c p → Off x p u.ownBlock → Strs w' x c p := fun x c p hs ho => hs.tu ht (fun hl ad e q => ho hl ad e q.symm)
  refine ⟨xs, own_tu h1 ht (fun b hb => hne b hb), fun i hi => ?_, fun i hi => ?_⟩
  · obtain ⟨x, c, k1, k2, k3⟩ := h2 i hi
    obtain ⟨x', c', k1', k2', k3'⟩ := h3 i hi
    rw [k1] at k1'
    obtain ⟨rfl, rfl⟩ : x = x' ∧ c = c' := by simpa using k1'
    exact ⟨x, c, k1, hs _ _ _ k2 k3', k3⟩
  · obtain ⟨x, c, k1, k2, k3⟩ := h3 i hi
    refine ⟨x, c, k1, hs _ _ _ k2 k3, ?_⟩
    rcases hat with e | e
    · rw [e]; exact k3
    · rw [e]; exact k2.off hm
/-- What a store elsewhere leaves of it. -/
theorem PRowO.far {O : Nat → Prop} {w w' : World} {base : Nat} {v u : Value} {l : List (List ByteArray)} (h : PRowO w base v u l) (ht : Tu O w w') (h1 : ∀ b, v.ownBlock = some b → ¬ O b) (h2 : ∀ x c p, Strs w x c p → p ≠ [] → ∀ ad, x = some ad → ¬ O ad.block) : PRowO w' base v u l := by
  obtain ⟨xs, k1, k2, k3⟩ := h
  refine ⟨xs, own_tu k1 ht h1, fun i hi => ?_, fun i hi => ?_⟩
  · obtain ⟨x, c, a1, a2, a3⟩ := k2 i hi
    exact ⟨x, c, a1, a2.tu ht (h2 x c _ a2), a3⟩
  · obtain ⟨x, c, a1, a2, a3⟩ := k3 i hi
    exact ⟨x, c, a1, a2.tu ht (h2 x c _ a2), a3⟩

namespace Pl
/-- What was read so far: the paths, the four numbers, and which of them were told. -/
structure PSt where
  R : List (List ByteArray)
  W : List (List ByteArray)
  q : Nat → Nat
  t : Nat → Bool
def mostN (i : Nat) : Nat := if i < 2 then 1073741824 else 4294967296
def wordL : Nat → List UInt8
  | 0 => [102, 117, 101, 108]
  | 1 => [109, 101, 109, 111, 114, 121]
  | 2 => [111, 117, 116, 112, 117, 116]
  | _ => [101, 97, 99, 104]
def upd {α : Type} (f : Nat → α) (i : Nat) (x : α) : Nat → α := fun k => if k = i then x else f k
/-- What a line of a number does. -/
def numR (S : PSt) (i : Nat) (l : List UInt8) : Nat × PSt :=
  if isNum l = false then (2, S) else if mostN i < valN l then (3, S) else if S.t i = true then (4, S) else (0, { S with q := upd S.q i (valN l), t := upd S.t i true })
theorem numR_form {S : PSt} {i : Nat} {l : List UInt8} (h : isNum l = false) : numR S i l = (2, S) := by rw [numR, if_pos h]
theorem numR_most {S : PSt} {i : Nat} {l : List UInt8} (h : isNum l = true) (h2 : mostN i < valN l) : numR S i l = (3, S) := by rw [numR, if_neg (by rw [h]; simp), if_pos h2]
theorem numR_twice {S : PSt} {i : Nat} {l : List UInt8} (h : isNum l = true) (h2 : ¬ mostN i < valN l) (h3 : S.t i = true) : numR S i l = (4, S) := by rw [numR, if_neg (by rw [h]; simp), if_neg h2, if_pos h3]
theorem numR_ok {S : PSt} {i : Nat} {l : List UInt8} (h : isNum l = true) (h2 : ¬ mostN i < valN l) (h3 : S.t i = false) : numR S i l = (0, { S with q := upd S.q i (valN l), t := upd S.t i true }) := by rw [numR, if_neg (by rw [h]; simp), if_neg h2, if_neg (by rw [h3]; simp)]
end Pl

/-- Where things lie: the policy, the boxes of the two readers of paths, of the four quotas, of what was told; from N on lies what is read. -/
structure Lo where
  pg : Nat
  bR : Nat
  bW : Nat
  qb : Nat → Nat
  tb : Nat → Nat
  N : Nat
/-- What a line may turn. -/
def Lo.tch (L : Lo) (k : Nat) : Prop := k = L.pg ∨ (∃ i, i < 4 ∧ k = L.tb i) ∨ L.N ≤ k
structure Bxs (L : Lo) (w : World) : Prop where
  r : w.heap[L.bR]? = some (.cells #[.pointer (some ⟨L.pg, 0, none⟩)] 94 (0, 0))
  s : w.heap[L.bW]? = some (.cells #[.pointer (some ⟨L.pg, 1, none⟩)] 94 (0, 0))
  q : ∀ i, i < 4 → w.heap[L.qb i]? = some (.cells #[.string ⟨(Pl.wordL i).toArray⟩, .pointer (some ⟨L.pg, 2 + i, none⟩), .int .i64 (Pl.mostN i : Nat)] 52 (0, 0))
  rN : L.bR < L.N
  wN : L.bW < L.N
  qN : ∀ i, i < 4 → L.qb i < L.N
  tN : ∀ i, i < 4 → L.tb i < L.N
  pN : L.pg < L.N
  rp : L.bR ≠ L.pg
  wp : L.bW ≠ L.pg
  qp : ∀ i, i < 4 → L.qb i ≠ L.pg
  tp : ∀ i, i < 4 → L.tb i ≠ L.pg
  rt : ∀ i, i < 4 → L.bR ≠ L.tb i
  wt : ∀ i, i < 4 → L.bW ≠ L.tb i
  qt : ∀ i j, i < 4 → j < 4 → L.qb i ≠ L.tb j
  tt : ∀ i j, i < 4 → j < 4 → i ≠ j → L.tb i ≠ L.tb j
theorem Bxs.tu {L : Lo} {w w' : World} (h : Bxs L w) (ht : Tu L.tch w w') : Bxs L w' := by
  have far : ∀ b, b < L.N → b ≠ L.pg → (∀ i, i < 4 → b ≠ L.tb i) → ¬ L.tch b := fun b h1 h2 h3 e => by
    rcases e with e | ⟨i, hi, e⟩ | e
    · exact h2 e
    · exact h3 i hi e
    · omega
  refine ⟨?_, ?_, fun i hi => ?_, h.rN, h.wN, h.qN, h.tN, h.pN, h.rp, h.wp, h.qp, h.tp, h.rt, h.wt, h.qt, h.tt⟩
  · rw [ht.block _ (lt_of_block h.r) (far _ h.rN h.rp h.rt)]; exact h.r
  · rw [ht.block _ (lt_of_block h.s) (far _ h.wN h.wp h.wt)]; exact h.s
  · rw [ht.block _ (lt_of_block (h.q i hi)) (far _ (h.qN i hi) (h.qp i hi) (fun j hj => h.qt i j hi hj))]; exact h.q i hi

/-- What lies in memory while a policy is read. -/
structure Sta (L : Lo) (S : Pl.PSt) (vR vW : Value) (w : World) : Prop where
  bx : Bxs L w
  p : w.heap[L.pg]? = some (.cells #[vR, vW, .int .i64 (S.q 0 : Nat), .int .i64 (S.q 1 : Nat), .int .i64 (S.q 2 : Nat), .int .i64 (S.q 3 : Nat)] 24 (0, 0))
  t : ∀ i, i < 4 → w.heap[L.tb i]? = some (.cells #[.bool (S.t i)] 4 (0, 0))
  R : PRowO w L.N vR vW S.R
  W : PRowO w L.N vW vR S.W
  ne : ∀ b, vR.ownBlock = some b → vW.ownBlock ≠ some b
  NN : L.N ≤ w.heap.size
theorem Sta.below {L : Lo} {S : Pl.PSt} {vR vW : Value} {w w' : World} (h : Sta L S vR vW w) (hb : Below w.heap.size w w') : Sta L S vR vW w' :=
  ⟨h.bx.tu (Tu.of_below hb), by rw [hb.block _ (lt_of_block h.p)]; exact h.p, fun i hi => by rw [hb.block _ (lt_of_block (h.t i hi))]; exact h.t i hi, h.R.below hb, h.W.below hb, h.ne, Nat.le_trans h.NN hb.size⟩
theorem Sta.pc {L : Lo} {S : Pl.PSt} {vR vW : Value} {w : World} (h : Sta L S vR vW w) (i : Nat) (hi : i < 4) : w.cell? ⟨L.pg, 2 + i, none⟩ = some (.int .i64 (S.q i : Nat)) := by
  simp only [World.cell?, h.p]
  rcases (show i = 0 ∨ i = 1 ∨ i = 2 ∨ i = 3 by omega) with rfl | rfl | rfl | rfl <;> rfl
theorem Sta.pf {L : Lo} {S : Pl.PSt} {vR vW : Value} {w : World} (h : Sta L S vR vW w) (j : Nat) : w.frozen? ⟨L.pg, j, none⟩ = false := frozen_of_row w _ j _ _ h.p
theorem Sta.tc {L : Lo} {S : Pl.PSt} {vR vW : Value} {w : World} (h : Sta L S vR vW w) (i : Nat) (hi : i < 4) : w.cell? ⟨L.tb i, 0, none⟩ = some (.bool (S.t i)) := by
  simp only [World.cell?, h.t i hi]; rfl
theorem Sta.tf {L : Lo} {S : Pl.PSt} {vR vW : Value} {w : World} (h : Sta L S vR vW w) (i : Nat) (hi : i < 4) : w.frozen? ⟨L.tb i, 0, none⟩ = false := frozen_of_row w _ 0 _ _ (h.t i hi)
theorem Sta.qc {L : Lo} {S : Pl.PSt} {vR vW : Value} {w : World} (h : Sta L S vR vW w) (i : Nat) (hi : i < 4) : w.cell? ⟨L.qb i, 1, none⟩ = some (.pointer (some ⟨L.pg, 2 + i, none⟩)) ∧ w.cell? ⟨L.qb i, 2, none⟩ = some (.int .i64 (Pl.mostN i : Nat)) := by
  simp only [World.cell?, h.bx.q i hi]; exact ⟨rfl, rfl⟩
/-- A path lies nowhere where a number or a mark lies. -/
theorem strs_far {w : World} {g : Nat} {cs : Array Value} {t : TypeId} {fr : Nat × Nat} (hg : w.heap[g]? = some (.cells cs t fr)) (hcs : ∀ (i : Nat) (s : ByteArray), cs[i]? ≠ some (Value.string s)) {x : Option Addr} {c : Nat} {p : List ByteArray} (h : Strs w x c p) (hp : p ≠ []) (ad : Addr) (hx : x = some ad) : ad.block ≠ g := by
  obtain ⟨b, off, e, hlt, hc⟩ := h.cells 0 (List.length_pos_iff.2 hp)
  rw [hx] at e
  cases e
  intro q
  have q : b = g := q
  subst q
  simp only [World.cell?, hg] at hc
  exact hcs (off + 0) _ (by simpa using hc)
/-- A number is put down. -/
theorem Sta.num {L : Lo} {S : Pl.PSt} {vR vW : Value} {w : World} (h : Sta L S vR vW w) (i : Nat) (hi : i < 4) (n : Nat) (hv : ∀ s, vR ≠ .string s ∧ vW ≠ .string s) :
    Sta L { S with q := Pl.upd S.q i n, t := Pl.upd S.t i true } vR vW ((w.setCell ⟨L.tb i, 0, none⟩ (.bool true)).setCell ⟨L.pg, 2 + i, none⟩ (.int .i64 (n : Int))) ∧ Tu L.tch w ((w.setCell ⟨L.tb i, 0, none⟩ (.bool true)).setCell ⟨L.pg, 2 + i, none⟩ (.int .i64 (n : Int))) := by
  have ht : Tu (fun k => k = L.pg ∨ k = L.tb i) w ((w.setCell ⟨L.tb i, 0, none⟩ (.bool true)).setCell ⟨L.pg, 2 + i, none⟩ (.int .i64 (n : Int))) := ((Tu.refl _ w).setCell (p := ⟨L.tb i, 0, none⟩) (fun _ => .inr rfl) _).setCell (p := ⟨L.pg, 2 + i, none⟩) (fun _ => .inl rfl) _
  have htt : Tu L.tch w ((w.setCell ⟨L.tb i, 0, none⟩ (.bool true)).setCell ⟨L.pg, 2 + i, none⟩ (.int .i64 (n : Int))) := ht.mono (fun k _ e => by rcases e with e | e; exact .inl e; exact .inr (.inl ⟨i, hi, e⟩))
  have hp1 : (w.setCell ⟨L.tb i, 0, none⟩ (.bool true)).heap[L.pg]? = w.heap[L.pg]? := heap_setCell_other _ _ _ _ (fun e => h.bx.tp i hi e.symm)
  have hfar : ∀ (x : Option Addr) (c : Nat) (p : List ByteArray), Strs w x c p → p ≠ [] → ∀ ad, x = some ad → ¬ (ad.block = L.pg ∨ ad.block = L.tb i) := fun x c p hs hp ad hx e => by
    rcases e with e | e
    · refine strs_far h.p (fun j s q => ?_) hs hp ad hx e
      rcases (show j = 0 ∨ j = 1 ∨ j = 2 ∨ j = 3 ∨ j = 4 ∨ j = 5 ∨ 6 ≤ j by omega) with rfl | rfl | rfl | rfl | rfl | rfl | hj
      · exact (hv s).1 (Option.some.inj q)
      · exact (hv s).2 (Option.some.inj q)
      · cases Option.some.inj q
      · cases Option.some.inj q
      · cases Option.some.inj q
      · cases Option.some.inj q
      · rw [Array.getElem?_eq_none (by simpa using hj)] at q; cases q
    · refine strs_far (h.t i hi) (fun j s q => ?_) hs hp ad hx e
      rcases (show j = 0 ∨ 1 ≤ j by omega) with rfl | hj
      · cases Option.some.inj q
      · rw [Array.getElem?_eq_none (by simpa using hj)] at q; cases q
  have hown : ∀ v l, (∃ xs, w.ownsRow L.N 26 1 v l xs) → ∀ b, v.ownBlock = some b → ¬ (b = L.pg ∨ b = L.tb i) := fun v l ho b hb e => by
    obtain ⟨xs, ho⟩ := ho
    have h1 := (ho.lt b hb).1
    have h2 := h.bx.pN
    have h3 := h.bx.tN i hi
    rcases e with e | e <;> omega
  refine ⟨⟨h.bx.tu htt, ?_, fun j hj => ?_, h.R.far ht (hown vR _ (by obtain ⟨xs, k, _⟩ := h.R; exact ⟨xs, k⟩)) hfar, h.W.far ht (hown vW _ (by obtain ⟨xs, k, _⟩ := h.W; exact ⟨xs, k⟩)) hfar, h.ne, Nat.le_trans h.NN ht.size⟩, htt⟩
  · rw [heap_setCell_same _ _ _ _ _ _ (hp1.trans h.p)]
    rcases (show i = 0 ∨ i = 1 ∨ i = 2 ∨ i = 3 by omega) with rfl | rfl | rfl | rfl <;> simp [Pl.upd]
  · rw [heap_setCell_other _ _ _ _ (show L.tb j ≠ L.pg from h.bx.tp j hj)]
    by_cases e : j = i
    · subst e
      rw [one_setCell (h.t j hj)]
      simp [Pl.upd]
    · rw [heap_setCell_other _ _ _ _ (show L.tb j ≠ L.tb i from h.bx.tt j i hj hi e), h.t j hj]
      simp [Pl.upd, e]
end Go.Proofs.YtcloljkaojnipaaGreatDoor
namespace Go.Proofs.YtcloljkaojnipaaGreatDoor
open Go.RowKit

theorem Tryz.pow10At : Tryz.prog.globalNamed "internal/strconv.uint64pow10" = some 4 := by kernel_rfl
/-- The lines' tables, the library's table of powers, its error, its longest length. -/
structure PT (w : World) : Prop where
  tabs : Tabs w
  pow : Lib.TabIs Tryz.prog w "internal/strconv.uint64pow10" .u64 Lib.pow10Tab
  err : ∃ ev, w.cell? ⟨6, 0, none⟩ = some ev ∧ (ev = .nilIface ∨ ∃ te pe, ev = .iface te pe)
  max : ∃ m, w.cell? ⟨2, 0, none⟩ = some (.int .i64 m)
theorem PT.size {w : World} (h : PT w) : 9 ≤ w.heap.size := h.tabs.size
theorem PT.below {w w' : World} {B : Nat} (h : PT w) (hb : Below B w w') (hB : 9 ≤ B) : PT w' := by
  refine ⟨h.tabs.below hB hb, ?_, ?_, ?_⟩
  · have hp := h.pow
    unfold Lib.TabIs World.var? at hp ⊢
    rw [Tryz.pow10At] at hp ⊢
    simp only [Option.bind_some] at hp ⊢
    rw [hb.block 4 (by omega)]
    exact hp
  · obtain ⟨ev, h1, h2⟩ := h.err
    exact ⟨ev, (hb.cell (p := ⟨6, 0, none⟩) (by show 6 < B; omega)).trans h1, h2⟩
  · obtain ⟨m, h1⟩ := h.max
    exact ⟨m, (hb.cell (p := ⟨2, 0, none⟩) (by show 2 < B; omega)).trans h1⟩
theorem PT.under {w w' : World} (h : PT w) (hb : Below w.heap.size w w') : PT w' := h.below hb h.size
theorem PT.tu {O : Nat → Prop} {w w' : World} (h : PT w) (ht : Tu O w w') (hO : ∀ k, O k → 9 ≤ k) : PT w' := h.below (ht.below h.size hO) (Nat.le_refl _)

theorem atoi_ok (s : ByteArray) (v : Nat) (w : World) (hs : s.size ≤ 16777216) (h : Lib.atoiAll s.data.toList = .ok ((v : Nat) : Int)) :
    Calls Tryz.prog 95 #[.string s] w fun e w' => e = .returned (.tuple #[.int .i64 (v : Int), .nilIface]) ∧ Below w.heap.size w w' := by
  refine (Any.strconv_Atoi_ok Tryz.laysC172 s (by omega) _ h w).mono ?_
  rintro e w' ⟨rfl, hw⟩
  refine ⟨rfl, ?_⟩
  rcases hw with rfl | ⟨t, rfl⟩
  · exact Below.refl _ _
  · exact Lib.bytesWorld_below _ _ _
theorem atoi_no (s : ByteArray) (w : World) (T : PT w) (hs : s.size ≤ 16777216) (h : Lib.atoiAll s.data.toList = .range) :
    Calls Tryz.prog 95 #[.string s] w fun e w' => ∃ n N : Nat, ∃ x : Int, e = .returned (.tuple #[.int .i64 x, .iface n (.pointer (some ⟨N, 0, none⟩))]) ∧ Below w.heap.size w w' := by
  obtain ⟨ev, h1, h2⟩ := T.err
  refine (Any.strconv_Atoi_range Tryz.laysC172 s (by omega) h ev w h1 h2).mono ?_
  rintro e w' ⟨N, rfl, _, _, hb⟩
  exact ⟨_, N, _, rfl, hb⟩
theorem itoa_any (n : Nat) (w : World) (T : PT w) (hn : n ≤ 1000000000000) :
    Calls Tryz.prog 51 #[.int .i64 (n : Int)] w fun e w' => e = .returned (.string (Ln.bs (Lib.decDigits n))) ∧ Below w.heap.size w w' := by
  refine (Any.strconv_Itoa Tryz.laysM171 (n : Int) (by omega) (by omega) w T.pow).mono ?_
  rintro e w' ⟨rfl, k, os, rfl⟩
  exact ⟨by rw [Lib.itoa_nonneg]; rfl, Lib.below_grow _ _ (Nat.le_refl _) _ _⟩
theorem cut_any (s : ByteArray) (w : World) (T : PT w) (hs : s.size ≤ 67108864) :
    Calls Tryz.prog 75 #[.string s, .string ⟨#[32]⟩] w fun e w' => e = .returned (.tuple #[.string (Ln.bs (Lib.cut s.data.toList [32]).1), .string (Ln.bs (Lib.cut s.data.toList [32]).2.1), .bool (Lib.cut s.data.toList [32]).2.2]) ∧ Below w.heap.size w w' := by
  obtain ⟨m, hm⟩ := T.max
  refine (Any.strings_Cut Tryz.lays145 s ⟨#[32]⟩ m w (by omega) hm).mono ?_
  rintro e w' ⟨rfl, n, rfl⟩
  exact ⟨rfl, below_drewN (Below.refl _ _) n⟩
end Go.Proofs.YtcloljkaojnipaaGreatDoor
