/- What holds of each of the 256 bytes. Plain facts on quoted texts: what is written is read as it was. Plain: a policy's text is read as its normal form. Plain: which word a line of a policy begins with, and what it does then. -/
import Derived.Test.YtcloljkaojnipaaGreatDoorPgQ
import Derived.Test.YtcloljkaojnipaaGreatDoorPgI
import Derived.Test.YtcloljkaojnipaaGreatDoorLQuote
import Derived.Test.YtcloljkaojnipaaGreatDoorPhC
import Derived.Test.YtcloljkaojnipaaGreatDoorPgL
import Derived.Lib.IndexBytes
namespace Go.Proofs.YtcloljkaojnipaaGreatDoor
namespace Ln
theorem all_bytes {P : UInt8 → Prop} (h : ∀ n : Fin 256, P (UInt8.ofNat n.val)) (b : UInt8) : P b := by
  have := h ⟨b.toNat, b.toNat_lt⟩
  simpa using this
end Ln
end Go.Proofs.YtcloljkaojnipaaGreatDoor
namespace Go.Proofs.YtcloljkaojnipaaGreatDoor
namespace Ln

theorem untold_let : ∀ b : UInt8, b ≠ 92 → letB b ≠ 0 → UInt8.ofNat (letB b) ≠ 92 ∧ letF (UInt8.ofNat (letB b)) 14 < 14 ∧ UInt8.ofNat (letF (UInt8.ofNat (letB b)) 14) = b := all_bytes (by decide +kernel)
theorem untold_oct0 : ∀ b : UInt8, b ≠ 92 → letB b = 0 → octB b.toNat b.toNat = true → (48 + b / 64 ≠ 92 ∧ ¬ letF (48 + b / 64) 14 < 14) ∧ octGo 3 64 0 [48 + b / 64, 48 + b / 8 % 8, 48 + b % 8] 0 = (b, 3, true) := all_bytes (by decide +kernel)
theorem untold_plain : ∀ b : UInt8, b ≠ 92 → letB b = 0 → octB b.toNat b.toNat = false → 32 ≤ b.toNat ∧ b.toNat < 127 := all_bytes (by decide +kernel)
theorem octGo_rest : ∀ (f rest v : Nat) (l r : List UInt8) (off d : Nat), f ≤ l.length → octGo f rest v (l ++ r) (off + d) = ((octGo f rest v l off).1, (octGo f rest v l off).2.1 + d, (octGo f rest v l off).2.2)
  | 0, _, _, _, _, _, _, _ => rfl
  | f + 1, _, _, [], _, _, _, h => absurd h (by simp)
  | f + 1, rest, v, c :: l, r, off, d, h => by
    rw [List.cons_append, octGo, octGo]
    split
    · rfl
    · split
      · rfl
      · have := octGo_rest f (rest / 8) (v * 8 + (c.toNat - 48)) l r (off + 1) d (by simpa using h)
        rw [show off + d + 1 = off + 1 + d by omega, this]
/-- A told byte is read as it was, whatever stands behind it. -/
theorem untold (b : UInt8) (rest : List UInt8) (off : Nat) : untP (toldL b ++ rest) off = (b, off + (toldL b).length, true) := by
  by_cases h1 : b = 92
  · subst h1
    have e : toldL 92 = [92, 92] := by decide
    rw [e]; rfl
  have h1' : ((b.toNat : Int) == 92) = false := by
    rw [beq_eq_false_iff_ne]; intro e; apply h1; rw [← UInt8.toNat_inj]; simp; omega
  by_cases h2 : letB b = 0
  · cases h3 : octB b.toNat b.toNat
    · obtain ⟨p1, p2⟩ := untold_plain b h1 h2 h3
      rw [told_plain h1' h2 h3, List.singleton_append, unt_plain h1, plainP, if_neg (by omega)]
      rfl
    · obtain ⟨⟨p1, p2⟩, p3⟩ := untold_oct0 b h1 h2 h3
      rw [told_oct h1' h2 h3]
      rw [show [92, 48 + b / 64, 48 + b / 8 % 8, 48 + b % 8] ++ rest = 92 :: (48 + b / 64) :: ([48 + b / 8 % 8, 48 + b % 8] ++ rest) from rfl, unt_oct p1 p2, octP]
      have := octGo_rest 3 64 0 [48 + b / 64, 48 + b / 8 % 8, 48 + b % 8] rest 0 (off + 1) (by simp)
      rw [p3, Nat.zero_add] at this
      rw [show (48 + b / 64) :: ([48 + b / 8 % 8, 48 + b % 8] ++ rest) = [48 + b / 64, 48 + b / 8 % 8, 48 + b % 8] ++ rest from rfl, this]
      simp
      omega
  · obtain ⟨p1, p2, p3⟩ := untold_let b h1 h2
    rw [told_let h1' h2]
    rw [show [92, UInt8.ofNat (letB b)] ++ rest = 92 :: UInt8.ofNat (letB b) :: rest from rfl, unt_let p1 p2, p3]
    rfl

theorem told_first : ∀ b : UInt8, (toldL b).head? ≠ some 10 ∧ (toldL b ≠ [36] → (toldL b).head? ≠ some 36) ∧ ((toldL b).head? = some 92 → (toldL b)[1]? ≠ some 10 ∧ (toldL b)[1]? ≠ some 34 ∧ 2 ≤ (toldL b).length) ∧ (b ≠ 34 → (toldL b).head? ≠ some 34) := all_bytes (by decide +kernel)
theorem told_print : ∀ b : UInt8, (toldL b).all (fun c => 32 ≤ c.toNat && c.toNat ≤ 126) = true := all_bytes (by decide +kernel)
theorem told_ne (b : UInt8) : toldL b ≠ [] := fun e => by have := told_len b; rw [e] at this; simp at this

theorem head_app {a b : List UInt8} (h : a ≠ []) : (a ++ b).head? = a.head? := by
  cases a with
  | nil => exact absurd rfl h
  | cons x r => rfl
theorem beg_told92 {b : UInt8} {rest : List UInt8} {c : UInt8} (hc : c = 10 ∨ c = 34) : begL (toldL b ++ rest) 92 c = false := by
  obtain ⟨h1, h2, h3, _⟩ := told_first b
  cases ht : toldL b with
  | nil => exact absurd ht (told_ne b)
  | cons x t =>
    by_cases hx : x = 92
    · rw [ht, hx] at h3
      obtain ⟨p1, p2, p3⟩ := h3 rfl
      cases t with
      | nil => simp at p3
      | cons y r =>
        rw [List.cons_append, List.cons_append, beg_two]
        have : y ≠ c := fun q => by
          subst q
          simp at p1 p2
          rcases hc with h | h
          · exact p1 h
          · exact p2 h
        simp [this]
    · cases hr : t ++ rest with
      | nil => rw [List.cons_append, hr]; rfl
      | cons y r => rw [List.cons_append, hr, beg_two]; simp [hx]

theorem drop_pre (P l : List UInt8) : (P ++ l).drop P.length = l := by simp
/-- What is quoted is read as it was, whatever stands behind it. -/
theorem unq_tail (t : List UInt8) : ∀ (l P : List UInt8) (f : Nat) (out : List UInt8), l.length < f → unqGo (P ++ (l.flatMap qL ++ 34 :: t)) f P.length out = (out ++ l, (P ++ l.flatMap qL).length + 1, 0, 0)
  | [], P, f + 1, out, _ => by
    rw [unq_end (by rw [drop_pre]; rfl)]; simp
  | b :: r, P, f + 1, out, hf => by
    simp only [List.length_cons] at hf
    have e : (b :: r).flatMap qL ++ 34 :: t = qL b ++ (r.flatMap qL ++ 34 :: t) := by simp
    rw [e]
    by_cases hb : b = 34
    · have e2 : qL b = [92, 34] := by rw [qL, if_pos hb]
      rw [e2, unq_quote (by rw [drop_pre]; simp) (by rw [drop_pre]; rfl)]
      rw [show P ++ ([92, 34] ++ (r.flatMap qL ++ 34 :: t)) = (P ++ [92, 34]) ++ (r.flatMap qL ++ 34 :: t) by simp, show P.length + 2 = (P ++ [92, 34]).length by simp, unq_tail t r _ f _ (by omega)]
      subst hb
      simp [e2]
    · have e2 : qL b = toldL b := by rw [qL, if_neg hb]
      have hu := untold b (r.flatMap qL ++ 34 :: t) P.length
      have h34 : ¬ (toldL b ++ (r.flatMap qL ++ 34 :: t)).head? = some 34 := by
        rw [head_app (told_ne b)]; exact (told_first b).2.2.2 hb
      rw [e2, unq_on (by rw [drop_pre]; exact h34) (by rw [drop_pre]; exact beg_told92 (.inr rfl)) (by rw [drop_pre, hu])]
      rw [drop_pre, hu]
      simp only
      rw [← List.append_assoc, ← List.length_append, unq_tail t r _ f _ (by omega)]
      simp [e2]
theorem qL_pos (b : UInt8) : 1 ≤ (qL b).length := by
  unfold qL; split
  · simp
  · exact (told_len b).1
theorem qLs_len : ∀ l : List UInt8, l.length ≤ (l.flatMap qL).length
  | [] => by simp
  | b :: r => by have := qLs_len r; have := qL_pos b; simp only [List.flatMap_cons, List.length_append, List.length_cons]; omega
theorem unq_quoted (s t : ByteArray) : unqP (quoP s ++ t) = (s.data.toList, (quoP s).size, 0, 0) := by
  have e : (quoP s ++ t).data.toList = [34] ++ (s.data.toList.flatMap qL ++ 34 :: t.data.toList) := by
    simp [quoP, quoS, bs]
  have hz : (quoP s).size = (s.data.toList.flatMap qL).length + 2 := by
    rw [← szL]; simp [quoP, quoS, bs]
  have hz2 : (quoP s ++ t).size = (s.data.toList.flatMap qL).length + 2 + t.size := by simp [hz]
  have hl := qLs_len s.data.toList
  rw [unqP, if_pos (by rw [e]; rfl), e, show (1 : Nat) = ([34] : List UInt8).length from rfl, unq_tail t.data.toList s.data.toList [34] _ [] (by omega), hz]
  simp
end Ln
end Go.Proofs.YtcloljkaojnipaaGreatDoor
namespace Go.Proofs.YtcloljkaojnipaaGreatDoor
open Go.RowKit

namespace Pl
theorem valF_app (a b : List UInt8) (n : Nat) : valF n (a ++ b) = valF (valF n a) b := by unfold valF; rw [List.foldl_append]
theorem dig_ofNat {d : Nat} (h : d < 10) : digB (UInt8.ofNat (48 + d)) = true ∧ (UInt8.ofNat (48 + d)).toNat = 48 + d := by
  have e : (UInt8.ofNat (48 + d)).toNat = 48 + d := by rw [UInt8.toNat_ofNat']; omega
  refine ⟨?_, e⟩
  unfold digB
  rw [e]
  simp
  omega
/-- Digits are digits, without needless noughts, and their number is the number. -/
theorem dec_facts : ∀ n : Nat, (Lib.decDigits n).all digB = true ∧ valN (Lib.decDigits n) = n ∧ Lib.decDigits n ≠ [] ∧ (0 < n → (Lib.decDigits n).head? ≠ some 48) := by
  intro n
  induction n using Nat.strongRecOn with
  | _ n ih =>
    by_cases h : n < 10
    · rw [Lib.decDigits, dif_pos h]
      obtain ⟨h1, h2⟩ := dig_ofNat h
      refine ⟨by rw [List.all_cons, h1]; rfl, ?_, by simp, fun hn e => ?_⟩
      · show 0 * 10 + ((UInt8.ofNat (48 + n)).toNat - 48) = n
        rw [h2]; omega
      · have e2 : UInt8.ofNat (48 + n) = 48 := by simpa using e
        have e3 := congrArg UInt8.toNat e2
        rw [h2] at e3
        have : (48 : UInt8).toNat = 48 := rfl
        omega
    · rw [Lib.decDigits, dif_neg h]
      obtain ⟨a1, a2, a3, a4⟩ := ih (n / 10) (by omega)
      obtain ⟨h1, h2⟩ := dig_ofNat (Nat.mod_lt n (by omega : 10 > 0))
      refine ⟨by rw [List.all_append, a1, List.all_cons, h1]; rfl, ?_, by simp, fun _ => ?_⟩
      · have e : valN (Lib.decDigits (n / 10) ++ [UInt8.ofNat (48 + n % 10)]) = valN (Lib.decDigits (n / 10)) * 10 + ((UInt8.ofNat (48 + n % 10)).toNat - 48) := by
          unfold valN
          rw [valF_app]
          rfl
        rw [e, a2, h2]; omega
      · have a5 := a4 (by omega)
        revert a3 a5
        cases Lib.decDigits (n / 10) with
        | nil => intro a3; exact absurd rfl a3
        | cons x r => intro _ a5; simpa using a5
theorem dec_num (n : Nat) : isNum (Lib.decDigits n) = true ∧ valN (Lib.decDigits n) = n := by
  obtain ⟨a1, a2, a3, a4⟩ := dec_facts n
  refine ⟨?_, a2⟩
  rw [num_all a3 (fun hh => ?_), a1]
  by_cases h0 : n < 10
  · rw [Lib.decDigits, dif_pos h0] at hh
    simp at hh
  · exact a4 (by omega) hh.1
theorem dec_nlf (n : Nat) : ∀ c ∈ Lib.decDigits n, (c == 10) = false := fun c hc => by
  have h := List.all_eq_true.1 (dec_facts n).1 c hc
  rw [beq_eq_false_iff_ne]
  intro e
  subst e
  exact absurd h (by decide)
/-- A line cut at its first blank. -/
theorem cut_word : ∀ (word rest : List UInt8), (∀ c ∈ word, (c == 32) = false) → Lib.cut (word ++ 32 :: rest) [32] = (word, rest, true) := by
  intro word rest h
  have hi : Lib.index (word ++ 32 :: rest) [32] = (word.length : Nat) := by
    rw [Lib.index_one]
    induction word with
    | nil => simp [Lib.indexByte]
    | cons x r ih =>
      have hx := h x (by simp)
      have hr := ih (fun c hc => h c (by simp [hc]))
      simp only [List.cons_append, Lib.indexByte]
      rw [hx, hr]
      have k : ((r.length : Nat) : Int) ≠ -1 := by omega
      simp [k]
  unfold Lib.cut
  rw [hi, if_pos (by omega)]
  simp
/-- Lines one behind another. -/
theorem spl_line : ∀ (l r : List UInt8), (∀ c ∈ l, (c == 10) = false) → Ln.spl (l ++ 10 :: r) = (l, true) :: Ln.spl r
  | [], r, _ => by rw [List.nil_append, Ln.spl_lf]
  | c :: l, r, h => by
    rw [List.cons_append, Ln.spl_other (h c (by simp)), spl_line l r (fun d hd => h d (by simp [hd]))]
    rfl
def lns (l : List UInt8) : List (ByteArray × Bool) := (Ln.spl l).map Ln.lnB
theorem lns_line {word rest r : List UInt8} (h1 : ∀ c ∈ word, (c == 10) = false) (h2 : ∀ c ∈ rest, (c == 10) = false) : lns (lineB word rest ++ r) = (Ln.bs (word ++ 32 :: rest), true) :: lns r := by
  unfold lns lineB
  have e : word ++ [32] ++ rest ++ [10] ++ r = (word ++ 32 :: rest) ++ 10 :: r := by simp
  rw [e, spl_line _ _ (fun c hc => ?_)]
  · rfl
  · rcases List.mem_append.1 hc with k | k
    · exact h1 c k
    · rcases List.mem_cons.1 k with k | k
      · subst k; rfl
      · exact h2 c k
/-- One line that breaks no rule. -/
theorem par_line {S S' : PSt} {k : Nat} {word rest r : List UInt8} (hw : word.head? ≠ none ∧ word.head? ≠ some 35) (h1 : ∀ c ∈ word, (c == 10) = false) (h2 : ∀ c ∈ rest, (c == 10) = false) (hl : lineR S (word ++ 32 :: rest) = (0, S')) : parF S k (lns (lineB word rest ++ r)) = parF S' (k + 1) (lns r) := by
  rw [lns_line h1 h2, parF]
  have hs : skipB (Ln.bs (word ++ 32 :: rest)) = false := by
    unfold skipB
    rw [Ln.data_bs]
    cases word with
    | nil => exact absurd rfl hw.1
    | cons x t =>
      have : ¬ x = 35 := fun e => hw.2 (by rw [e]; rfl)
      simp [this]
  rw [if_neg (by rw [hs]; simp), Ln.data_bs, hl, if_pos rfl]
theorem quo_nlf (s : ByteArray) : ∀ c ∈ (Ln.quoP s).data.toList, (c == 10) = false := by
  intro c hc
  unfold Ln.quoP Ln.quoS at hc
  rw [Ln.data_bs] at hc
  simp only [List.cons_append, List.mem_cons, List.mem_append, List.mem_flatMap] at hc
  rcases hc with rfl | ⟨b, _, hb⟩ | rfl | hc
  · rfl
  · unfold Ln.qL at hb
    split at hb
    · simp at hb; rcases hb with rfl | rfl <;> rfl
    · have h := List.all_eq_true.1 (Ln.told_print b) c hb
      rw [beq_eq_false_iff_ne]
      intro e
      subst e
      exact absurd h (by decide)
  · rfl
  · cases hc
theorem path_line {l : List (List ByteArray)} {p : List ByteArray} (hp : rightP p = true) (hl : l.length < 1024) : pathR l (Ln.bs (Ln.quoP (printP p).1).data.toList) = (0, l ++ [p]) := by
  rw [Ln.bs_data, print_right hp]
  have hu := Ln.unq_quoted (textP p) ByteArray.empty
  rw [ByteArray.append_empty] at hu
  have hn := normal_text hp (show rightP [] = true from rfl)
  have hb : Ln.bs (textP p).data.toList = textP p := Ln.bs_data _
  rw [pathR_ok (by rw [hu]; simp) (by rw [hu, hb, hn.2]; simpa using text_head p) (by omega), hu, hb, hn.1]
theorem read_line {S : PSt} {p : List ByteArray} (hp : rightP p = true) (hl : S.R.length < 1024) : lineR S (readL ++ 32 :: (Ln.quoP (printP p).1).data.toList) = (0, { S with R := S.R ++ [p] }) := by
  unfold lineR
  rw [cut_word readL _ (by decide)]
  simp only
  rw [path_line hp hl]
  rfl
theorem write_line {S : PSt} {p : List ByteArray} (hp : rightP p = true) (hl : S.W.length < 1024) : lineR S (writeL ++ 32 :: (Ln.quoP (printP p).1).data.toList) = (0, { S with W := S.W ++ [p] }) := by
  unfold lineR
  rw [cut_word writeL _ (by decide)]
  simp only
  rw [path_line hp hl]
  rfl
theorem par_reads : ∀ (c : List (List ByteArray)) (S : PSt) (k : Nat) (r : List UInt8), c.all rightP = true → S.R.length + c.length ≤ 1024 → parF S k (lns (pathsB readL c ++ r)) = parF { S with R := S.R ++ c } (k + c.length) (lns r)
  | [], S, k, r, _, _ => by simp [pathsB]
  | p :: c, S, k, r, h, hl => by
    simp only [List.all_cons, Bool.and_eq_true] at h
    simp only [List.length_cons] at hl
    rw [pathsB, List.append_assoc, par_line (by decide) (by decide) (quo_nlf _) (read_line h.1 (by omega)), par_reads c _ _ r h.2 (by simp; omega)]
    simp [Nat.add_assoc, Nat.add_comm 1]
theorem par_writes : ∀ (c : List (List ByteArray)) (S : PSt) (k : Nat) (r : List UInt8), c.all rightP = true → S.W.length + c.length ≤ 1024 → parF S k (lns (pathsB writeL c ++ r)) = parF { S with W := S.W ++ c } (k + c.length) (lns r)
  | [], S, k, r, _, _ => by simp [pathsB]
  | p :: c, S, k, r, h, hl => by
    simp only [List.all_cons, Bool.and_eq_true] at h
    simp only [List.length_cons] at hl
    rw [pathsB, List.append_assoc, par_line (by decide) (by decide) (quo_nlf _) (write_line h.1 (by omega)), par_writes c _ _ r h.2 (by simp; omega)]
    simp [Nat.add_assoc, Nat.add_comm 1]
theorem num_line {S : PSt} {i n : Nat} (hi : i < 4) (hn : n ≤ mostN i) (ht : S.t i = false) : lineR S (wordL i ++ 32 :: Lib.decDigits n) = (0, { S with q := upd S.q i n, t := upd S.t i true }) := by
  have hk := numR_ok (S := S) (i := i) (dec_num n).1 (by rw [(dec_num n).2]; omega) ht
  rw [(dec_num n).2] at hk
  unfold lineR
  match i, hi with
  | 0, _ => rw [cut_word (wordL 0) _ (by decide)]; exact hk
  | 1, _ => rw [cut_word (wordL 1) _ (by decide)]; exact hk
  | 2, _ => rw [cut_word (wordL 2) _ (by decide)]; exact hk
  | 3, _ => rw [cut_word (wordL 3) _ (by decide)]; exact hk
theorem num_text (q : Nat → Nat) : numK q 4 = lineB (wordL 0) (Lib.decDigits (q 0)) ++ (lineB (wordL 1) (Lib.decDigits (q 1)) ++ (lineB (wordL 2) (Lib.decDigits (q 2)) ++ (lineB (wordL 3) (Lib.decDigits (q 3)) ++ []))) := by
  simp [numK]
/-- A right policy's text is read as its normal form. -/
theorem par_back {cR cW : List (List ByteArray)} {q : Nat → Nat} (hR : cR.all rightP = true) (hW : cW.all rightP = true) (lR : cR.length ≤ 1024) (lW : cW.length ≤ 1024) (hq : ∀ i, i < 4 → q i ≤ mostN i) :
    ∃ S, parF S0 0 (Ln.splB (Ln.bs (polB cR cW q))) = .inr S ∧ S.R = cR ∧ S.W = cW ∧ S.q 0 = q 0 ∧ S.q 1 = q 1 ∧ S.q 2 = q 2 ∧ S.q 3 = q 3 := by
  have e : Ln.splB (Ln.bs (polB cR cW q)) = lns (pathsB readL cR ++ (pathsB writeL cW ++ numK q 4)) := by
    unfold Ln.splB lns polB
    rw [Ln.data_bs, List.append_assoc]
  rw [e, par_reads cR S0 0 _ hR (by simpa [S0] using lR), par_writes cW _ _ _ hW (by simpa [S0] using lW), num_text]
  rw [par_line (by decide) (by decide) (dec_nlf _) (num_line (i := 0) (by omega) (hq 0 (by omega)) rfl)]
  rw [par_line (by decide) (by decide) (dec_nlf _) (num_line (i := 1) (by omega) (hq 1 (by omega)) rfl)]
  rw [par_line (by decide) (by decide) (dec_nlf _) (num_line (i := 2) (by omega) (hq 2 (by omega)) rfl)]
  rw [par_line (by decide) (by decide) (dec_nlf _) (num_line (i := 3) (by omega) (hq 3 (by omega)) rfl)]
  exact ⟨_, rfl, by simp [S0], by simp [S0], rfl, rfl, rfl, rfl⟩
end Pl
end Go.Proofs.YtcloljkaojnipaaGreatDoor
namespace Go.Proofs.YtcloljkaojnipaaGreatDoor
open Go.RowKit

namespace Pl
/-- The words in the reference's order. -/
def wd : Nat → List UInt8
  | 0 => readL
  | 1 => writeL
  | k + 2 => wordL k
/-- What a line that begins with the word k does with what stands behind it. -/
def actR (S : PSt) (k : Nat) (rest : List UInt8) : Nat × PSt :=
  if k = 0 then ((pathR S.R (Ln.bs rest)).1, { S with R := (pathR S.R (Ln.bs rest)).2 })
  else if k = 1 then ((pathR S.W (Ln.bs rest)).1, { S with W := (pathR S.W (Ln.bs rest)).2 })
  else numR S (k - 2) rest
theorem cut_back {l : List UInt8} (h : (Lib.cut l [32]).2.2 = true) : l = (Lib.cut l [32]).1 ++ 32 :: (Lib.cut l [32]).2.1 := by
  unfold Lib.cut at h ⊢
  split at h
  · rename_i hi
    rw [if_pos hi]
    rcases Lib.index_spec l [32] with ⟨e, _⟩ | ⟨i, e, hle, hocc, _⟩
    · rw [e] at hi; omega
    · rw [e]
      simp only [Int.toNat_natCast, List.length_cons, List.length_nil, Nat.zero_add]
      unfold Lib.occAt at hocc
      cases hd : l.drop i with
      | nil => rw [hd] at hocc; simp at hocc
      | cons x r =>
        rw [hd] at hocc
        have hx : x = 32 := by
          simp only [List.isPrefixOf, Bool.and_true, beq_iff_eq] at hocc
          exact hocc.symm
        subst hx
        have e2 : l.drop (i + 1) = r := by rw [← List.drop_drop, hd]; rfl
        rw [e2, ← hd, List.take_append_drop]
  · cases h
theorem wd_blank : ∀ k, k < 6 → ∀ c ∈ wd k, (c == 32) = false := by decide
theorem line_word {S : PSt} {k : Nat} (hk : k < 6) (rest : List UInt8) : lineR S (wd k ++ 32 :: rest) = actR S k rest := by
  unfold lineR
  rw [cut_word (wd k) rest (wd_blank k hk)]
  match k, hk with
  | 0, _ => rfl
  | 1, _ => rfl
  | 2, _ => rfl
  | 3, _ => rfl
  | 4, _ => rfl
  | 5, _ => rfl
theorem line_none {S : PSt} {l : List UInt8} (h : ∀ k, k < 6 → ¬ (wd k ++ [32]) <+: l) : lineR S l = (1, S) := by
  unfold lineR
  cases hc : (Lib.cut l [32]).2.2
  · rw [if_pos rfl]
  · have hb := cut_back hc
    have hne : ∀ k, k < 6 → ¬ (Lib.cut l [32]).1 = wd k := fun k hk e => h k hk ⟨(Lib.cut l [32]).2.1, by
      rw [e] at hb
      conv => rhs; rw [hb]
      simp⟩
    rw [if_neg (by simp), if_neg (show ¬ _ = wordL 3 from hne 5 (by omega)), if_neg (show ¬ _ = wordL 2 from hne 4 (by omega)), if_neg (show ¬ _ = wordL 1 from hne 3 (by omega)), if_neg (show ¬ _ = wordL 0 from hne 2 (by omega)), if_neg (show ¬ _ = readL from hne 0 (by omega)), if_neg (show ¬ _ = writeL from hne 1 (by omega))]
theorem wd_pre {k : Nat} {l : List UInt8} (h : (wd k ++ [32]) <+: l) : l = wd k ++ 32 :: l.drop ((wd k).length + 1) := by
  obtain ⟨r, rfl⟩ := h
  simp
end Pl
end Go.Proofs.YtcloljkaojnipaaGreatDoor
