/- What policy.printLine and policy.printPaths put behind what was written. What policy.printPaths writes. What policy.Print answers. The sample that lives() reads, and what it is written as, plain. -/
import Derived.Test.YtcloljkaojnipaaGreatDoorPgN
import Derived.Test.YtcloljkaojnipaaGreatDoorPgD
import Derived.Test.YtcloljkaojnipaaGreatDoorLQuote
import Derived.Test.YtcloljkaojnipaaGreatDoorPrint
import Derived.Deep.DeepCutAuto
namespace Go.Proofs.YtcloljkaojnipaaGreatDoor
open Go.RowKit

/-- A builder at b, from B on, that holds the bytes l. -/
def Bd (w : World) (B b : Nat) (l : List UInt8) : Prop := Lib.IsBuilderF 76 5 B b (Lib.byteCells l) w ∧ B ≤ w.heap.size
theorem bdat_below {T e : TypeId} {B b : Nat} {p : Value} {bs : List Value} {w w' : World} (h : Lib.BuilderAtF T e B b p bs w) (hb : Below w.heap.size w w') : Lib.BuilderAtF T e B b p bs w' := by
  obtain ⟨h1, v, h2, h3, h4⟩ := h
  refine ⟨h1, v, by rw [hb.block b (lt_of_block h2)]; exact h2, ⟨h3.1, ?_⟩, h4⟩
  rcases h3.2 with k | ⟨g, cap, cur, fz, k1, k2, k3, k4⟩
  · exact .inl k
  · exact .inr ⟨g, cap, cur, fz, k1, k2, by rw [hb.block g (lt_of_block k3)]; exact k3, k4⟩
theorem Bd.under {w w' : World} {B b : Nat} {l : List UInt8} (h : Bd w B b l) (hb : Below w.heap.size w w') : Bd w' B b l :=
  ⟨h.1.elim (fun k => .inl (bdat_below k hb)) (fun k => .inr (bdat_below k hb)), Nat.le_trans h.2 hb.size⟩
theorem wstr_any (B b : Nat) (l : List UInt8) (s : ByteArray) (w : World) (h : Bd w B b l) (hlen : l.length + s.size ≤ 1073741824) :
    Calls Tryz.prog 81 #[.pointer (some ⟨b, 0, none⟩), .string s] w fun e w' => e = .returned (.tuple #[.int .i64 s.size, .nilIface]) ∧ Hid (Bd w' B b (l ++ s.data.toList) ∧ Below B w w') := by
  refine (Any.Builder_WriteString_k Tryz.lays166 Tryz.bldExtra B b _ s w h.1 (by rw [Lib.byteCells_length]; omega) h.2).mono ?_
  rintro e w' ⟨rfl, h1, h2, _⟩
  refine ⟨rfl, ⟨⟨.inr ?_, Nat.le_trans h.2 h2.size⟩, h2⟩⟩
  rw [Lib.byteCells_append]
  exact h1
theorem wbyte_any (B b : Nat) (l : List UInt8) (c : UInt8) (w : World) (h : Bd w B b l) (hlen : l.length + 1 ≤ 1073741824) :
    Calls Tryz.prog 82 #[.pointer (some ⟨b, 0, none⟩), .int .u8 (c.toNat : Int)] w fun e w' => e = .returned .nilIface ∧ Hid (Bd w' B b (l ++ [c]) ∧ Below B w w') := by
  refine (Any.Builder_WriteByte_k Tryz.lays167 Tryz.bldExtra B b _ (c.toNat : Int) w h.1 (by rw [Lib.byteCells_length]; omega) h.2).mono ?_
  rintro e w' ⟨rfl, h1, h2, _⟩
  refine ⟨rfl, ⟨⟨.inr ?_, Nat.le_trans h.2 h2.size⟩, h2⟩⟩
  rw [Lib.byteCells_append]
  exact h1
theorem bstr_any (B b : Nat) (l : List UInt8) (w : World) (h : Bd w B b l) :
    Calls Tryz.prog 52 #[.pointer (some ⟨b, 0, none⟩)] w fun e w' => e = .returned (.string (Ln.bs l)) ∧ Below B w w' := by
  refine (Any.Builder_String_any_k Tryz.lays169 Tryz.Builder_Extra_169 B b l w h.1 h.2).mono ?_
  rintro e w' ⟨rfl, _, h2, _⟩
  exact ⟨rfl, h2⟩

namespace Pl
/-- A line of a policy. -/
def lineB (word rest : List UInt8) : List UInt8 := word ++ [32] ++ rest ++ [10]
def pathsB (word : List UInt8) : List (List ByteArray) → List UInt8
  | [] => []
  | p :: r => lineB word (Ln.quoP (printP p).1).data.toList ++ pathsB word r
theorem pathsB_snoc (word : List UInt8) (l : List (List ByteArray)) (k : Nat) (h : k < l.length) : pathsB word (l.take (k + 1)) = pathsB word (l.take k) ++ lineB word (Ln.quoP (printP (l[k]'h)).1).data.toList := by
  have ap : ∀ a b : List (List ByteArray), pathsB word (a ++ b) = pathsB word a ++ pathsB word b := fun a b => by
    induction a with
    | nil => rfl
    | cons x r ih => simp [pathsB, ih]
  rw [List.take_succ_eq_append_getElem h, ap]
  simp [pathsB]
end Pl

set_option maxRecDepth 100000 in
set_option maxHeartbeats 1000000 in
theorem printLine_any (B b : Nat) (l : List UInt8) (word rest : ByteArray) (w : World) (h : Bd w B b l) (hlen : l.length + word.size + rest.size + 2 ≤ 1073741824) :
    Calls Tryz.prog 50 #[.pointer (some ⟨b, 0, none⟩), .string word, .string rest] w fun e w' => e = .returned (.tuple #[]) ∧ Bd w' B b (l ++ Pl.lineB word.data.toList rest.data.toList) ∧ Below B w w' := by
  have H1 := wstr_any B b l word w h (by omega)
  have hz1 := Ln.szL word
  have hz2 := Ln.szL rest
  have HE : Hid (l ++ Pl.lineB word.data.toList rest.data.toList = l ++ word.data.toList ++ [32] ++ rest.data.toList ++ [10]) := by unfold Hid Pl.lineB; simp
  have HL : Hid (l.length + word.size + rest.size + 2 ≤ 1073741824 ∧ word.data.toList.length = word.size ∧ rest.data.toList.length = rest.size) := ⟨hlen, hz1, hz2⟩
  clear hlen hz1 hz2 h
  go_enter Tryz.func50, Tryz.ntmps50
  go_wp2_with fail
  refine H1.mono ?_
  rintro e w1 ⟨rfl, K1⟩
  have H2 := wbyte_any B b _ 32 w1 K1.out.1 (by have := HL.out; simp; omega)
  go_wp2_with fail
  refine H2.mono ?_
  rintro e w2 ⟨rfl, K2⟩
  have H3 := wstr_any B b _ rest w2 K2.out.1 (by have := HL.out; simp; omega)
  go_wp2_with fail
  refine H3.mono ?_
  rintro e w3 ⟨rfl, K3⟩
  have H4 := wbyte_any B b _ 10 w3 K3.out.1 (by have := HL.out; simp; omega)
  go_wp2_with fail
  refine H4.mono ?_
  rintro e w4 ⟨rfl, K4⟩
  go_wp2_with fail
  go_end0
  rw [HE.out]
  exact ⟨rfl, K4.out.1, ((K1.out.2.trans K2.out.2).trans K3.out.2).trans K4.out.2⟩
end Go.Proofs.YtcloljkaojnipaaGreatDoor
namespace Go.Proofs.YtcloljkaojnipaaGreatDoor
open Go.RowKit

namespace Pl
theorem printP_size (p : List ByteArray) : (printP p).1.size ≤ 1024 := by
  cases hr : rightP p
  · rw [print_wrong hr]; decide
  · by_cases h0 : p.length = 0
    · rw [print_root hr h0]; decide
    · rw [print_text hr h0]
      show (bs (textF p)).size ≤ 1024
      have e : (bs (textF p)).size = (textF p).length := by rw [← szL]; rfl
      rw [e, textF_length]
      exact right_sum hr
theorem quoP_size (s : ByteArray) : (Ln.quoP s).size ≤ 4 * s.size + 2 := by
  have h := Ln.quoS_len s.data.toList
  rw [Ln.szL] at h
  unfold Ln.quoP
  rw [Ln.bs_size, List.length_append]
  simp; omega
theorem lineB_len (a b : List UInt8) : (lineB a b).length = a.length + b.length + 2 := by unfold lineB; simp; omega
theorem pathsB_len (word : List UInt8) : ∀ l : List (List ByteArray), (pathsB word l).length ≤ l.length * (word.length + 4100)
  | [] => by simp [pathsB]
  | p :: r => by
    have h1 := pathsB_len word r
    have h2 := quoP_size (printP p).1
    have h3 := printP_size p
    have h4 := Ln.szL (Ln.quoP (printP p).1)
    rw [pathsB, List.length_append, lineB_len, List.length_cons, Nat.add_mul]
    omega
end Pl

set_option maxRecDepth 100000 in
set_option maxHeartbeats 1000000 in
theorem printPaths_any (b : Nat) (l : List UInt8) (word : ByteArray) (wB : World) (a : Option Addr) (cap : Nat) (R : List (List ByteArray)) (w : World) (T : PT wB) (hp : Pts wB a cap R) (hR : R.length ≤ 1024) (hw : Below wB.heap.size wB w) (h : Bd w wB.heap.size b l) (hl : l.length ≤ 100000000) (hwd : word.size ≤ 16) :
    Calls Tryz.prog 49 #[.pointer (some ⟨b, 0, none⟩), .string word, .slice a R.length cap] w fun e w' => e = .returned (.tuple #[]) ∧ Bd w' wB.heap.size b (l ++ Pl.pathsB word.data.toList R) ∧ Below wB.heap.size w w' := by
  have HP : Hid (∀ w', Below wB.heap.size wB w' → Pts w' a cap R) := fun w' hb => hp.below hb
  have HT : Hid (∀ w', Below wB.heap.size wB w' → PT w') := fun w' hb => T.under hb
  have HW : Hid (Below wB.heap.size wB w) := hw
  have HB : Hid (Bd w wB.heap.size b l) := h
  have hsw := Ln.szL word
  have hlen : ∀ k, k ≤ R.length → (Pl.pathsB word.data.toList (R.take k)).length ≤ 5000000 := fun k hk => by
    have h1 := Pl.pathsB_len word.data.toList (R.take k)
    rw [List.length_take, Nat.min_eq_left hk] at h1
    have h2 : k * (word.data.toList.length + 4100) ≤ 1024 * 4116 := Nat.mul_le_mul (by omega) (by omega)
    omega
  have HL : Hid (∀ k, k ≤ R.length → (Pl.pathsB word.data.toList (R.take k)).length ≤ 5000000) := hlen
  clear hlen hp T hw h
  go_enter Tryz.func49, Tryz.ntmps49
  go_wp2_with fail
  go_loopw [7, 8, 9, 12] (fun _ _ _ i wr => ∃ k : Nat, k ≤ R.length ∧ i = .int .i64 k ∧ Hid (Bd wr wB.heap.size b (l ++ Pl.pathsB word.data.toList (R.take k)) ∧ Below wB.heap.size w wr)) (fun _ _ _ i _ => R.length - (intOf i).toNat)
  case atStart => exact ⟨0, Nat.zero_le _, rfl, by rw [List.take_zero]; simp only [Pl.pathsB, List.append_nil]; exact ⟨HB.out, Below.refl _ _⟩⟩
  case round =>
    obtain ⟨k, hk, rfl, HK⟩ := hrel
    have HBr : Hid (Below wB.heap.size wB wr) := HW.out.trans HK.out.2
    by_cases hlt : k < R.length
    · obtain ⟨bb, off, x, c, rfl, hb0, hc, hs⟩ := (HP.out wr HBr.out).cells k hlt
      have HS : Hid (l ++ Pl.pathsB word.data.toList (R.take (k + 1)) = (l ++ Pl.pathsB word.data.toList (R.take k)) ++ Pl.lineB word.data.toList (Ln.quoP (Pl.printP (R[k]'hlt)).1).data.toList) := by unfold Hid; rw [Pl.pathsB_snoc _ _ _ hlt, List.append_assoc]
      have hpz := Pl.printP_size (R[k]'hlt)
      have hlk := HL.out k hk
      have hsl := hs.len
      generalize R[k]'hlt = p at *
      generalize hO : l ++ Pl.pathsB word.data.toList (R.take k) = O at *
      have hOl : O.length ≤ 105000000 := by rw [← hO]; simp; omega
      clear hO hlk
      have i1 : (k : Int) < (R.length : Int) := by omega
      have H1 := print_any x c p wr hs
      go_wp2_with fail
      refine H1.mono ?_
      rintro e w1 ⟨rfl, hb1⟩
      have hb1' : Below wB.heap.size wr w1 := hb1.mono HBr.out.size
      have HB1 : Hid (Below wB.heap.size wB w1 ∧ Below wB.heap.size w w1 ∧ Bd w1 wB.heap.size b O) := ⟨HBr.out.trans hb1', HK.out.2.trans hb1', HK.out.1.under hb1⟩
      clear hb1 hb1' H1
      have hqz := Pl.quoP_size (Pl.printP p).1
      generalize (Pl.printP p).1 = text at *
      generalize (Pl.printP p).2 = code at *
      have H2 := quote_any text w1 (HT.out w1 HB1.out.1).tabs (by omega)
      go_wp2_with fail
      refine H2.mono ?_
      rintro e w2 ⟨rfl, hb2⟩
      have hb2' : Below wB.heap.size w1 w2 := hb2.mono HB1.out.1.size
      have HB2 : Hid (Below wB.heap.size wB w2 ∧ Below wB.heap.size w w2 ∧ Bd w2 wB.heap.size b O) := ⟨HB1.out.1.trans hb2', HB1.out.2.1.trans hb2', HB1.out.2.2.under hb2⟩
      clear hb2 hb2' H2
      generalize Ln.quoP text = qt at *
      have H3 := printLine_any wB.heap.size b O word qt w2 HB2.out.2.2 (by omega)
      go_wp2_with fail
      refine H3.mono ?_
      rintro e w3 ⟨rfl, hd3, hb3⟩
      have HB3 : Hid (Bd w3 wB.heap.size b (l ++ Pl.pathsB word.data.toList (R.take (k + 1))) ∧ Below wB.heap.size w w3) := ⟨by rw [HS.out]; exact hd3, HB2.out.2.1.trans hb3⟩
      clear hd3 hb3 H3
      go_wp2_with fail
      go_roundw
      case rel => exact ⟨k + 1, by omega, by go_num, HB3⟩
      case measure => simp [intOf]; omega
    · have e : R.take k = R := List.take_of_length_le (by omega)
      rw [e] at HK
      clear e
      have i1 : ¬ (k : Int) < (R.length : Int) := by omega
      go_wp2_with fail
      go_end0
      exact ⟨rfl, HK.out.1, HK.out.2⟩
end Go.Proofs.YtcloljkaojnipaaGreatDoor
namespace Go.Proofs.YtcloljkaojnipaaGreatDoor
open Go.RowKit

namespace Pl
theorem nDigits_pow : ∀ (k n : Nat), 0 < k → n < 10 ^ k → Lib.nDigits n ≤ k
  | 0, n, h, _ => absurd h (by omega)
  | k + 1, n, _, h => by
    by_cases hn : n < 10
    · rw [Lib.nDigits_small hn]; omega
    · rw [Lib.nDigits_big hn]
      have h1 : n / 10 < 10 ^ k := by
        rw [Nat.pow_succ] at h
        omega
      have hk : 0 < k := by
        rcases Nat.eq_zero_or_pos k with e | e
        · subst e; simp at h1; omega
        · exact e
      have := nDigits_pow k (n / 10) hk h1
      omega
theorem dec_len (n : Nat) (h : n ≤ 4294967296) : (Lib.decDigits n).length ≤ 12 := by
  rw [Lib.decDigits_length]
  exact nDigits_pow 12 n (by omega) (by omega)
/-- The lines of the first so many numbers. -/
def numK (q : Nat → Nat) : Nat → List UInt8
  | 0 => []
  | k + 1 => numK q k ++ lineB (wordL k) (Lib.decDigits (q k))
theorem numK_len (q : Nat → Nat) (h : ∀ i, q i ≤ 4294967296) : ∀ k, k ≤ 4 → (numK q k).length ≤ k * 30
  | 0, _ => by simp [numK]
  | k + 1, hk => by
    have h1 := numK_len q h k (by omega)
    have h2 := dec_len (q k) (h k)
    have h3 : ∀ j, j < 4 → (wordL j).length ≤ 6 := by decide
    have h4 := h3 k (by omega)
    rw [numK, List.length_append, lineB_len]
    omega
def polB (cR cW : List (List ByteArray)) (q : Nat → Nat) : List UInt8 := pathsB readL cR ++ pathsB writeL cW ++ numK q 4
def q4 (f m o e : Nat) : Nat → Nat
  | 0 => f
  | 1 => m
  | 2 => o
  | _ => e
end Pl
theorem bd_new (w : World) : Bd (w.alloc (.cells #[.pointer none, .slice none 0 0] 76)) w.heap.size w.heap.size [] := by
  refine ⟨.inl ⟨Nat.le_refl _, .slice none 0 0, heap_alloc_new w _, World.ownsRowF_nil _ _ _ _, by simp [Value.ownBlock]⟩, by simp⟩

set_option maxRecDepth 100000 in
set_option maxHeartbeats 1000000 in
theorem pprint_no (ar aw : Option Addr) (cr cw : Nat) (R W : List (List ByteArray)) (f m o e : Int) (w : World) (hr : Pts w ar cr R) (hw : Pts w aw cw W) (hc : Pl.polC R W f m o e = 50) :
    Calls Tryz.prog 25 #[.agg #[.slice ar R.length cr, .slice aw W.length cw, .int .i64 f, .int .i64 m, .int .i64 o, .int .i64 e]] w fun x w' => x = .returned (.tuple #[.string ⟨#[]⟩, .int .i64 50]) ∧ Below w.heap.size w w' := by
  obtain ⟨wa, hwa⟩ : ∃ wa, wa = w.alloc (.cells #[.slice ar R.length cr, .slice aw W.length cw, .int .i64 f, .int .i64 m, .int .i64 o, .int .i64 e] 24) := ⟨_, rfl⟩
  have hB : Below w.heap.size w wa := by rw [hwa]; exact (Below.refl _ _).alloc (Nat.le_refl _) _
  have HB : Hid (Below w.heap.size w wa) := hB
  have hx : wa.heap[w.heap.size]? = some (polO (.slice ar R.length cr) (.slice aw W.length cw) f m o e) := by rw [hwa]; exact heap_alloc_new _ _
  have HW : Hid (wa = w.alloc (.cells #[.slice ar R.length cr, .slice aw W.length cw, .int .i64 f, .int .i64 m, .int .i64 o, .int .i64 e] 24)) := hwa
  have H1 := pnormal_no ar aw cr cw R W f m o e wa (hr.below hB) (hw.below hB) hc
  have HX : Hid (wa.heap[w.heap.size]? = some (polO (.slice ar R.length cr) (.slice aw W.length cw) f m o e)) := hx
  have hlr := hr.len
  have hlw := hw.len
  clear hwa hx hB hr hw hc
  go_enter Tryz.func25, Tryz.ntmps25
  go_wp2_with fail
  rw [← HW.out]
  refine H1.mono ?_
  rintro x w1 ⟨rfl, hb1⟩
  have x1 := (hb1.block _ (lt_of_block HX.out)).trans HX.out
  have p0 : w1.cell? ⟨w.heap.size, 0, none⟩ = some (.slice ar R.length cr) := by simp only [World.cell?, x1]; rfl
  have p1 : w1.cell? ⟨w.heap.size, 1, none⟩ = some (.slice aw W.length cw) := by simp only [World.cell?, x1]; rfl
  have p2 : w1.cell? ⟨w.heap.size, 2, none⟩ = some (.int .i64 f) := by simp only [World.cell?, x1]; rfl
  have p3 : w1.cell? ⟨w.heap.size, 3, none⟩ = some (.int .i64 m) := by simp only [World.cell?, x1]; rfl
  have p4 : w1.cell? ⟨w.heap.size, 4, none⟩ = some (.int .i64 o) := by simp only [World.cell?, x1]; rfl
  have p5 : w1.cell? ⟨w.heap.size, 5, none⟩ = some (.int .i64 e) := by simp only [World.cell?, x1]; rfl
  have f0 : ∀ j, w1.frozen? ⟨w.heap.size, j, none⟩ = false := fun j => frozen_of_row w1 _ j _ _ x1
  have HX1 : Hid (w1.heap[w.heap.size]? = some (polO (.slice ar R.length cr) (.slice aw W.length cw) f m o e)) := x1
  have HB1 : Hid (Below w.heap.size w w1) := HB.out.trans (hb1.mono HB.out.size)
  clear x1 hb1
  go_wp2_with fail
  go_ret2
  obtain ⟨_, y1⟩ := put6_at HX1.out (.slice none 0 0) (.slice none 0 0) (.int .i64 0) (.int .i64 0) (.int .i64 0) (.int .i64 0)
  exact ⟨rfl, HB1.out.trans (y1.below HB1.out.size (fun k e => by omega))⟩
end Go.Proofs.YtcloljkaojnipaaGreatDoor
namespace Go.Proofs.YtcloljkaojnipaaGreatDoor
namespace Pl
def samL : List UInt8 := [114, 101, 97, 100, 32, 34, 47, 97, 34, 10, 114, 101, 97, 100, 32, 34, 47, 97, 47, 98, 34, 10, 119, 114, 105, 116, 101, 32, 34, 47, 116, 109, 112, 34, 10, 102, 117, 101, 108, 32, 49, 48, 48, 10]
def pA : List ByteArray := [⟨#[97]⟩]
def pAB : List ByteArray := [⟨#[97]⟩, ⟨#[98]⟩]
def pT : List ByteArray := [⟨#[116, 109, 112]⟩]
def pAC : List ByteArray := [⟨#[97]⟩, ⟨#[99]⟩]
def samB : Bool := match parF S0 0 (Ln.splB ⟨samL.toArray⟩) with
  | .inr S => decide (S.R = [pA, pAB]) && (decide (S.W = [pT]) && (S.q 0 == 100 && (S.q 1 == 0 && (S.q 2 == 0 && S.q 3 == 0))))
  | .inl _ => false
theorem samB_yes : samB = true := by decide +kernel
theorem sam_parse : ∃ S, parF S0 0 (Ln.splB ⟨samL.toArray⟩) = .inr S ∧ S.R = [pA, pAB] ∧ S.W = [pT] ∧ S.q 0 = 100 ∧ S.q 1 = 0 ∧ S.q 2 = 0 ∧ S.q 3 = 0 := by
  have h := samB_yes
  unfold samB at h
  cases hp : parF S0 0 (Ln.splB ⟨samL.toArray⟩) with
  | inl x => rw [hp] at h; cases h
  | inr S =>
    rw [hp] at h
    simp only [Bool.and_eq_true, decide_eq_true_eq, beq_iff_eq] at h
    exact ⟨S, rfl, h.1, h.2.1, h.2.2.1, h.2.2.2.1, h.2.2.2.2.1, h.2.2.2.2.2⟩
theorem sam_right : polC [pA, pAB] [pT] 100 0 0 0 = 0 := by
  have h1 : rightsP [pA, pAB] = true := by decide +kernel
  have h2 : rightsP [pT] = true := by decide +kernel
  unfold polC okN
  rw [if_pos ⟨h1, h2, by omega, by omega, by omega, by omega⟩]
theorem sam_covR : Cov [pA, pAB] [pA] := cov_pass (t := [pA]) (x := pAB) (last := pA) cov_first (fun y hy => by
  have : y = pA := by simpa using hy
  subst this
  exact (show In pAB pA from ⟨[⟨#[98]⟩], rfl⟩).cmp) (by simp) ⟨[⟨#[98]⟩], rfl⟩
theorem sam_covW : Cov [pT] [pT] := cov_first
def outL : List UInt8 := [114, 101, 97, 100, 32, 34, 47, 97, 34, 10, 119, 114, 105, 116, 101, 32, 34, 47, 116, 109, 112, 34, 10, 102, 117, 101, 108, 32, 49, 48, 48, 10, 109, 101, 109, 111, 114, 121, 32, 48, 10, 111, 117, 116, 112, 117, 116, 32, 48, 10, 101, 97, 99, 104, 32, 48, 10]
theorem dec0 : Lib.decDigits 0 = [48] := Lib.decDigits_one (by omega)
theorem dec100 : Lib.decDigits 100 = [49, 48, 48] := by
  rw [Lib.decDigits, dif_neg (by omega), show 100 / 10 = 10 from rfl, Lib.decDigits_two (by omega) (by omega)]
  rfl
theorem sam_text : polB [pA] [pT] (q4 100 0 0 0) = outL := by
  have h1 : pathsB readL [pA] ++ pathsB writeL [pT] = outL.take 23 := by decide +kernel
  have h2 : numK (q4 100 0 0 0) 4 = outL.drop 23 := by
    simp only [numK, q4, dec0, dec100]
    decide +kernel
  unfold polB
  rw [h1, h2, List.take_append_drop]
theorem sam_may : mayP [pA, pAB] [pT] 100 0 0 0 false pAC = true := by
  have h1 : rightP pAC = true := by decide +kernel
  have h2 : insideB [pA, pAB] pAC = true := by decide +kernel
  unfold mayP
  rw [sam_right, h1, h2]; rfl
theorem sam_not : mayP [pA, pAB] [pT] 100 0 0 0 true pAC = false := by
  have h2 : insideB [pT] pAC = false := by decide +kernel
  unfold mayP
  simp [h2]
end Pl
end Go.Proofs.YtcloljkaojnipaaGreatDoor
