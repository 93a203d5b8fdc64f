/- A slice value that reads as a list of paths in a world, one of the call's own, and what keeps it so. -/
import Derived.Test.YtmbpebdceaihaacRefCopy
import Derived.Test.YtmbpebdceaihaacSame
import Derived.Test.YtmbpebdceaihaacPlainCov
import Derived.Test.YtmbpebdceaihaacAppWide
import Derived.Laws.OwnMore
namespace Go.Proofs.Ytmbpebdceaihaac
open Go.RowKit

/-- An address that no row shares, where something lies there. -/
def Off (x : Option Addr) (l : List ByteArray) (row : Option Nat) : Prop := l ≠ [] → ∀ ad, x = some ad → some ad.block ≠ row
theorem Strs.lt {w : World} {x : Option Addr} {c : Nat} {l : List ByteArray} (h : Strs w x c l) (hl : l ≠ []) : ∀ ad, x = some ad → ad.block < w.heap.size := fun ad e => by
  obtain ⟨b, off, e', hb, _⟩ := h.cells 0 (List.length_pos_iff.2 hl)
  rw [e] at e'
  cases e'
  exact hb
theorem Strs.off {w : World} {x : Option Addr} {c m : Nat} {l : List ByteArray} (h : Strs w x c l) (hm : w.heap.size ≤ m) : Off x l (some m) := fun hl ad e q => by
  have := h.lt hl ad e
  have := Option.some.inj q
  omega
theorem Strs.grownO {w w' : World} {x : Option Addr} {c : Nat} {l : List ByteArray} {row : Option Nat} (h : Strs w x c l) (hg : w.grownBy w' row) (hne : Off x l row) : Strs w' x c l := by
  by_cases hl : l = []
  · subst hl
    exact ⟨h.len, h.nil, h.room, h.most, h.size, fun i hi => absurd hi (by simp)⟩
  · exact h.grown hg (hne hl)

/-- The slice at address a, of capacity cap, reads in w as the paths l. -/
structure Pts (w : World) (a : Option Addr) (cap : Nat) (l : List (List ByteArray)) : Prop where
  len : l.length ≤ 5864062014806
  nil : a = none → cap = 0
  room : l.length ≤ cap
  most : cap ≤ maxLen
  cells : ∀ i (h : i < l.length), ∃ b off x c, a = some ⟨b, off, none⟩ ∧ b < w.heap.size ∧ w.cell? ⟨b, off + i, none⟩ = some (.slice x (l[i]'h).length c) ∧ Strs w x c (l[i]'h)
theorem Pts.below {w w' : World} {a : Option Addr} {cap : Nat} {l : List (List ByteArray)} (h : Pts w a cap l) (hb : Below w.heap.size w w') : Pts w' a cap l := by
  refine ⟨h.len, h.nil, h.room, h.most, fun i hi => ?_⟩
  obtain ⟨b, off, x, c, e, hlt, hc, hs⟩ := h.cells i hi
  exact ⟨b, off, x, c, e, Nat.lt_of_lt_of_le hlt hb.size, (hb.cell (p := ⟨b, off + i, none⟩) hlt).trans hc, hs.below hb⟩
theorem Pts.empty (w : World) : Pts w none 0 [] := ⟨by simp, fun _ => rfl, Nat.le_refl _, Nat.zero_le _, fun i h => absurd h (by simp)⟩
theorem Pts.none {w : World} {cap : Nat} {l : List (List ByteArray)} (h : Pts w Option.none cap l) : l = [] ∧ cap = 0 := by
  refine ⟨?_, h.nil rfl⟩
  cases l with
  | nil => rfl
  | cons x r => obtain ⟨b, off, _, _, e, _⟩ := h.cells 0 (by simp); cases e

/-- The values xs read as the paths l, off a row. -/
def Elts (w : World) (row : Option Nat) (xs : List Value) (l : List (List ByteArray)) : Prop :=
  ∀ i (h : i < l.length), ∃ x c, xs[i]? = some (.slice x (l[i]'h).length c) ∧ Strs w x c (l[i]'h) ∧ Off x (l[i]'h) row
/-- A row of the call's own that reads as the paths l, none of which lies in it. -/
def PRow (w : World) (base : Nat) (v : Value) (l : List (List ByteArray)) : Prop := ∃ xs, w.ownsRow base 23 1 v l.length xs ∧ Elts w v.ownBlock xs l
theorem PRow.empty (w : World) (base : Nat) : PRow w base (.slice none 0 0) [] := ⟨[], World.ownsRow_nil _ _ _ _, fun i h => absurd h (by simp)⟩
theorem Elts.below {w w' : World} {row : Option Nat} {xs : List Value} {l : List (List ByteArray)} (h : Elts w row xs l) (hb : Below w.heap.size w w') : Elts w' row xs l := fun i hi => by
  obtain ⟨x, c, h1, h2, h3⟩ := h i hi
  exact ⟨x, c, h1, h2.below hb, h3⟩
theorem PRow.below {w w' : World} {base : Nat} {v : Value} {l : List (List ByteArray)} (h : PRow w base v l) (hb : Below w.heap.size w w') : PRow w' base v l := by
  obtain ⟨xs, h1, h2⟩ := h
  exact ⟨xs, own_below h1 hb, h2.below hb⟩
theorem PRow.pts {w : World} {base : Nat} {v : Value} {l : List (List ByteArray)} (h : PRow w base v l) (hl : l.length ≤ 5864062014806) : ∃ a cap, v = .slice a l.length cap ∧ Pts w a cap l := by
  obtain ⟨xs, h1, h2⟩ := h
  rcases h1.2 with ⟨hv, hn⟩ | ⟨g, cap, cur, hv, hb, hg, hcap, hmax, hsize, htake⟩
  · exact ⟨none, 0, by rw [hv, hn], hl, fun _ => rfl, by omega, Nat.zero_le _, fun i hi => absurd hi (by omega)⟩
  · refine ⟨some ⟨g, 0, none⟩, cap, hv, hl, fun h => (by cases h), hcap, hmax, fun i hi => ?_⟩
    obtain ⟨x, c, k1, k2, _⟩ := h2 i hi
    subst hv
    refine ⟨g, 0, x, c, rfl, lt_of_block hg, ?_, k2⟩
    rw [Nat.zero_add, h1.cellAt i (by omega), k1]
theorem own_base_p {w : World} {base base' : Nat} {e : TypeId} {size : Nat} {v : Value} {n : Nat} {xs : List Value} (h : w.ownsRow base e size v n xs) (hb : base' ≤ base) : w.ownsRow base' e size v n xs := by
  refine ⟨h.1, ?_⟩
  rcases h.2 with h2 | ⟨g, cap, cur, hv, hbg, r⟩
  · exact .inl h2
  · exact .inr ⟨g, cap, cur, hv, Nat.le_trans hb hbg, r⟩
theorem own_strs_ge {w : World} {base : Nat} {e : TypeId} {x : Option Addr} {c : Nat} {l : List ByteArray} (h : w.ownsRow base e 1 (.slice x l.length c) l.length (l.map Value.string)) (_ : l ≠ []) (ad : Addr) (hx : x = some ad) : base ≤ ad.block := by
  subst hx
  rcases h.2 with ⟨hv, _⟩ | ⟨g, cap, cur, hv, hb, _⟩
  · cases hv
  · cases hv; exact hb
/-- A path put behind a row of paths. -/
theorem prow_snoc {w w' : World} {base m : Nat} {v v' : Value} {l : List (List ByteArray)} {xs : List Value} {p : List ByteArray} {x : Option Addr} {c : Nat} {o : Obj} (ox : w.ownsRow base 23 1 v l.length xs) (he : Elts w v.ownBlock xs l)
    (hp : Strs w x c p) (hx : Off x p v.ownBlock) (own' : w'.ownsRow base 23 1 v' (l.length + 1) (xs ++ [.slice x p.length c])) (hgr : (w.alloc o).grownBy w' v.ownBlock) (hat : v'.ownBlock = v.ownBlock ∨ v'.ownBlock = some m) (hm : w.heap.size ≤ m) : PRow w' base v' (l ++ [p]) := by
  have hxl : xs.length = l.length := by simpa using ox.1
  refine ⟨xs ++ [.slice x p.length c], by rw [List.length_append]; exact own', fun i hi => ?_⟩
  have hoff : ∀ (y : Option Addr) (d : Nat) (q : List ByteArray), Strs w y d q → Off y q v.ownBlock → Off y q v'.ownBlock := fun y d q hs ho => by
    rcases hat with e | e
    · rw [e]; exact ho
    · rw [e]; exact hs.off hm
  by_cases h : i < l.length
  · obtain ⟨y, d, k1, k2, k3⟩ := he i h
    refine ⟨y, d, ?_, ?_, ?_⟩
    · rw [List.getElem?_append_left (by omega), k1, List.getElem_append_left h]
    · rw [List.getElem_append_left h]; exact (k2.below ((Below.refl _ _).alloc (Nat.le_refl _) o)).grownO hgr k3
    · rw [List.getElem_append_left h]; exact hoff y d _ k2 k3
  · have hi2 : i = l.length := by simp at hi; omega
    subst hi2
    refine ⟨x, c, ?_, ?_, ?_⟩
    · rw [List.getElem?_append_right (by omega), hxl]; simp
    · simpa using (hp.below ((Below.refl _ _).alloc (Nat.le_refl _) o)).grownO hgr hx
    · simpa using hoff x c p hp hx

theorem Try.infoPath : (Try.prog.info? 23).map (fun i => (i.zero, i.size, i.bytes)) = some (some (.slice none 0 0), 1, 24) := by kernel_rfl

set_option maxRecDepth 100000 in
set_option maxHeartbeats 1000000 in
theorem copies_any (a : Option Addr) (cap : Nat) (l : List (List ByteArray)) (w : World) (h : Pts w a cap l) :
    Calls Try.prog 5 #[.slice a l.length cap] w fun e w' => ∃ v, e = .returned v ∧ PRow w' w.heap.size v l ∧ Below w.heap.size w w' := by
  obtain ⟨i0, hi, hz0, hz1, hz2⟩ := info_parts Try.infoPath
  have hl := h.len
  go_enter Try.func5, Try.ntmps5
  go_wp2
  go_loopw [3, 4] (fun v i wr => ∃ k : Nat, k ≤ l.length ∧ i = .int .i64 k ∧ PRow wr w.heap.size v (l.take k) ∧ Below w.heap.size w wr) (fun _ i _ => l.length - (intOf i).toNat)
  case atStart => exact ⟨0, Nat.zero_le _, rfl, PRow.empty _ _, Below.refl _ _⟩
  case round =>
    obtain ⟨k, hk, rfl, hpr, hnx⟩ := hrel
    have hsz := hnx.size
    by_cases hlt : k < l.length
    · obtain ⟨b, off, x, c, rfl, hb, hc, hs⟩ := (h.below hnx).cells k hlt
      have HT : Hid (l.take (k + 1) = l.take k ++ [l[k]'hlt]) := List.take_succ_eq_append_getElem hlt
      have hkl : (l.take k).length + 1 ≤ 5864062014806 := by simp; omega
      have hxl := hs.len
      generalize l[k]'hlt = p at *
      generalize l.take k = t at *
      have i1 : (k : Int) < (l.length : Int) := by omega
      go_wp2_with fail
      refine (copy_any _ _ p _ hs).mono ?_
      rintro e w1 ⟨v1, rfl, hown, hb1⟩
      obtain ⟨x1, c1, rfl, s1⟩ := own_strs hown (by omega) hs.mem
      have hB1 := hnx.trans (hb1.mono hsz)
      have hs1 := hB1.size
      obtain ⟨xs, ox0, ex0⟩ := hpr
      have hoff : Off x1 p (Value.ownBlock _) := fun hp ad e q => by
        subst e
        have h1 := (own_strs_ge hown hp ad rfl)
        have h2 := (ox0.lt ad.block q.symm).2
        omega
      have ox := own_below ox0 hb1
      have ex := ex0.below hb1
      clear hown hb1 ox0 ex0
      go_wp2_with (at_builtin; refine wpList_append_far _ rfl _ _ 24 rfl w.heap.size 23 i0 (.slice none 0 0) 1 24 Try.underlying24 hi hz0 hz1 hz2 rfl (by decide) _ _ _ rfl (ox.alloc _) ⟨w1.heap.size, 0, none⟩ 1 1 [.slice x1 p.length c1] rfl rfl (cell_one_new _ _ _) ?c2 ?c3 ?c4 ?c5 ?_)
      case c2 => first | rfl | (intro u hu; simp at hu; subst hu; rfl)
      case c3 => unfold maxLen; omega
      case c4 => omega
      case c5 => simp; omega
      intro v3 w3 hown3 hgr3 _ hat3
      have hB3 : Below w.heap.size w w3 := (hB1.alloc hs1 _).grown hgr3 (by simp; omega) (fun g hg => (ox.lt g hg).1)
      have hpr3 := prow_snoc ox ex s1 hoff hown3 hgr3 hat3 (by simp)
      clear hgr3 hown3 hat3
      go_wp2
      go_roundw
      case rel => exact ⟨k + 1, by omega, by go_num, by rw [HT.out]; exact hpr3, hB3⟩
      case measure => simp [intOf]; omega
    · have e : l.take k = l := List.take_of_length_le (by omega)
      rw [e] at hpr
      have i1 : ¬ (k : Int) < (l.length : Int) := by omega
      go_wp2
      go_ret
      exact ⟨_, rfl, hpr, hnx⟩
end Go.Proofs.Ytmbpebdceaihaac
