/- Rows of what trees list: a path, a kind and a size each; a tree's list, plain. What trees.find answers; a right tree's files have rising names; the first file of a name, by its place. What trees.look answers in a right tree: the same as the reference's find. -/
import Derived.Test.YtfbhofomcenabaaGreatDoorTC
import Derived.Test.YtfbhofomcenabaaGreatDoorTE
import Derived.Deep.DeepCutAuto
namespace Go.Proofs.YtfbhofomcenabaaGreatDoor
open Go.RowKit

namespace Ft
abbrev Kp := List ByteArray × Nat × Nat
/-- All files below one, each behind its folder. -/
def listT (T : FT) (p : List ByteArray) : List Kp := match T with
  | .mk _ _ _ l => listL l p
where
  listL : List FT → List ByteArray → List Kp
  | [], _ => []
  | x :: r, p => ((p ++ [x.nm], x.k, x.d.size) :: listT x (p ++ [x.nm])) ++ listL r p
theorem listT_eq (T : FT) (p : List ByteArray) : listT T p = listT.listL T.kids p := by cases T; rw [listT]; rfl
theorem listL_app : ∀ (l m : List FT) (p : List ByteArray), listT.listL (l ++ m) p = listT.listL l p ++ listT.listL m p
  | [], m, p => by simp [listT.listL]
  | x :: r, m, p => by
    rw [List.cons_append, listT.listL, listL_app r m p, listT.listL]
    simp
theorem listL_one (x : FT) (p : List ByteArray) : listT.listL [x] p = (p ++ [x.nm], x.k, x.d.size) :: listT x (p ++ [x.nm]) := by simp [listT.listL]
theorem listL_take {l : List FT} {i : Nat} (h : i < l.length) (p : List ByteArray) : listT.listL (l.take (i + 1)) p = (listT.listL (l.take i) p ++ [(p ++ [(l[i]).nm], (l[i]).k, (l[i]).d.size)]) ++ listT (l[i]) (p ++ [(l[i]).nm]) := by
  rw [List.take_succ_eq_append_getElem h, listL_app, listL_one]
  simp
theorem listL_len {l : List FT} {i : Nat} (_h : i < l.length) (p : List ByteArray) : (listT.listL (l.take (i + 1)) p).length ≤ (listT.listL l p).length := by
  conv => rhs; rw [← List.take_append_drop (i + 1) l]
  rw [listL_app, List.length_append]
  omega
/-- Nothing is wrong below a file just if nothing is wrong with each of its files, and below them. -/
theorem bel_at {l : List FT} {p : List ByteArray} (h : belT.belL none l p = none) : ∀ i, i ≤ l.length → belT.belL (ahead l i) (l.drop i) p = none
  | 0, _ => by simpa [ahead] using h
  | i + 1, hi => by
    have ih := bel_at h i (by omega)
    rw [bel_drop (by omega) p] at ih
    split at ih
    · cases ih
    · split at ih
      · cases ih
      · exact ih
theorem bel_kid {T : FT} {p : List ByteArray} (h : belT T p = none) {i : Nat} (hi : i < T.kids.length) : p.length + 1 ≤ 64 ∧ belT (T.kids[i]) (p ++ [(T.kids[i]).nm]) = none := by
  rw [belT_eq] at h
  have ih := bel_at h i (by omega)
  rw [bel_drop hi p] at ih
  split at ih
  · cases ih
  · rename_i hb
    refine ⟨?_, ?_⟩
    · simp [badB] at hb
      omega
    · split at ih
      · cases ih
      · assumption

/-- An element's three cells. -/
def kpL (y : Kp × Option Addr × Nat) : List Value := [.slice y.2.1 y.1.1.length y.2.2, .int .u8 (y.1.2.1 : Int), .int .i64 (y.1.2.2 : Int)]
def kcells (L : List (Kp × Option Addr × Nat)) : List Value := L.flatMap kpL
theorem kcells_len (L : List (Kp × Option Addr × Nat)) : (kcells L).length = L.length * 3 := by
  induction L with
  | nil => rfl
  | cons x r ih => simp only [kcells, List.flatMap_cons, List.length_append, List.length_cons] at ih ⊢; rw [ih]; simp [kpL]; omega
theorem kcells_app (L M : List (Kp × Option Addr × Nat)) : kcells (L ++ M) = kcells L ++ kcells M := by simp [kcells]
theorem kcells_one (L : List (Kp × Option Addr × Nat)) : ∀ u ∈ kcells L, u.oneCell' = true := by
  intro u hu
  obtain ⟨y, _, hy⟩ := List.mem_flatMap.1 hu
  simp only [kpL, List.mem_cons, List.not_mem_nil, or_false] at hy
  rcases hy with rfl | rfl | rfl <;> rfl
theorem kcells_at : ∀ (L : List (Kp × Option Addr × Nat)) (i : Nat) (h : i < L.length) (j : Nat), j < 3 → (kcells L)[i * 3 + j]? = (kpL (L[i]))[j]?
  | [], i, h, _, _ => absurd h (by simp)
  | x :: r, 0, _, j, hj => by
    simp only [kcells, List.flatMap_cons, Nat.zero_mul, Nat.zero_add, List.getElem_cons_zero]
    rw [List.getElem?_append_left (by simp [kpL]; omega)]
  | x :: r, i + 1, h, j, hj => by
    have ih := kcells_at r i (by simpa using h) j hj
    simp only [kcells, List.flatMap_cons, List.getElem_cons_succ] at ih ⊢
    rw [List.getElem?_append_right (by simp [kpL]; omega), ← ih]
    congr 1
    simp [kpL]; omega
/-- A path lies from base on, off a row. -/
def Ofs (base : Nat) (row : Option Nat) (a : Option Addr) (p : List ByteArray) : Prop := p ≠ [] → ∀ ad, a = some ad → base ≤ ad.block ∧ some ad.block ≠ row
/-- A row of the call's own that reads as a list. -/
def KRow (w : World) (base : Nat) (v : Value) (l : List Kp) : Prop :=
  ∃ L : List (Kp × Option Addr × Nat), L.map (·.1) = l ∧ w.ownsRow base 47 3 v L.length (kcells L) ∧ ∀ y ∈ L, Strs w y.2.1 y.2.2 y.1.1 ∧ Ofs base v.ownBlock y.2.1 y.1.1
theorem KRow.empty (w : World) (base : Nat) : KRow w base (.slice none 0 0) [] := ⟨[], rfl, World.ownsRow_nil _ _ _ _, fun x h => absurd h (by simp)⟩
theorem KRow.below {w w' : World} {base : Nat} {v : Value} {l : List Kp} (h : KRow w base v l) (hb : Below w.heap.size w w') : KRow w' base v l := by
  obtain ⟨L, h1, h2, h3⟩ := h
  exact ⟨L, h1, own_below h2 hb, fun y hy => ⟨(h3 y hy).1.below hb, (h3 y hy).2⟩⟩
theorem KRow.base {w : World} {b b' : Nat} {v : Value} {l : List Kp} (h : KRow w b v l) (hb : b' ≤ b) : KRow w b' v l := by
  obtain ⟨L, h1, h2, h3⟩ := h
  exact ⟨L, h1, own_mono h2 hb, fun y hy => ⟨(h3 y hy).1, fun hl ad e => ⟨Nat.le_trans hb ((h3 y hy).2 hl ad e).1, ((h3 y hy).2 hl ad e).2⟩⟩⟩
theorem strs_lt {w : World} {x : Option Addr} {c : Nat} {l : List ByteArray} (h : Strs w x c l) (hl : l ≠ []) : ∀ ad, x = some ad → ad.block < w.heap.size := fun ad e => by
  obtain ⟨b, off, e2, hlt, _⟩ := h.cells 0 (List.length_pos_iff.2 hl)
  rw [e] at e2
  cases e2
  exact hlt
theorem strs_grown {w w' : World} {x : Option Addr} {c : Nat} {l : List ByteArray} {row : Option Nat} (h : Strs w x c l) (hg : w.grownBy w' row) (hne : l ≠ [] → ∀ ad, x = some ad → some ad.block ≠ row) : Strs w' x c l := by
  by_cases hl : l = []
  · subst hl
    exact ⟨h.len, h.nil, h.room, h.most, fun i hi => absurd hi (by simp), fun i hi => absurd hi (by simp)⟩
  · exact h.grown hg (hne hl)
/-- Elements put behind a row. -/
theorem krow_app {w w' : World} {base m : Nat} {v v' : Value} {L M : List (Kp × Option Addr × Nat)} (he : ∀ y ∈ L, Strs w y.2.1 y.2.2 y.1.1 ∧ Ofs base v.ownBlock y.2.1 y.1.1) (hx : ∀ y ∈ M, Strs w y.2.1 y.2.2 y.1.1 ∧ Ofs base v.ownBlock y.2.1 y.1.1)
    (own' : w'.ownsRow base 47 3 v' (L.length + M.length) (kcells L ++ kcells M)) (hgr : w.grownBy w' v.ownBlock) (hat : v'.ownBlock = v.ownBlock ∨ v'.ownBlock = some m) (hm : w.heap.size ≤ m) : KRow w' base v' (L.map (·.1) ++ M.map (·.1)) := by
  refine ⟨L ++ M, by simp, by rw [kcells_app, List.length_append]; exact own', fun y hy => ?_⟩
  have hk : Strs w y.2.1 y.2.2 y.1.1 ∧ Ofs base v.ownBlock y.2.1 y.1.1 := by
    rcases List.mem_append.1 hy with h | h
    · exact he y h
    · exact hx y h
  refine ⟨strs_grown hk.1 hgr (fun hl ad e => (hk.2 hl ad e).2), fun hl ad e => ⟨(hk.2 hl ad e).1, ?_⟩⟩
  rcases hat with q | q
  · rw [q]; exact (hk.2 hl ad e).2
  · rw [q]
    intro z
    have h1 := strs_lt hk.1 hl ad e
    have h2 := Option.some.inj z
    omega
end Ft
theorem Tryz.infoKept : (Tryz.prog.info? 47).map (fun i => (i.zero, i.size, i.bytes)) = some (some (.agg #[.slice none 0 0, .int .u8 0, .int .i64 0]), 3, 40) := by kernel_rfl
end Go.Proofs.YtfbhofomcenabaaGreatDoor
namespace Go.Proofs.YtfbhofomcenabaaGreatDoor
open Go.RowKit

namespace Ft
theorem less_irrefl : ∀ x : List UInt8, Op.bytesLess x x = false
  | [] => rfl
  | a :: x => by
    have h1 : decide (a < a) = false := decide_eq_false (UInt8.lt_irrefl a)
    have h2 : (a == a) = true := beq_self_eq_true a
    rw [Op.bytesLess, less_irrefl x, h1, h2]; rfl
theorem ne_less {V : FT} {x : ByteArray} (h : ltN V x = true) : (V.nm.toList == x.toList) = false := by
  rw [beq_eq_false_iff_ne]
  intro e
  unfold ltN at h
  rw [e, less_irrefl] at h
  cases h
theorem kid_skip {l : List FT} {x : ByteArray} {q : Nat} (hq : q ≤ l.length) (h : ∀ i (hi : i < l.length), i < q → ltN (l[i]) x = true) : ∀ k, k ≤ q → kidN l x = kidN (l.drop k) x
  | 0, _ => by rw [List.drop_zero]
  | k + 1, hk => by
    rw [kid_skip hq h k (by omega), kid_miss (by omega) (ne_less (h k (by omega) (by omega)))]
theorem kid_out {l : List FT} {x : ByteArray} : ∀ k, (∀ i (hi : i < l.length), k ≤ i → ((l[i]).nm.toList == x.toList) = false) → kidN (l.drop k) x = none := fun k h => by
  have key : ∀ (n k : Nat), l.length - k = n → (∀ i (hi : i < l.length), k ≤ i → ((l[i]).nm.toList == x.toList) = false) → kidN (l.drop k) x = none := by
    intro n
    induction n with
    | zero => intro k hn _; rw [List.drop_eq_nil_of_le (by omega)]; rfl
    | succ n ih => intro k hn h; rw [kid_miss (by omega) (h k (by omega) (Nat.le_refl _))]; exact ih (k + 1) (by omega) (fun i hi hk => h i hi (by omega))
  exact key _ k rfl h
/-- A file by its name is the file at its place. -/
theorem kid_pos {l : List FT} {x : ByteArray} {q : Nat} (hr : RisN l) (hp : PosN l x q) : kidN l x = if atN l x q = true then l[q]? else none := by
  obtain ⟨h0, h1, h2⟩ := hp
  rw [kid_skip h0 h1 q (Nat.le_refl _)]
  by_cases hq : q < l.length
  · have ha : atN l x q = ((l[q]).nm.toList == x.toList) := by unfold atN; rw [List.getElem?_eq_getElem hq]
    cases he : ((l[q]).nm.toList == x.toList)
    · rw [ha, he, if_neg (by simp)]
      refine kid_out q fun i hi hqi => ?_
      rcases Nat.lt_or_ge q i with g | g
      · rw [beq_eq_false_iff_ne]
        intro e
        have k1 := hr q i hq hi g
        have k2 := h2 q hq (Nat.le_refl _)
        unfold ltN at k1 k2
        rw [e, k2] at k1
        cases k1
      · obtain rfl : i = q := by omega
        exact he
    · rw [ha, he, if_pos rfl, List.getElem?_eq_getElem hq]
      exact kid_hit hq he
  · have ha : atN l x q = false := by unfold atN; rw [List.getElem?_eq_none (by omega)]
    rw [ha, if_neg (by simp)]
    exact kid_out q fun i hi hqi => absurd hi (by omega)
theorem bel_next {l : List FT} {p : List ByteArray} (h : belT.belL none l p = none) {i : Nat} (hi : i + 1 < l.length) : ltN (l[i]) (l[i + 1]).nm = true := by
  have ih := bel_at h (i + 1) (by omega)
  rw [bel_drop hi p] at ih
  split at ih
  · cases ih
  · rename_i hb
    have e : ahead l (i + 1) = some (l[i]).nm := by simp [ahead, show i < l.length by omega]
    rw [e] at hb
    simp [badB] at hb
    exact hb.1.1.2
theorem bel_ris {T : FT} {p : List ByteArray} (h : belT T p = none) : RisN T.kids := by
  rw [belT_eq] at h
  intro i j hi hj hij
  induction j with
  | zero => omega
  | succ j ih =>
    rcases Nat.lt_or_ge i j with q | q
    · exact less_trans _ _ _ (ih (by omega) q) (bel_next h hj)
    · obtain rfl : i = j := by omega
      exact bel_next h hj
end Ft

set_option maxRecDepth 100000 in
set_option maxHeartbeats 400000 in
theorem tfind_any (T : Ft.FT) (x : ByteArray) (a : Option Addr) (cap : Nat) (w : World) (hN : Ft.Fd w (· < w.heap.size) T a cap) (hr : Ft.RisN T.kids) :
    Calls Tryz.prog 90 #[.slice a T.kids.length cap, .string x] w fun e w' => ∃ q : Nat, e = .returned (.tuple #[.int .i64 (q : Int), .bool (Ft.atN T.kids x q)]) ∧ Ft.PosN T.kids x q ∧ Below w.heap.size w w' := by
  have C := bsf_any T x a cap w hN hr
  clear hN hr
  go_enter Tryz.func90, Tryz.ntmps90
  go_wp2_with fail
  refine C.mono ?_
  rintro e w1 ⟨q, rfl, hp, hb⟩
  have HP : Hid _ := hp
  have HB : Hid _ := hb
  clear hp hb C
  go_wp2_with fail
  go_ret2
  exact ⟨q, rfl, HP.out, HB.out⟩
end Go.Proofs.YtfbhofomcenabaaGreatDoor
namespace Go.Proofs.YtfbhofomcenabaaGreatDoor
open Go.RowKit

set_option maxRecDepth 100000 in
set_option maxHeartbeats 4000000 in
theorem tlook_any (T : Ft.FT) (p : List ByteArray) (a ap : Option Addr) (cap cp : Nat) (w : World) (hN : Ft.Fd w (· < w.heap.size) T a cap) (hP : Strs w ap cp p) (q0 : List ByteArray) (hb0 : Ft.belT T q0 = none) :
    Calls Tryz.prog 57 #[Ft.fdV T a cap, .slice ap p.length cp] w (Ft.FndE w (Ft.lookR T p)) := by
  obtain ⟨W, hW⟩ : ∃ W, W = (w.alloc (.cells (Ft.fdA T a cap) 25)).alloc (.cells #[.string ⟨#[]⟩, .int .u8 0, .string ⟨#[]⟩, .slice none 0 0] 25) := ⟨_, rfl⟩
  have hB : Below w.heap.size w W := by rw [hW]; exact ((Below.refl _ _).alloc (Nat.le_refl _) _).alloc (by simp) _
  have hF : Ft.FnAt w T a cap W := by
    refine ⟨?_, hN.under hB, ?_, hB⟩
    · rw [hW]; exact (Ft.file_new w T a cap).alloc _
    · rw [hW]
      have := Ft.file_zero (w.alloc (.cells (Ft.fdA T a cap) 25))
      simpa using this
  have HW : Hid (W = (w.alloc (.cells (Ft.fdA T a cap) 25)).alloc (.cells #[.string ⟨#[]⟩, .int .u8 0, .string ⟨#[]⟩, .slice none 0 0] 25)) := hW
  have HF : Hid (Ft.FnAt w T a cap W) := hF
  have HP : Hid (Strs w ap cp p) := hP
  have HQ0 : Hid (∃ q, Ft.belT T q = none) := ⟨q0, hb0⟩
  have hpl := hP.len
  have hTl := hN.room.1
  clear hW hB hF hN hP hb0
  simp only [Ft.fdA] at HW
  simp only [Ft.fdV, Ft.fdA]
  go_enter Tryz.func57, Tryz.ntmps57
  go_upto_region 1 with fail
  rw [← HW.out]
  clear HW
  go_wp2_with fail
  go_loopw [12] (fun iv wr => ∃ (k : Nat) (U : Ft.FT) (b : Option Addr) (c : Nat), k ≤ p.length ∧ iv = .int .i64 (k : Int) ∧ Hid (Ft.FnAt w U b c wr) ∧ Hid (Ft.lookR T p = Ft.lookR U (p.drop k)) ∧ Hid (∃ q, Ft.belT U q = none)) (fun iv _ => p.length - (intOf iv).toNat)
  case atStart => exact ⟨0, T, a, cap, Nat.zero_le _, rfl, HF, rfl, HQ0⟩
  case round =>
    clear HF HQ0
    obtain ⟨k, U, b, c, hk, rfl, HF, HL, HQ⟩ := hrel
    obtain ⟨u0, u1, u2, u3⟩ := HF.out.1.four
    have uf := HF.out.1.frozen
    have z0 : wr.cell? ⟨w.heap.size + 1, 0, none⟩ = some (.string ⟨#[]⟩) := HF.out.2.2.1.four.c0
    have z1 : wr.cell? ⟨w.heap.size + 1, 1, none⟩ = some (.int .u8 0) := HF.out.2.2.1.four.c1
    have z2 : wr.cell? ⟨w.heap.size + 1, 2, none⟩ = some (.string ⟨#[]⟩) := HF.out.2.2.1.four.c2
    have z3 : wr.cell? ⟨w.heap.size + 1, 3, none⟩ = some (.slice none 0 0) := HF.out.2.2.1.four.c3
    have zf := HF.out.2.2.1.frozen
    have hsz := HF.out.2.2.2.size
    have hsz2 : w.heap.size + 1 < wr.heap.size := HF.out.2.2.1.lt
    have hUl := HF.out.2.1.room.1
    by_cases hlt : k < p.length
    · obtain ⟨bp, op, rfl, hbp, hcp⟩ := (HP.out.below HF.out.2.2.2).cells k hlt
      have i1 : (k : Int) < (p.length : Int) := by omega
      have HN0 : Hid (U.k ≠ 1 → Ft.lookR T p = .inl 32) := fun q => HL.out.trans (Ft.look_nodir hlt q)
      have HN1 : Hid (U.k = 1 → Ft.kidN U.kids (p[k]) = none → Ft.lookR T p = .inl 31) := fun q r => HL.out.trans (Ft.look_none hlt q r)
      have HN2 : Hid (∀ V, U.k = 1 → Ft.kidN U.kids (p[k]) = some V → Ft.lookR T p = Ft.lookR V (p.drop (k + 1))) := fun V q r => HL.out.trans (Ft.look_on hlt q r)
      clear HL
      generalize p[k] = x at *
      cases hd : ((U.k : Int) != 1)
      · have hd1 : U.k = 1 := by simp at hd; omega
        have HD1 : Hid (U.k = 1) := hd1
        clear hd1
        have HRs : Hid (Ft.RisN U.kids) := by
          obtain ⟨q, hq⟩ := HQ.out
          exact Ft.bel_ris hq
        have C := tfind_any U x b c wr (HF.out.2.1.mono (fun y (hy : y < w.heap.size) => by omega)) HRs.out
        clear z0 z1 z2 z3 zf
        go_wp2_with fail
        refine C.mono ?_
        rintro e w1 ⟨q, rfl, hp, b1⟩
        have HKp : Hid (Ft.kidN U.kids x = if Ft.atN U.kids x q = true then U.kids[q]? else none) := Ft.kid_pos HRs.out hp
        have HF1 : Hid (Ft.FnAt w U b c w1) := ⟨HF.out.1.under b1, HF.out.2.1.under (b1.mono hsz), HF.out.2.2.1.under b1, HF.out.2.2.2.trans (b1.mono hsz)⟩
        have hq0 := hp.1
        clear hp b1 C u0 u1 u2 u3 uf HF
        cases ha : Ft.atN U.kids x q
        · have HE : Hid (Ft.lookR T p = .inl 31) := HN1.out HD1.out (by rw [HKp.out, ha, if_neg (by simp)])
          have z0 : w1.cell? ⟨w.heap.size + 1, 0, none⟩ = some (.string ⟨#[]⟩) := HF1.out.2.2.1.four.c0
          have z1 : w1.cell? ⟨w.heap.size + 1, 1, none⟩ = some (.int .u8 0) := HF1.out.2.2.1.four.c1
          have z2 : w1.cell? ⟨w.heap.size + 1, 2, none⟩ = some (.string ⟨#[]⟩) := HF1.out.2.2.1.four.c2
          have z3 : w1.cell? ⟨w.heap.size + 1, 3, none⟩ = some (.slice none 0 0) := HF1.out.2.2.1.four.c3
          have zf := HF1.out.2.2.1.frozen
          clear HN0 HN1 HN2 HKp
          go_wp2_with fail
          have K := Ft.fn_end HF1.out (Ft.fd_zero w1 _)
          refine bodyPost_ret (Ft.results_fil rfl _ _ (w.heap.size + 1) Ft.zF none 0 rfl K.1) rfl ?_
          rw [HE.out]
          exact ⟨Ft.zF, none, 0, 31, rfl, ⟨⟨rfl, rfl⟩, K.2.1, K.2.2⟩⟩
        · have hql : q < U.kids.length := by
            rcases Nat.lt_or_ge q U.kids.length with g | g
            · exact g
            · unfold Ft.atN at ha; rw [List.getElem?_eq_none g] at ha; cases ha
          obtain ⟨bk, ok, a', c', rfl, hbk, h4, hsub⟩ := HF1.out.2.1.kid hql
          obtain ⟨r0, r1, r2, r3⟩ := h4
          have j1 : (q : Int) < (U.kids.length : Int) := by omega
          have HE : Hid (Ft.lookR T p = Ft.lookR (U.kids[q]) (p.drop (k + 1))) := HN2.out _ HD1.out (by rw [HKp.out, ha, if_pos rfl, List.getElem?_eq_getElem hql])
          have HQ2 : Hid (∃ y, Ft.belT (U.kids[q]) y = none) := by
            obtain ⟨y, hy⟩ := HQ.out
            exact ⟨_, (Ft.bel_kid hy hql).2⟩
          have hsl := hsub.room.1
          have HF2 : Hid (Ft.FnAt w (U.kids[q]) a' c' (Ft.putF w1 w.heap.size (U.kids[q]) a' c')) := HF1.out.put hsub
          have hne : bk ≠ w.heap.size := by omega
          obtain ⟨u0, u1, u2, u3⟩ := HF1.out.1.four
          have uf := HF1.out.1.frozen
          clear hsub HKp HN0 HN1 HN2 HQ HRs hbk
          generalize U.kids[q] = V at *
          go_wp2_with fail
          go_roundw
          case rel => exact ⟨k + 1, V, a', c', by omega, by go_num, HF2, HE, HQ2⟩
          case measure => simp [intOf]; omega
      · have HE : Hid (Ft.lookR T p = .inl 32) := HN0.out (by simp at hd; omega)
        clear HN0 HN1 HN2
        go_wp2_with fail
        have K := Ft.fn_end HF.out (Ft.fd_zero wr _)
        refine bodyPost_ret (Ft.results_fil rfl _ _ (w.heap.size + 1) Ft.zF none 0 rfl K.1) rfl ?_
        rw [HE.out]
        exact ⟨Ft.zF, none, 0, 32, rfl, ⟨⟨rfl, rfl⟩, K.2.1, K.2.2⟩⟩
    · have HE : Hid (Ft.lookR T p = .inr U) := HL.out.trans (Ft.look_end (by omega))
      have i1 : ¬ (k : Int) < (p.length : Int) := by omega
      go_wp2_with fail
      have K := Ft.fn_end HF.out HF.out.2.1
      refine bodyPost_ret (Ft.results_fil rfl _ _ (w.heap.size + 1) U b c rfl K.1) rfl ?_
      rw [HE.out]
      exact ⟨U, b, c, 0, rfl, ⟨⟨rfl, rfl⟩, K.2.1, K.2.2⟩⟩
end Go.Proofs.YtfbhofomcenabaaGreatDoor
