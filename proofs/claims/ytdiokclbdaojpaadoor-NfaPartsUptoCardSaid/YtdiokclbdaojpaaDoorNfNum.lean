/- What the reference's numbered answers. -/
import Derived.Test.YtdiokclbdaojpaaDoorNfBare
import Derived.Test.YtdiokclbdaojpaaDoorNfM1
import Derived.Deep.AppendSrc
namespace Go.Proofs.YtdiokclbdaojpaaDoor
open Go.RowKit

theorem Tryd.infoInt : (Tryd.prog.info? 3).map (fun i => (i.zero, i.size, i.bytes)) = some (some (.int .i64 0), 1, 8) := by kernel_rfl

namespace Nt
def icellsN (l : List Nat) : List Value := l.map fun n : Nat => Value.int .i64 (n : Int)
/-- A slice that reads as a list of numbers. -/
def Opn (w : World) (v : Value) (l : List Nat) : Prop :=
  ∃ (a : Option Addr) (cap : Nat), v = .slice a l.length cap ∧ l.length ≤ cap ∧ cap ≤ maxLen ∧ (l = [] → a = none ∧ cap = 0) ∧ ∀ i (h : i < l.length), ∃ b off, a = some ⟨b, off, none⟩ ∧ b < w.heap.size ∧ w.cell? ⟨b, off + i, none⟩ = some (.int .i64 (l[i] : Nat))
theorem Opn.below {w w' : World} {v : Value} {l : List Nat} (h : Opn w v l) (hb : Below w.heap.size w w') : Opn w' v l := by
  obtain ⟨a, cap, h1, h2, h3, h4, h5⟩ := h
  refine ⟨a, cap, h1, h2, h3, h4, fun i hi => ?_⟩
  obtain ⟨b, off, e, hlt, hc⟩ := h5 i hi
  exact ⟨b, off, e, Nat.lt_of_lt_of_le hlt hb.size, (hb.cell (p := ⟨b, off + i, none⟩) hlt).trans hc⟩
theorem Opn.empty (w : World) : Opn w (.slice none 0 0) [] := ⟨none, 0, rfl, by simp, by simp, fun _ => ⟨rfl, rfl⟩, fun i h => absurd h (by simp)⟩
theorem Opn.row {w : World} {base : Nat} {v : Value} {l : List Nat} (hne : l ≠ []) (h : w.ownsRow base 3 1 v l.length (icellsN l)) : Opn w v l := by
  have h' := h
  rcases h.2 with ⟨hv, hz⟩ | ⟨g, cap, cur, hv, hb, hg, hcap, hmax, hsize, htake⟩
  · exact absurd (List.length_eq_zero_iff.1 hz) hne
  · refine ⟨some ⟨g, 0, none⟩, cap, hv, hcap, hmax, fun h => absurd h hne, fun i hi => ⟨g, 0, rfl, lt_of_block hg, ?_⟩⟩
    rw [hv] at h'
    have := h'.cellAt i (by simp; omega)
    rw [Nat.zero_add, this]
    simp [icellsN, hi]
theorem add_plain (b off j : Nat) : (⟨b, off, none⟩ : Addr).add j = ⟨b, off + j, none⟩ := by unfold Addr.add; split <;> simp_all
theorem one_new (w : World) (v : Value) (t : TypeId) : ∀ j u, [v][j]? = some u → (w.alloc (.cells #[v] t)).cell? ((⟨w.heap.size, 0, none⟩ : Addr).add j) = some u := by
  intro j u hu
  rw [add_at]
  match j, hu with
  | 0, hu => cases hu; exact cell_of_row _ _ _ _ _ _ (heap_alloc_new w _)
  | j + 1, hu => cases hu
theorem icells_one (l : List Nat) : ∀ u ∈ icellsN l, u.oneCell' = true := by
  intro u hu
  obtain ⟨_, _, rfl⟩ := List.mem_map.1 hu
  rfl
theorem icells_at (l : List Nat) (j : Nat) (h : j < l.length) : (icellsN l)[j]? = some (.int .i64 (l[j] : Nat)) := by
  rw [icellsN, List.getElem?_map, List.getElem?_eq_getElem h]; rfl
theorem icells_src {w : World} {l : List Nat} {b off : Nat} (h : ∀ i (h : i < l.length), w.cell? ⟨b, off + i, none⟩ = some (.int .i64 (l[i] : Nat))) : ∀ j u, (icellsN l)[j]? = some u → w.cell? ((⟨b, off, none⟩ : Addr).add j) = some u := by
  intro j u hu
  by_cases hj : j < l.length
  · rw [add_plain, h j hj, ← hu, icells_at l j hj]
  · rw [icellsN, List.getElem?_eq_none (by rw [List.length_map]; omega)] at hu; cases hu
theorem Opn.src {w : World} {a : Option Addr} {l : List Nat} (h5 : ∀ i (h : i < l.length), ∃ b off, a = some ⟨b, off, none⟩ ∧ b < w.heap.size ∧ w.cell? ⟨b, off + i, none⟩ = some (.int .i64 (l[i] : Nat))) (hl : 0 < l.length) :
    ∃ b off, a = some ⟨b, off, none⟩ ∧ b < w.heap.size ∧ ∀ i (h : i < l.length), w.cell? ⟨b, off + i, none⟩ = some (.int .i64 (l[i] : Nat)) := by
  obtain ⟨b, off, e, hb, _⟩ := h5 0 hl
  refine ⟨b, off, e, hb, fun i hi => ?_⟩
  obtain ⟨b', off', e', _, hc⟩ := h5 i hi
  rw [e] at e'
  cases e'
  exact hc
theorem room8 {n : Nat} (h : n ≤ 101) : (n + n / 4 + 192) * 8 ≤ 281474976710656 := by omega
theorem le_max {n : Nat} (h : n ≤ 101) : n ≤ maxLen := by unfold maxLen; omega
theorem bare_none {T : NT} (h : bareP T = false) (nx : Nat) (op : List Nat) : numP T nx op = none := by
  rw [numP_eq]
  rw [bareP] at h
  cases hf : fitP T
  · rfl
  · rw [hf] at h
    simp only [Bool.true_and, if_true] at h ⊢
    have h7 : T.k = 7 := by
      by_cases e : T.k = 7
      · exact e
      · have : (T.k != 7) = true := by simpa using e
        rw [this] at h; cases h
    have h6 : (T.k == 6) = false := by rw [h7]; rfl
    have h7' : (T.k == 7) = true := by rw [h7]; rfl
    have h7n : (T.k != 7) = false := by rw [h7]; rfl
    rw [h7n] at h
    rw [h6, h7']
    simp only [Bool.false_eq_true, if_false, if_true]
    have : (decide (1 ≤ T.gr) && (decide (T.gr ≤ 9) && (decide (T.gr < (nx : Int)) && !(op.contains T.gr.toNat)))) = false := by
      rw [← Bool.and_assoc]
      simp only [Bool.false_or] at h
      rw [h]; rfl
    rw [this]; rfl
theorem bare_fit {T : NT} (h : bareP T = true) : fitP T = true ∧ (T.k = 7 → 1 ≤ T.gr ∧ T.gr ≤ 9 ∧ T.kids = []) := by
  rw [bareP, Bool.and_eq_true] at h
  refine ⟨h.1, fun h7 => ?_⟩
  have h2 := h.2
  have h7n : (T.k != 7) = false := by rw [h7]; rfl
  rw [h7n] at h2
  simp only [Bool.false_or, Bool.and_eq_true, decide_eq_true_eq] at h2
  refine ⟨h2.1, h2.2, ?_⟩
  have h3 := h.1
  rw [fitP, h7] at h3
  simp only [Bool.and_eq_true] at h3
  have := h3.2.2.2.2.2
  simpa using this
end Nt

set_option maxRecDepth 100000 in
set_option maxHeartbeats 8000000 in
theorem numbered_any (T : Nt.NT) : ∀ (a : Option Addr) (cap : Nat) (nx : Nat) (v : Value) (l : List Nat) (w : World), Nt.Nd w (· < w.heap.size) T a cap → Nt.Opn w v l → l.length + 1 ≤ nx → nx ≤ 100 →
    Calls Tryd.prog 52 #[Nt.ndV T a cap, .int .i64 (nx : Nat), v] w fun e w' =>
      ((∃ nx', Nt.numP T nx l.reverse = some nx' ∧ e = .returned (.tuple #[.int .i64 (nx' : Nat), .bool true]) ∧ nx ≤ nx' ∧ nx' ≤ 100) ∨ (Nt.numP T nx l.reverse = none ∧ ∃ z, e = .returned (.tuple #[.int .i64 z, .bool false]))) ∧ Below w.heap.size w w' := by
  induction T using Nt.NT.ind with
  | h T ih =>
  intro a cap nx v l w hN hO hll hnx
  have IH : Hid _ := ih
  clear ih
  obtain ⟨i0, hi0, hz0, hz1, hz2⟩ := info_parts Tryd.infoInt
  have hlm := hN.room.1
  have HO : Hid _ := hO
  have HNE : Hid _ := Nt.numP_eq T nx l.reverse
  have N0 := Nt.node_new w T a cap
  have hB0 : Below w.heap.size w (w.alloc (.cells (Nt.ndA T a cap) 28)) := (Below.refl w.heap.size w).alloc (Nat.le_refl _) _
  have hs0 : (w.alloc (.cells (Nt.ndA T a cap) 28)).heap.size = w.heap.size + 1 := by simp
  have HBR : Hid (∀ w', Calls Tryd.prog 76 #[Nt.ndV T a cap] w' fun e w'' => e = .returned (.bool (Nt.bareP T)) ∧ Below w'.heap.size w' w'') := fun w' => bare_any T a cap w'
  simp only [Nt.ndV, Nt.ndA] at N0 hB0 hs0 HBR ⊢
  obtain ⟨W, hW⟩ : ∃ W, W = w.alloc (.cells #[.int .u8 (T.k : Int), .int .u64 (St.wd T.s 0 : Nat), .int .u64 (St.wd T.s 1 : Nat), .int .u64 (St.wd T.s 2 : Nat), .int .u64 (St.wd T.s 3 : Nat), .int .i64 T.mn, .int .i64 T.mx, .int .i64 T.gr, .slice a T.kids.length cap] 28) := ⟨_, rfl⟩
  rw [← hW] at N0 hB0 hs0
  have hN1 : Nt.Nd W (· < w.heap.size) T a cap := hN.under hB0
  have HN0 : Hid _ := N0
  have HN1 : Hid _ := hN1
  have HB0 : Hid _ := hB0
  obtain ⟨q0, q1, q2, q3, q4, q5, q6, q7, q8⟩ := N0.nine
  clear hO N0 hN1 hB0 hN
  cases hbare : Nt.bareP T
  · rw [hbare] at HBR
    have hnone : Hid (Nt.numP T nx l.reverse = none) := Nt.bare_none hbare _ _
    go_enter Tryd.func52, Tryd.ntmps52
    go_wp2_with (rw [← hW]; go_at_call 76; refine (HBR.out _).mono ?_; rintro e w1 ⟨rfl, hb1⟩)
    go_ret2
    exact ⟨.inr ⟨hnone.out, _, rfl⟩, HB0.out.trans (hb1.mono HB0.out.size)⟩
  rw [hbare] at HBR
  obtain ⟨hfit, h77⟩ := Nt.bare_fit hbare
  rw [hfit] at HNE
  simp only [if_true] at HNE
  have H77 : Hid _ := h77
  clear h77 hfit hbare
  by_cases h6 : T.k = 6
  · have k6 : ((T.k : Int) == 6) = true := by simp; omega
    have k7 : ((T.k : Int) == 7) = false := by simp; omega
    have k6n : (T.k == 6) = true := by simpa using h6
    rw [k6n] at HNE
    simp only [if_true] at HNE
    clear h6 k6n
    by_cases hg : T.gr = (nx : Int)
    · have HG : Hid _ := hg
      have hg' : (T.gr == (nx : Int)) = true := by simpa using hg
      have hg2 : (T.gr != (nx : Int)) = false := by simpa using hg
      clear hg
      by_cases h99 : nx ≤ 99
      · have hd99 : decide ((99 : Int) < (nx : Int)) = false := by simp; omega
        have hd98 : ((99 : Int) < (nx : Int)) = False := by simp; omega
        have HNE2 : Hid (Nt.numP T nx l.reverse = Nt.numP.numL T.kids (nx + 1) (l ++ [nx]).reverse) := by
          show _ = _
          rw [HNE.out, hg', decide_eq_true h99]
          simp
        clear HNE
        have HNE : Hid _ := HNE2.out
        clear HNE2
        obtain ⟨R, hR⟩ : ∃ R, Nt.numP.numL T.kids (nx + 1) (l ++ [nx]).reverse = R := ⟨_, rfl⟩
        rw [hR] at HNE
        have HR : Hid (Nt.numP.numL (T.kids.drop 0) (nx + 1) (l ++ [nx]).reverse = R) := hR
        clear hR
        have HGc : Hid (∀ wx : World, wx.cell? ⟨w.heap.size, 7, none⟩ = some (.int .i64 T.gr) → wx.cell? ⟨w.heap.size, 7, none⟩ = some (.int .i64 (nx : Int))) := fun wx h => by rw [h, HG.out]
        obtain ⟨oa, oc, rfl, oc1, oc2, oc3, oc4⟩ := HO.out
        have HC4 : Hid _ := oc4
        clear oc4
        have hb62 : Hid (((l.length + 1 : Nat) + (l.length + 1) / 4 + 192) * 8 ≤ 281474976710656) := Nt.room8 (by omega)
        rcases Nat.eq_zero_or_pos l.length with hl0 | hl0
        · obtain rfl : l = [] := List.length_eq_zero_iff.1 hl0
          obtain ⟨rfl, rfl⟩ := oc3 rfl
          have hnn : ∀ wx, (Builtin.append_ #[45, 45] 45 #[.slice none 0 0, .slice none 0 0]).run Tryd.prog wx = .ok (.slice none 0 0) wx := fun wx => by kernel_rfl
          go_enter Tryd.func52, Tryd.ntmps52
          go_wp2_with (first | (rw [← hW]; go_at_call 76; refine (HBR.out _).mono ?_; rintro e w1 ⟨rfl, hb1⟩; have hs1 := hb1.size; obtain ⟨p0, p1, p2, p3, p4, p5, p6, p7, p8⟩ := (Nt.NodeAt.under HN0.out hb1).nine) | (at_builtin; refine Nt.wpList_append_far _ rfl _ _ 45 rfl w1.heap.size 3 i0 (.int .i64 0) 1 8 Tryd.underlying45 hi0 hz0 hz1 hz2 rfl (by decide) _ _ _ rfl (World.ownsRow_nil _ _ _ _) ⟨w1.heap.size, 0, none⟩ 1 1 [.int .i64 T.gr] rfl ?c1 ?c2 ?c3 ?c4 ?c5 ?c6 ?_))
          case c1 => rfl
          case c2 => exact Nt.one_new _ _ _
          case c3 => exact fun u hu => by simp only [List.mem_singleton] at hu; subst hu; rfl
          case c4 => unfold maxLen; omega
          case c5 => omega
          case c6 => simp
          intro v3 w3 hown3 hgr3 _ _
          have hown3' : w3.ownsRow w1.heap.size 3 1 v3 ([] ++ [nx]).length (Nt.icellsN ([] ++ [nx])) := by
            have e : Nt.icellsN ([] ++ [nx]) = Nt.icellsN [] ++ [.int .i64 T.gr] := by rw [HG.out]; simp [Nt.icellsN]
            rw [e, List.length_append]
            exact hown3
          have HO1 : Hid _ := Nt.Opn.row (by simp) hown3'
          have hB3 : Below w1.heap.size w1 w3 := ((Below.refl _ _).alloc (Nat.le_refl _) _).grown hgr3 (by simp) (fun g hg => by cases hg)
          have HB2 : Hid (Below w.heap.size w w3) := HB0.out.trans ((hb1.trans (hB3.mono hb1.size)).mono HB0.out.size)
          have HN2 : Hid (Nt.Nd w3 (· < w.heap.size) T a cap) := HN1.out.under ((hb1.trans (hB3.mono hb1.size)).mono HB0.out.size)
          have q0' := (hB3.cell (p := ⟨w.heap.size, 0, none⟩) (by simp; omega)).trans p0
          have q8 := (hB3.cell (p := ⟨w.heap.size, 8, none⟩) (by simp; omega)).trans p8
          clear hown3 hown3' hgr3 hB3 hb1 p0 p1 p2 p3 p4 p5 p6 p7 p8 q0 q1 q2 q3 q4 q5 q6 q7 hnn
          go_wp2_with fail
          go_loopw [1, 63] (fun nv iv wr => ∃ (i ni : Nat), i ≤ T.kids.length ∧ iv = .int .i64 (i : Int) ∧ nv = .int .i64 (ni : Nat) ∧ Hid (Nt.numP.numL (T.kids.drop i) ni ([] ++ [nx]).reverse = R) ∧ Hid (nx + 1 ≤ ni) ∧ ni ≤ 100 ∧ Nt.Opn wr v3 ([] ++ [nx]) ∧ Nt.Nd wr (· < w.heap.size) T a cap ∧ Below w.heap.size w wr) (fun _ iv _ => T.kids.length - (intOf iv).toNat)
          case atStart => exact ⟨0, nx + 1, by omega, by simp, by simp, HR, Nat.le_refl _, by omega, HO1.out, HN2.out, HB2.out⟩
          case round =>
            clear HR HO1 HN2 HB2 q8
            obtain ⟨i, ni, hi, rfl, rfl, HC, Hle, hni, hO, ND, hB⟩ := hrel
            by_cases hlt : i < T.kids.length
            · have HD : Hid _ := Nt.numL_drop hlt ni ([] ++ [nx]).reverse
              have hsz := hB.size
              have HB : Hid _ := hB
              have HND : Hid _ := ND
              have HO3 : Hid _ := hO
              obtain ⟨b2, off2, a', cap', rfl, hbB, h9, hk⟩ := ND.kid hlt
              obtain ⟨r0, r1, r2, r3, r4, r5, r6, r7, r8⟩ := h9
              have K1 := Nt.node_new wr (T.kids[i]) a' cap'
              have hA : Below wr.heap.size wr (wr.alloc (.cells (Nt.ndA (T.kids[i]) a' cap') 28)) := (Below.refl _ _).alloc (Nat.le_refl _) _
              have hsA : (wr.alloc (.cells (Nt.ndA (T.kids[i]) a' cap') 28)).heap.size = wr.heap.size + 1 := by simp
              have HLL : Hid (([] ++ [nx]).length + 1 ≤ ni) := by
                show _ ≤ _
                have h1 := Hle.out
                have h2 : ([] ++ [nx]).length ≤ 1 := by simp
                omega
              have HI : Hid _ := IH.out i hlt a' cap' ni v3 ([] ++ [nx]) (wr.alloc (.cells (Nt.ndA (T.kids[i]) a' cap') 28)) (hk.same (fun b (h : b < _) => hA.block b (by omega)) (fun b (h : b < _) => by omega)) (Nt.Opn.below hO hA) HLL.out hni
              simp only [Nt.ndV, Nt.ndA] at K1 hA hsA HI
              obtain ⟨k0, k1, k2, k3, k4, k5, k6, k7, k8⟩ := K1.nine
              have HA : Hid _ := hA
              clear hk K1 hA IH hO ND hB
              go_wp2_with fail
              refine Calls.mono HI.out ?_
              rintro x w2 ⟨⟨n2, hn2, rfl, hle2, hlt2⟩ | ⟨hn2, z, rfl⟩, hb2⟩
              · have HC2 : Hid (Nt.numP.numL (T.kids.drop (i + 1)) n2 ([] ++ [nx]).reverse = R) := by
                  show _ = _
                  rw [← HC.out, HD.out, hn2]
                have hB2 : Below wr.heap.size wr w2 := HA.out.trans (hb2.mono HA.out.size)
                clear HI k0 k1 k2 k3 k4 k5 k6 k7 k8 r0 r1 r2 r3 r4 r5 r6 r7 r8
                go_wp2_with fail
                refine ⟨⟨i + 1, n2, by omega, by simp, rfl, HC2, Nat.le_trans Hle.out hle2, hlt2, Nt.Opn.below HO3.out hB2, HND.out.under (hB2.mono hsz), HB.out.trans (hB2.mono hsz)⟩, ?_⟩
                simp only [intOf]
                omega
              · have hre : R = none := by rw [← HC.out, HD.out, hn2]
                have hB2 : Below wr.heap.size wr w2 := HA.out.trans (hb2.mono HA.out.size)
                clear HI k0 k1 k2 k3 k4 k5 k6 k7 k8 r0 r1 r2 r3 r4 r5 r6 r7 r8
                go_wp2_with fail
                go_ret2
                exact ⟨.inr ⟨by rw [HNE.out, hre], _, rfl⟩, HB.out.trans (hB2.mono hsz)⟩
            · obtain rfl : i = T.kids.length := by omega
              have hre : R = some ni := by rw [← HC.out, List.drop_length]; rfl
              clear hO ND
              go_wp2_with fail
              go_ret2
              exact ⟨.inl ⟨ni, by rw [HNE.out, hre], rfl, by have := Hle.out; omega, hni⟩, hB⟩
        · obtain ⟨ob, oo, rfl, hob, hcs⟩ := Nt.Opn.src HC4.out hl0
          clear oc3 HC4 oc1 oc2
          have HC1 : Hid ((Nt.icellsN l).length = l.length * 1) := by show _ = _; rw [Nt.icellsN, List.length_map, Nat.mul_one]
          have HC4b : Hid (0 + l.length ≤ maxLen) := Nt.le_max (by omega)
          have HC5 : Hid (((0 + l.length) + (0 + l.length) / 4 + 192) * 8 ≤ 281474976710656) := Nt.room8 (by omega)
          have HC6 : Hid (l.length + 1 ≤ maxLen) := Nt.le_max (by omega)
          have HSRC : Hid (∀ wx, Below w.heap.size w wx → ∀ j u, (Nt.icellsN l)[j]? = some u → wx.cell? ((⟨ob, oo, none⟩ : Addr).add j) = some u) := fun wx hbx => Nt.icells_src (fun i hi => (hbx.cell (p := ⟨ob, oo + i, none⟩) hob).trans (hcs i hi))
          clear hcs
          go_enter Tryd.func52, Tryd.ntmps52
          go_wp2_with (first | (rw [← hW]; go_at_call 76; refine (HBR.out _).mono ?_; rintro e w1 ⟨rfl, hb1⟩; have hs1 := hb1.size; obtain ⟨p0, p1, p2, p3, p4, p5, p6, p7, p8⟩ := (Nt.NodeAt.under HN0.out hb1).nine) | (at_builtin; refine Nt.wpList_append_far _ rfl _ _ 45 rfl w1.heap.size 3 i0 (.int .i64 0) 1 8 Tryd.underlying45 hi0 hz0 hz1 hz2 rfl (by decide) (.slice none 0 0) 0 [] ?s1 ?s2 ⟨ob, oo, none⟩ l.length oc (Nt.icellsN l) ?s3 ?b1 ?b2 ?b3 ?b4 ?b5 ?b6 ?_))
          case s1 => rfl
          case s2 => exact World.ownsRow_nil _ _ _ _
          case s3 => rfl
          case b1 => exact HC1.out
          case b2 => exact HSRC.out _ (HB0.out.trans (hb1.mono HB0.out.size))
          case b3 => exact Nt.icells_one l
          case b4 => exact HC4b.out
          case b5 => exact HC5.out
          case b6 => exact Nat.le_refl _
          intro v2 w2 hown2 hgr2 _ hat2
          have hB2 : Below w1.heap.size w1 w2 := (Below.refl _ _).grown hgr2 (Nat.le_refl _) (fun g hg => by cases hg)
          have p7' := (hB2.cell (p := ⟨w.heap.size, 7, none⟩) (by simp; omega)).trans p7
          have hs2 := hB2.size
          go_wp2_with (at_builtin; refine Nt.wpList_append_far _ rfl _ _ 45 rfl w1.heap.size 3 i0 (.int .i64 0) 1 8 Tryd.underlying45 hi0 hz0 hz1 hz2 rfl (by decide) _ _ _ rfl (hown2.alloc _) ⟨w2.heap.size, 0, none⟩ 1 1 [.int .i64 T.gr] rfl ?d1 ?d2 ?d3 ?d4 ?d5 ?d6 ?_)
          case d1 => rfl
          case d2 => exact Nt.one_new _ _ _
          case d3 => exact fun u hu => by simp only [List.mem_singleton] at hu; subst hu; rfl
          case d4 => exact HC6.out
          case d5 => exact hb62.out
          case d6 => simp; omega
          intro v3 w3 hown3 hgr3 _ _
          have hown3' : w3.ownsRow w1.heap.size 3 1 v3 (l ++ [nx]).length (Nt.icellsN (l ++ [nx])) := by
            have e : Nt.icellsN (l ++ [nx]) = Nt.icellsN l ++ [.int .i64 T.gr] := by rw [HG.out]; simp [Nt.icellsN]
            rw [e, List.length_append]
            exact hown3
          have HO1 : Hid _ := Nt.Opn.row (by simp) hown3'
          have hB3 : Below w1.heap.size w1 w3 := hB2.trans (((Below.refl _ _).alloc hs2 _).grown hgr3 (by simp; omega) (fun g hg => (hown2.lt g hg).1))
          have HB2 : Hid (Below w.heap.size w w3) := HB0.out.trans ((hb1.trans (hB3.mono hb1.size)).mono HB0.out.size)
          have HN2 : Hid (Nt.Nd w3 (· < w.heap.size) T a cap) := HN1.out.under ((hb1.trans (hB3.mono hb1.size)).mono HB0.out.size)
          have q0' := (hB3.cell (p := ⟨w.heap.size, 0, none⟩) (by simp; omega)).trans p0
          have q8 := (hB3.cell (p := ⟨w.heap.size, 8, none⟩) (by simp; omega)).trans p8
          clear hown3 hown3' hgr3 hB3 hb1 p0 p1 p2 p3 p4 p5 p6 p7 p8 q0 q1 q2 q3 q4 q5 q6 q7 hown2 hgr2 hat2 hB2 p7' hs2 HSRC
          go_wp2_with fail
          go_loopw [1, 63] (fun nv iv wr => ∃ (i ni : Nat), i ≤ T.kids.length ∧ iv = .int .i64 (i : Int) ∧ nv = .int .i64 (ni : Nat) ∧ Hid (Nt.numP.numL (T.kids.drop i) ni (l ++ [nx]).reverse = R) ∧ Hid (nx + 1 ≤ ni) ∧ ni ≤ 100 ∧ Nt.Opn wr v3 (l ++ [nx]) ∧ Nt.Nd wr (· < w.heap.size) T a cap ∧ Below w.heap.size w wr) (fun _ iv _ => T.kids.length - (intOf iv).toNat)
          case atStart => exact ⟨0, nx + 1, by omega, by simp, by simp, HR, Nat.le_refl _, by omega, HO1.out, HN2.out, HB2.out⟩
          case round =>
            clear HR HO1 HN2 HB2 q8
            obtain ⟨i, ni, hi, rfl, rfl, HC, Hle, hni, hO, ND, hB⟩ := hrel
            by_cases hlt : i < T.kids.length
            · have HD : Hid _ := Nt.numL_drop hlt ni (l ++ [nx]).reverse
              have hsz := hB.size
              have HB : Hid _ := hB
              have HND : Hid _ := ND
              have HO3 : Hid _ := hO
              obtain ⟨b2, off2, a', cap', rfl, hbB, h9, hk⟩ := ND.kid hlt
              obtain ⟨r0, r1, r2, r3, r4, r5, r6, r7, r8⟩ := h9
              have K1 := Nt.node_new wr (T.kids[i]) a' cap'
              have hA : Below wr.heap.size wr (wr.alloc (.cells (Nt.ndA (T.kids[i]) a' cap') 28)) := (Below.refl _ _).alloc (Nat.le_refl _) _
              have hsA : (wr.alloc (.cells (Nt.ndA (T.kids[i]) a' cap') 28)).heap.size = wr.heap.size + 1 := by simp
              have HLL : Hid ((l ++ [nx]).length + 1 ≤ ni) := by
                show _ ≤ _
                have h1 := Hle.out
                have h2 : (l ++ [nx]).length ≤ l.length + 1 := by simp
                omega
              have HI : Hid _ := IH.out i hlt a' cap' ni v3 (l ++ [nx]) (wr.alloc (.cells (Nt.ndA (T.kids[i]) a' cap') 28)) (hk.same (fun b (h : b < _) => hA.block b (by omega)) (fun b (h : b < _) => by omega)) (Nt.Opn.below hO hA) HLL.out hni
              simp only [Nt.ndV, Nt.ndA] at K1 hA hsA HI
              obtain ⟨k0, k1, k2, k3, k4, k5, k6, k7, k8⟩ := K1.nine
              have HA : Hid _ := hA
              clear hk K1 hA IH hO ND hB
              go_wp2_with fail
              refine Calls.mono HI.out ?_
              rintro x w2 ⟨⟨n2, hn2, rfl, hle2, hlt2⟩ | ⟨hn2, z, rfl⟩, hb2⟩
              · have HC2 : Hid (Nt.numP.numL (T.kids.drop (i + 1)) n2 (l ++ [nx]).reverse = R) := by
                  show _ = _
                  rw [← HC.out, HD.out, hn2]
                have hB2 : Below wr.heap.size wr w2 := HA.out.trans (hb2.mono HA.out.size)
                clear HI k0 k1 k2 k3 k4 k5 k6 k7 k8 r0 r1 r2 r3 r4 r5 r6 r7 r8
                go_wp2_with fail
                refine ⟨⟨i + 1, n2, by omega, by simp, rfl, HC2, Nat.le_trans Hle.out hle2, hlt2, Nt.Opn.below HO3.out hB2, HND.out.under (hB2.mono hsz), HB.out.trans (hB2.mono hsz)⟩, ?_⟩
                simp only [intOf]
                omega
              · have hre : R = none := by rw [← HC.out, HD.out, hn2]
                have hB2 : Below wr.heap.size wr w2 := HA.out.trans (hb2.mono HA.out.size)
                clear HI k0 k1 k2 k3 k4 k5 k6 k7 k8 r0 r1 r2 r3 r4 r5 r6 r7 r8
                go_wp2_with fail
                go_ret2
                exact ⟨.inr ⟨by rw [HNE.out, hre], _, rfl⟩, HB.out.trans (hB2.mono hsz)⟩
            · obtain rfl : i = T.kids.length := by omega
              have hre : R = some ni := by rw [← HC.out, List.drop_length]; rfl
              clear hO ND
              go_wp2_with fail
              go_ret2
              exact ⟨.inl ⟨ni, by rw [HNE.out, hre], rfl, by have := Hle.out; omega, hni⟩, hB⟩
      · have hd99 : decide ((99 : Int) < (nx : Int)) = true := by simp; omega
        have hnone : Hid (Nt.numP T nx l.reverse = none) := by
          show _ = _
          rw [HNE.out, decide_eq_false h99]; simp
        go_enter Tryd.func52, Tryd.ntmps52
        go_wp2_with (rw [← hW]; go_at_call 76; refine (HBR.out _).mono ?_; rintro e w1 ⟨rfl, hb1⟩; obtain ⟨p0, p1, p2, p3, p4, p5, p6, p7, p8⟩ := (Nt.NodeAt.under HN0.out hb1).nine)
        go_ret2
        exact ⟨.inr ⟨hnone.out, _, rfl⟩, HB0.out.trans (hb1.mono HB0.out.size)⟩
    · have hg' : (T.gr == (nx : Int)) = false := by simpa using hg
      have hg2 : (T.gr != (nx : Int)) = true := by simpa using hg
      have hnone : Hid (Nt.numP T nx l.reverse = none) := by
        show _ = _
        rw [HNE.out, hg']; rfl
      clear hg
      go_enter Tryd.func52, Tryd.ntmps52
      go_wp2_with (rw [← hW]; go_at_call 76; refine (HBR.out _).mono ?_; rintro e w1 ⟨rfl, hb1⟩; obtain ⟨p0, p1, p2, p3, p4, p5, p6, p7, p8⟩ := (Nt.NodeAt.under HN0.out hb1).nine)
      go_ret2
      exact ⟨.inr ⟨hnone.out, _, rfl⟩, HB0.out.trans (hb1.mono HB0.out.size)⟩
  have k6 : ((T.k : Int) == 6) = false := by simp; omega
  have k6n : (T.k == 6) = false := by simpa using h6
  rw [k6n] at HNE
  simp only [Bool.false_eq_true, if_false] at HNE
  clear h6 k6n
  by_cases h7 : T.k = 7
  · have k7 : ((T.k : Int) == 7) = true := by simp; omega
    have k7n : (T.k == 7) = true := by simpa using h7
    rw [k7n] at HNE
    simp only [if_true] at HNE
    obtain ⟨hg1, hg9, hkd⟩ := H77.out h7
    rw [hkd, decide_eq_true hg1, decide_eq_true hg9] at HNE
    simp only [Bool.true_and] at HNE
    have HKd : Hid (T.kids.length = 0) := by show _ = _; rw [hkd]; rfl
    clear h7 k7n hkd H77
    by_cases hgn : T.gr < (nx : Int)
    · have hgd : decide ((nx : Int) ≤ T.gr) = false := by simp; omega
      have hge : ((nx : Int) ≤ T.gr) = False := by simp; omega
      rw [decide_eq_true hgn] at HNE
      simp only [Bool.true_and] at HNE
      obtain ⟨oa, oc, rfl, oc1, oc2, oc3, oc4⟩ := HO.out
      have HC4 : Hid _ := oc4
      have hlen : (l.length : Int) ≤ 100 := by omega
      clear oc3 oc4 oc1 oc2
      go_enter Tryd.func52, Tryd.ntmps52
      go_wp2_with (rw [← hW]; go_at_call 76; refine (HBR.out _).mono ?_; rintro e w1 ⟨rfl, hb1⟩; obtain ⟨p0, p1, p2, p3, p4, p5, p6, p7, p8⟩ := (Nt.NodeAt.under HN0.out hb1).nine)
      have hB2 : Below w.heap.size w w1 := HB0.out.trans (hb1.mono HB0.out.size)
      have HB2 : Hid _ := hB2
      clear hB2 hb1
      go_loopw [50] (fun iv wr => ∃ i : Nat, i ≤ l.length ∧ iv = .int .i64 (i : Int) ∧ Hid (∀ j (h : j < l.length), j < i → (l[j] : Int) ≠ T.gr) ∧ wr = w1) (fun iv _ => l.length - (intOf iv).toNat)
      case atStart => exact ⟨0, by omega, rfl, fun j h hj => absurd hj (by omega), rfl⟩
      case round =>
        obtain ⟨i, hi, rfl, HNo, rfl⟩ := hrel
        by_cases hlt : i < l.length
        · obtain ⟨ob, oo, rfl, hob, hc⟩ := HC4.out i hlt
          have hc' := (HB2.out.cell (p := ⟨ob, oo + i, none⟩) hob).trans hc
          clear hc
          by_cases hq : ((l[i] : Nat) : Int) = T.gr
          · have hq' : (((l[i] : Nat) : Int) == T.gr) = true := by simpa using hq
            have hnone : Hid (Nt.numP T nx l.reverse = none) := by
              show _ = _
              rw [HNE.out]
              have : l.reverse.contains T.gr.toNat = true := by
                rw [List.contains_iff_mem, List.mem_reverse, ← hq, Int.toNat_natCast]
                exact List.getElem_mem hlt
              rw [this]; rfl
            clear hq
            go_wp2_with fail
            go_ret2
            exact ⟨.inr ⟨hnone.out, _, rfl⟩, HB2.out⟩
          · have hq' : (((l[i] : Nat) : Int) == T.gr) = false := by simpa using hq
            have HNo2 : Hid (∀ j (h : j < l.length), j < i + 1 → (l[j] : Int) ≠ T.gr) := fun j h hj => by
              by_cases e : j = i
              · subst e; exact hq
              · exact HNo.out j h (by omega)
            clear hq
            go_wp2_with fail
            go_roundw
            case rel => exact ⟨i + 1, by omega, by go_num, HNo2, trivial⟩
            case measure => simp [intOf]; omega
        · obtain rfl : i = l.length := by omega
          have hsome : Hid (Nt.numP T nx l.reverse = some nx) := by
            show _ = _
            rw [HNE.out]
            have : l.reverse.contains T.gr.toNat = false := by
              rw [Bool.eq_false_iff]
              intro h
              rw [List.contains_iff_mem, List.mem_reverse] at h
              obtain ⟨j, hj, e⟩ := List.getElem_of_mem h
              exact HNo.out j hj hj (by rw [e]; omega)
            rw [this]; rfl
          have p8' := p8
          rw [HKd.out] at p8'
          clear p8
          go_wp2_with fail
          go_loopw [1, 63] (fun nv iv wx => nv = .int .i64 (nx : Int) ∧ iv = .int .i64 0 ∧ wx = wr) (fun _ _ _ => 0)
          case atStart => exact ⟨rfl, rfl, rfl⟩
          case round =>
            obtain ⟨rfl, rfl, rfl⟩ := hrel
            go_wp2_with fail
            go_ret2
            exact ⟨.inl ⟨nx, hsome.out, rfl, Nat.le_refl _, hnx⟩, HB2.out⟩
    · have hgd : decide ((nx : Int) ≤ T.gr) = true := by simp; omega
      have hnone : Hid (Nt.numP T nx l.reverse = none) := by
        show _ = _
        rw [HNE.out, decide_eq_false hgn]; rfl
      go_enter Tryd.func52, Tryd.ntmps52
      go_wp2_with (rw [← hW]; go_at_call 76; refine (HBR.out _).mono ?_; rintro e w1 ⟨rfl, hb1⟩; obtain ⟨p0, p1, p2, p3, p4, p5, p6, p7, p8⟩ := (Nt.NodeAt.under HN0.out hb1).nine)
      go_ret2
      exact ⟨.inr ⟨hnone.out, _, rfl⟩, HB0.out.trans (hb1.mono HB0.out.size)⟩
  have k7 : ((T.k : Int) == 7) = false := by simp; omega
  have k7n : (T.k == 7) = false := by simpa using h7
  rw [k7n] at HNE
  simp only [Bool.false_eq_true, if_false] at HNE
  clear h7 k7n
  obtain ⟨R, hR⟩ : ∃ R, Nt.numP.numL T.kids nx l.reverse = R := ⟨_, rfl⟩
  rw [hR] at HNE
  have HR : Hid (Nt.numP.numL (T.kids.drop 0) nx l.reverse = R) := hR
  clear hR
  go_enter Tryd.func52, Tryd.ntmps52
  go_wp2_with (rw [← hW]; go_at_call 76; refine (HBR.out _).mono ?_; rintro e w1 ⟨rfl, hb1⟩; obtain ⟨p0, p1, p2, p3, p4, p5, p6, p7, p8⟩ := (Nt.NodeAt.under HN0.out hb1).nine)
  have HB2 : Hid (Below w.heap.size w w1) := HB0.out.trans (hb1.mono HB0.out.size)
  have HN2 : Hid (Nt.Nd w1 (· < w.heap.size) T a cap) := HN1.out.under (hb1.mono HB0.out.size)
  have HO1 : Hid _ := Nt.Opn.below (Nt.Opn.below HO.out HB0.out) hb1
  clear hb1 p0 p1 p2 p3 p4 p5 p6 p7 p8 q0 q1 q2 q3 q4 q5 q6 q7
  go_loopw [1, 63] (fun nv iv wr => ∃ (i ni : Nat), i ≤ T.kids.length ∧ iv = .int .i64 (i : Int) ∧ nv = .int .i64 (ni : Nat) ∧ Hid (Nt.numP.numL (T.kids.drop i) ni (l).reverse = R) ∧ Hid (nx ≤ ni) ∧ ni ≤ 100 ∧ Nt.Opn wr v (l) ∧ Nt.Nd wr (· < w.heap.size) T a cap ∧ Below w.heap.size w wr) (fun _ iv _ => T.kids.length - (intOf iv).toNat)
  case atStart => exact ⟨0, nx, by omega, by simp, by simp, HR, Nat.le_refl _, by omega, HO1.out, HN2.out, HB2.out⟩
  case round =>
    clear HR HO1 HN2 HB2 q8
    obtain ⟨i, ni, hi, rfl, rfl, HC, Hle, hni, hO, ND, hB⟩ := hrel
    by_cases hlt : i < T.kids.length
    · have HD : Hid _ := Nt.numL_drop hlt ni (l).reverse
      have hsz := hB.size
      have HB : Hid _ := hB
      have HND : Hid _ := ND
      have HO3 : Hid _ := hO
      obtain ⟨b2, off2, a', cap', rfl, hbB, h9, hk⟩ := ND.kid hlt
      obtain ⟨r0, r1, r2, r3, r4, r5, r6, r7, r8⟩ := h9
      have K1 := Nt.node_new wr (T.kids[i]) a' cap'
      have hA : Below wr.heap.size wr (wr.alloc (.cells (Nt.ndA (T.kids[i]) a' cap') 28)) := (Below.refl _ _).alloc (Nat.le_refl _) _
      have hsA : (wr.alloc (.cells (Nt.ndA (T.kids[i]) a' cap') 28)).heap.size = wr.heap.size + 1 := by simp
      have HLL : Hid ((l).length + 1 ≤ ni) := by
        show _ ≤ _
        have h1 := Hle.out
        have h2 : (l).length ≤ l.length := Nat.le_refl _
        omega
      have HI : Hid _ := IH.out i hlt a' cap' ni v (l) (wr.alloc (.cells (Nt.ndA (T.kids[i]) a' cap') 28)) (hk.same (fun b (h : b < _) => hA.block b (by omega)) (fun b (h : b < _) => by omega)) (Nt.Opn.below hO hA) HLL.out hni
      simp only [Nt.ndV, Nt.ndA] at K1 hA hsA HI
      obtain ⟨k0, k1, k2, k3, k4, k5, k6, k7, k8⟩ := K1.nine
      have HA : Hid _ := hA
      clear hk K1 hA IH hO ND hB
      go_wp2_with fail
      refine Calls.mono HI.out ?_
      rintro x w2 ⟨⟨n2, hn2, rfl, hle2, hlt2⟩ | ⟨hn2, z, rfl⟩, hb2⟩
      · have HC2 : Hid (Nt.numP.numL (T.kids.drop (i + 1)) n2 (l).reverse = R) := by
          show _ = _
          rw [← HC.out, HD.out, hn2]
        have hB2 : Below wr.heap.size wr w2 := HA.out.trans (hb2.mono HA.out.size)
        clear HI k0 k1 k2 k3 k4 k5 k6 k7 k8 r0 r1 r2 r3 r4 r5 r6 r7 r8
        go_wp2_with fail
        refine ⟨⟨i + 1, n2, by omega, by simp, rfl, HC2, Nat.le_trans Hle.out hle2, hlt2, Nt.Opn.below HO3.out hB2, HND.out.under (hB2.mono hsz), HB.out.trans (hB2.mono hsz)⟩, ?_⟩
        simp only [intOf]
        omega
      · have hre : R = none := by rw [← HC.out, HD.out, hn2]
        have hB2 : Below wr.heap.size wr w2 := HA.out.trans (hb2.mono HA.out.size)
        clear HI k0 k1 k2 k3 k4 k5 k6 k7 k8 r0 r1 r2 r3 r4 r5 r6 r7 r8
        go_wp2_with fail
        go_ret2
        exact ⟨.inr ⟨by rw [HNE.out, hre], _, rfl⟩, HB.out.trans (hB2.mono hsz)⟩
    · obtain rfl : i = T.kids.length := by omega
      have hre : R = some ni := by rw [← HC.out, List.drop_length]; rfl
      clear hO ND
      go_wp2_with fail
      go_ret2
      exact ⟨.inl ⟨ni, by rw [HNE.out, hre], rfl, by have := Hle.out; omega, hni⟩, hB⟩
end Go.Proofs.YtdiokclbdaojpaaDoor
