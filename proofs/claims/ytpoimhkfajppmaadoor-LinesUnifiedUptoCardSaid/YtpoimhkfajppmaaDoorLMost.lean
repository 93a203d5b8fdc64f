/- What the reference's most answers. -/
import Derived.Test.YtpoimhkfajppmaaDoorLDiff
import Derived.BigRegion
namespace Go.Proofs.YtpoimhkfajppmaaDoor
open Go.RowKit

/-- The table of rows: its row i has how many can be kept of the rests. -/
def MostAt (w : World) (g : Nat) (R : Nat → Nat) (a b : List (ByteArray × Bool)) : Prop := ∀ i, i ≤ a.length → w.cell? ⟨g, i, none⟩ = some (.slice (some ⟨R i, 0, none⟩) (b.length + 1) (b.length + 1)) ∧ ∀ j, j ≤ b.length → w.cell? ⟨R i, j, none⟩ = some (.int .i64 ((Ln.lcs (a.drop i) (b.drop j) : Nat) : Int))
theorem MostAt.below {w w' : World} {g : Nat} {R : Nat → Nat} {a b : List (ByteArray × Bool)} (h : MostAt w g R a b) (hb : Below w.heap.size w w') : MostAt w' g R a b := fun i hi => by
  obtain ⟨h1, h2⟩ := h i hi
  exact ⟨(hb.cell (p := ⟨g, i, none⟩) (World.block_lt_of_cell? w _ h1)).trans h1, fun j hj => (hb.cell (p := ⟨R i, j, none⟩) (World.block_lt_of_cell? w _ (h2 j hj))).trans (h2 j hj)⟩
/-- The rows from q on are there. -/
def RowsOk (w : World) (g : Nat) (R : Nat → Nat) (a b : List (ByteArray × Bool)) (xs : List Value) (q : Nat) : Prop :=
  ∀ i, q ≤ i → i ≤ a.length → xs[i]? = some (.slice (some ⟨R i, 0, none⟩) (b.length + 1) (b.length + 1)) ∧ R i ≠ g ∧ R i < w.heap.size ∧ ∀ j, j ≤ b.length → w.cell? ⟨R i, j, none⟩ = some (.int .i64 ((Ln.lcs (a.drop i) (b.drop j) : Nat) : Int))
/-- Of row i the cells from r on are filled. -/
def RowF (a b : List (ByteArray × Bool)) (i : Nat) (cur : List Nat) (r : Nat) : Prop :=
  cur.length = b.length + 1 ∧ ∀ j, j ≤ b.length → (r ≤ j ∨ j = b.length ∨ i = a.length) → cur[j]? = some (Ln.lcs (a.drop i) (b.drop j))
theorem rowF_start (a b : List (ByteArray × Bool)) (i : Nat) : RowF a b i (List.replicate (b.length + 1) 0) b.length := by
  refine ⟨by simp, fun j hj h => ?_⟩
  rw [List.getElem?_replicate, if_pos (by omega)]
  rcases h with h | h | h
  · rw [List.drop_eq_nil_of_le (show b.length ≤ j by omega), Ln.lcs_nil_right]
  · rw [List.drop_eq_nil_of_le (show b.length ≤ j by omega), Ln.lcs_nil_right]
  · rw [List.drop_eq_nil_of_le (show a.length ≤ i by omega), Ln.lcs_nil_left]
theorem rowF_last {a b : List (ByteArray × Bool)} {cur : List Nat} {r r' : Nat} (h : RowF a b a.length cur r) : RowF a b a.length cur r' := ⟨h.1, fun j hj _ => h.2 j hj (.inr (.inr rfl))⟩
theorem rowF_step {a b : List (ByteArray × Bool)} {i k : Nat} {cur : List Nat} (h : RowF a b i cur (k + 1)) (hi : i < a.length) (hk : k < b.length) {v : Nat}
    (hv : v = Ln.lcs (a.drop i) (b.drop k)) : RowF a b i (cur.set k v) k := by
  refine ⟨by simpa using h.1, fun j hj c => ?_⟩
  by_cases e : k = j
  · subst e
    rw [List.getElem?_set_self (by rw [h.1]; omega), hv]
  · rw [List.getElem?_set_ne e]
    exact h.2 j hj (by omega)
theorem Tryd.infoRow : (Tryd.prog.info? 51).map (fun i => (i.zero, i.size, i.bytes)) = some (some (.slice none 0 0), 1, 24) := by kernel_rfl
theorem icells_set (ns : List Nat) (i c : Nat) : (icells ns).set i (.int .i64 (c : Int)) = icells (ns.set i c) := by simp [icells, List.map_set]

set_option maxRecDepth 100000 in
set_option maxHeartbeats 8000000 in
theorem most_any (a1 a2 : Option Addr) (c1 c2 : Nat) (l1 l2 : List (ByteArray × Bool)) (w : World) (h1 : Lns w a1 c1 l1) (h2 : Lns w a2 c2 l2) (hn1 : l1.length ≤ 4096) (hn2 : l2.length ≤ 4096) :
    Calls Tryd.prog 21 #[.slice a1 l1.length c1, .slice a2 l2.length c2] w fun e w' => ∃ g R, e = .returned (.slice (some ⟨g, 0, none⟩) (l1.length + 1) (l1.length + 1)) ∧ MostAt w' g R l1 l2 ∧ Below w.heap.size w w' := by
  obtain ⟨i0, hi, hz0, hz1, hz2⟩ := info_parts Tryd.infoRow
  obtain ⟨j0, hj, hy0, hy1, hy2⟩ := info_parts Tryd.infoInt
  go_enter Tryd.func21, Tryd.ntmps21
  go_wp2_with (at_make; refine wpList_make_full _ rfl _ _ 49 rfl w.heap.size 51 i0 (.slice none 0 0) 1 Tryd.underlying49 hi hz0 hz1 .i64 .i64 _ _ (l1.length + 1) rfl rfl ?m0 ?m0' ?m1 ?m2 ?m3 ?_)
  case m0 => omega
  case m0' => omega
  case m1 => rw [hz2]; omega
  case m2 => unfold maxLen; omega
  all_goals try exact Nat.le_refl _
  intro w1 hown hg
  rw [toList_madeCells_one] at hown
  have hB1 : Below w.heap.size w w1 := (Below.refl _ _).grown hg (Nat.le_refl _) (fun g e => by cases e)
  have hgl1 : w.heap.size < w1.heap.size := (hown.lt _ rfl).2
  go_wp2_with fail
  go_loopw [6] (fun i wr => ∃ (q : Nat) (R : Nat → Nat) (xs : List Value), q ≤ l1.length + 1 ∧ i = .int .i64 ((q : Int) - 1) ∧ wr.ownsRow w.heap.size 51 1 (.slice (some ⟨w.heap.size, 0, none⟩) (l1.length + 1) (l1.length + 1)) (l1.length + 1) xs ∧ Hid (RowsOk wr w.heap.size R l1 l2 xs q) ∧ Below w.heap.size w wr) (fun i _ => (intOf i + 1).toNat)
  case atStart => exact ⟨l1.length + 1, fun _ => 0, _, Nat.le_refl _, by go_num, hown, fun i a b => absurd a (by omega), hB1⟩
  case round =>
    obtain ⟨q, R, xs, hq, hqi, ow, HR, hnx⟩ := hrel
    have hsz := hnx.size
    have hwl : w.heap.size < wr.heap.size := (ow.lt _ rfl).2
    clear hown hg hB1 hgl1
    cases q with
    | zero =>
      obtain rfl : u6 = .int .i64 (-1) := by rw [hqi]; rfl
      have HM : Hid (MostAt wr w.heap.size R l1 l2) := fun i hi => by
        obtain ⟨k1, _, _, k4⟩ := HR.out i (Nat.zero_le _) hi
        exact ⟨(ow.cellAt i (by have := ow.1; omega)).trans k1, k4⟩
      go_wp2_with fail
      go_ret
      exact ⟨_, R, rfl, HM.out, hnx⟩
    | succ i =>
      obtain rfl : u6 = .int .i64 (i : Int) := by rw [hqi]; congr 1; omega
      clear hqi
      have hxl := ow.1
      have ci : (i : Int) < ((l1.length : Int) + 1) := by omega
      have y0 := ow.cellAt i (by omega)
      rw [List.getElem?_eq_getElem (by omega)] at y0
      generalize xs[i]'(by omega) = Y0 at y0
      have fz := ow.frozenAt i
      obtain ⟨wo, hwo⟩ : ∃ wo, wo = wr := ⟨_, rfl⟩
      subst hwo
      go_wp2_with (at_make; refine wpList_make_full _ rfl _ _ 51 rfl w.heap.size 3 j0 (.int .i64 0) 1 Tryd.underlying51 hj hy0 hy1 .i64 .i64 _ _ (l2.length + 1) rfl rfl ?r0 ?r0' ?r1 ?r2 ?r3 ?_)
      case r0 => omega
      case r0' => omega
      case r1 => rw [hy2]; omega
      case r2 => unfold maxLen; omega
      case r3 => omega
      intro w2 own2 hg2
      rw [toList_madeCells_one] at own2
      have ow2 := ow.kept hg2 (by simp [Value.ownBlock])
      have hs2 := hg2.size
      have y2 : w2.cell? ⟨w.heap.size, i, none⟩ = some Y0 := hg2.cell y0 (by simp)
      have fz2 := ow2.frozenAt i
      have hg2l : wo.heap.size < w2.heap.size := (own2.lt _ rfl).2
      obtain ⟨st, gr⟩ := ow2.stored i (.slice (some ⟨wo.heap.size, 0, none⟩) (l2.length + 1) (l2.length + 1))
      have own3 := own2.kept gr (by simp [Value.ownBlock]; omega)
      have hB3 : Below w.heap.size w (w2.setCell ⟨w.heap.size, i, none⟩ (.slice (some ⟨wo.heap.size, 0, none⟩) (l2.length + 1) (l2.length + 1))) := (hnx.grown hg2 (by omega) (fun g e => by cases e)).grown gr (by omega) (fun g e => by cases e; exact Nat.le_refl _)
      have HR3 : Hid (RowsOk (w2.setCell ⟨w.heap.size, i, none⟩ (.slice (some ⟨wo.heap.size, 0, none⟩) (l2.length + 1) (l2.length + 1))) w.heap.size R l1 l2 (xs.set i (.slice (some ⟨wo.heap.size, 0, none⟩) (l2.length + 1) (l2.length + 1))) (i + 1)) := fun i' h1' h2' => by
        obtain ⟨k1, k2, k3, k4⟩ := HR.out i' h1' h2'
        refine ⟨by rw [List.getElem?_set_ne (by omega)]; exact k1, k2, Nat.lt_of_lt_of_le k3 (Nat.le_trans hs2 gr.size), fun j hj' => gr.cell (hg2.cell (k4 j hj') (by simp)) (by simp; exact k2)⟩
      obtain ⟨w3, hw3⟩ : ∃ w3, w3 = w2.setCell ⟨w.heap.size, i, none⟩ (.slice (some ⟨wo.heap.size, 0, none⟩) (l2.length + 1) (l2.length + 1)) := ⟨_, rfl⟩
      rw [← hw3] at st own3 hB3 HR3
      have HW3 : Hid (w3 = w2.setCell ⟨w.heap.size, i, none⟩ (.slice (some ⟨wo.heap.size, 0, none⟩) (l2.length + 1) (l2.length + 1))) := hw3
      have HRL : Hid (∀ i', i + 1 ≤ i' → i' ≤ l1.length → R i' < wo.heap.size) := fun i' h1' h2' => (HR.out i' h1' h2').2.2.1
      clear hw3 gr own2 ow2 hg2 HR
      have own3' : w3.ownsRow w.heap.size 3 1 (.slice (some ⟨wo.heap.size, 0, none⟩) (l2.length + 1) (l2.length + 1)) (l2.length + 1) (icells (List.replicate (l2.length + 1) 0)) := by simpa [icells] using own3
      have hs3 := hB3.size
      have hg3 : wo.heap.size < w3.heap.size := (own3.lt _ rfl).2
      have r0 : w3.cell? ⟨w.heap.size, i, none⟩ = some (.slice (some ⟨wo.heap.size, 0, none⟩) (l2.length + 1) (l2.length + 1)) := (st.cellAt i (by have := st.1; omega)).trans (by rw [List.getElem?_set_self (by omega)])
      have HRF : Hid (RowF l1 l2 i (List.replicate (l2.length + 1) 0) l2.length) := rowF_start l1 l2 i
      clear own3
      go_wp2_with fail
      rw [← HW3.out]
      go_loopw [7] (fun jv w4 => ∃ (r : Nat) (cur : List Nat), r ≤ l2.length ∧ jv = .int .i64 ((r : Int) - 1) ∧ Hid (w3.grownBy w4 (some wo.heap.size)) ∧ w4.ownsRow w.heap.size 3 1 (.slice (some ⟨wo.heap.size, 0, none⟩) (l2.length + 1) (l2.length + 1)) (l2.length + 1) (icells cur) ∧ Hid (RowF l1 l2 i cur r)) (fun jv _ => (intOf jv + 1).toNat)
      case atStart => exact ⟨l2.length, _, Nat.le_refl _, by go_num, World.grownBy.refl _ _, own3', HRF⟩
      case round =>
        obtain ⟨r, cur, hr, hri, HGR, oc, HF⟩ := hrel
        have hszr := HGR.out.size
        clear own3' HRF
        cases r with
        | zero =>
          obtain rfl : u7 = .int .i64 (-1) := by rw [hri]; rfl
          have hgw : Hid (w3.grownBy wr (some wo.heap.size)) := HGR
          have st4 := st.kept HGR.out (by simp [Value.ownBlock]; omega)
          have hB4 : Below w.heap.size w wr := hB3.grown HGR.out (by omega) (fun g e => by cases e; omega)
          have HR4 : Hid (RowsOk wr w.heap.size (fun k => if k = i then wo.heap.size else R k) l1 l2 (xs.set i (.slice (some ⟨wo.heap.size, 0, none⟩) (l2.length + 1) (l2.length + 1))) i) := fun i' h1' h2' => by
            by_cases e : i' = i
            · subst e
              dsimp only
              refine ⟨by rw [List.getElem?_set_self (by omega), if_pos rfl], by rw [if_pos rfl]; omega, by rw [if_pos rfl]; omega, fun j hj' => ?_⟩
              rw [if_pos rfl]
              exact (oc.cellAt j (by have := oc.1; omega)).trans (icells_get (HF.out.2 j hj' (.inl (Nat.zero_le _))))
            · obtain ⟨k1, k2, k3, k4⟩ := HR3.out i' (by omega) h2'
              dsimp only
              refine ⟨by rw [if_neg e]; exact k1, by rw [if_neg e]; exact k2, by rw [if_neg e]; omega, fun j hj' => ?_⟩
              rw [if_neg e]
              have hne : R i' ≠ wo.heap.size := fun q => by
                have := HRL.out i' (by omega) h2'
                omega
              exact HGR.out.cell (k4 j hj') (by simp; exact hne)
          go_wp2_with fail
          go_roundw
          case rel => exact ⟨i, _, _, by omega, by go_num, st4, HR4, hB4⟩
          case measure => simp [intOf]
        | succ k =>
          obtain rfl : u7 = .int .i64 (k : Int) := by rw [hri]; congr 1; omega
          clear hri
          by_cases hin : i = l1.length
          · have HF2 : Hid (RowF l1 l2 i cur k) := by
              have := HF.out
              rw [hin] at this ⊢
              exact rowF_last this
            have ce : ((i : Int) == (l1.length : Int)) = true := by simp; omega
            go_wp2_with fail
            go_roundw
            case rel => exact ⟨k, cur, by omega, by go_num, HGR, oc, HF2⟩
            case measure => simp [intOf]
          · have hi1 : i < l1.length := by omega
            have hk1 : k < l2.length := by omega
            have ce : ((i : Int) == (l1.length : Int)) = false := by simp; omega
            obtain ⟨k1, k2, k3, k4⟩ := HR3.out (i + 1) (Nat.le_refl _) (by omega)
            have hRl := HRL.out (i + 1) (Nat.le_refl _) (by omega)
            generalize R (i + 1) = Ri at k1 k2 k3 k4 hRl
            have V1 := HGR.out.cell (k4 k (by omega)) (by simp; omega)
            have V3 := HGR.out.cell (k4 (k + 1) (by omega)) (by simp; omega)
            have ra : wr.cell? ⟨w.heap.size, i, none⟩ = some (.slice (some ⟨wo.heap.size, 0, none⟩) (l2.length + 1) (l2.length + 1)) := HGR.out.cell r0 (by simp; omega)
            have rb : wr.cell? ⟨w.heap.size, i + 1, none⟩ = some (.slice (some ⟨Ri, 0, none⟩) (l2.length + 1) (l2.length + 1)) := HGR.out.cell ((st.cellAt (i + 1) (by have := st.1; omega)).trans k1) (by simp; omega)
            have hoc := oc.1
            have V2 := (oc.cellAt (k + 1) (by omega)).trans (icells_get (HF.out.2 (k + 1) (by omega) (.inl (Nat.le_refl _))))
            have yk := oc.cellAt k (by omega)
            rw [List.getElem?_eq_getElem (by omega)] at yk
            generalize (icells cur)[k]'(by omega) = Yk at yk
            have fk := oc.frozenAt k
            have LR := Ln.lcs_ref (l1[i]'hi1) (l2[k]'hk1) (l1.drop (i + 1)) (l2.drop (k + 1))
            rw [← List.drop_eq_getElem_cons hi1, ← List.drop_eq_getElem_cons hk1] at LR
            have m1 := Ln.lcs_le (l1.drop (i + 1)) (l2.drop k)
            have m2 := Ln.lcs_le (l1.drop i) (l2.drop (k + 1))
            have m3 := Ln.lcs_le (l1.drop (i + 1)) (l2.drop (k + 1))
            simp only [List.length_drop] at m1 m2 m3
            have HFS : Hid (∀ v, v = Ln.lcs (l1.drop i) (l2.drop k) → RowF l1 l2 i (cur.set k v) k) := fun v hv => rowF_step HF.out hi1 hk1 hv
            have HLR : Hid (Ln.lcs (l1.drop i) (l2.drop k) = if l1[i]'hi1 = l2[k]'hk1 then max (max (Ln.lcs (l1.drop (i + 1)) (l2.drop k)) (Ln.lcs (l1.drop i) (l2.drop (k + 1)))) (Ln.lcs (l1.drop (i + 1)) (l2.drop (k + 1)) + 1) else max (Ln.lcs (l1.drop (i + 1)) (l2.drop k)) (Ln.lcs (l1.drop i) (l2.drop (k + 1)))) := LR
            clear LR k1 k4
            generalize Ln.lcs (l1.drop (i + 1)) (l2.drop k) = v1 at *
            generalize Ln.lcs (l1.drop i) (l2.drop (k + 1)) = v2 at *
            generalize Ln.lcs (l1.drop (i + 1)) (l2.drop (k + 1)) = v3 at *
            have hwi1 : IntKind.i64.wrap ((i : Int) + 1) = (i : Int) + 1 := by rw [IntKind.wrap_i64]; omega
            have hwk1 : IntKind.i64.wrap ((k : Int) + 1) = (k : Int) + 1 := by rw [IntKind.wrap_i64]; omega
            have hwv3 : IntKind.i64.wrap ((v3 : Int) + 1) = (v3 : Int) + 1 := by rw [IntKind.wrap_i64]; omega
            have x1 : (i : Int) + 1 < (l1.length : Int) + 1 := by omega
            have x2 : (k : Int) < (l2.length : Int) + 1 := by omega
            have x3 : (k : Int) + 1 < (l2.length : Int) + 1 := by omega
            obtain ⟨MX, hMX, hMM⟩ : ∃ MX : Nat, (if v1 < v2 then (v2 : Int) else (v1 : Int)) = (MX : Int) ∧ MX = max v1 v2 := by
              by_cases q : v1 < v2
              · exact ⟨v2, by rw [if_pos q], by omega⟩
              · exact ⟨v1, by rw [if_neg q], by omega⟩
            have HMM : Hid (MX = max v1 v2) := hMM
            have hMXb : MX ≤ 4096 := by omega
            clear hMM
            obtain ⟨st1, gr1⟩ := oc.stored k (.int .i64 (MX : Int))
            rw [icells_set] at st1
            obtain ⟨wz, hwz⟩ : ∃ wz, wz = (wr.setCell ⟨wo.heap.size, k, none⟩ (.int .i64 (MX : Int))).drew := ⟨_, rfl⟩
            have oz : wz.ownsRow w.heap.size 3 1 (.slice (some ⟨wo.heap.size, 0, none⟩) (l2.length + 1) (l2.length + 1)) (l2.length + 1) (icells (cur.set k MX)) := by rw [hwz]; exact st1.drew
            have gz : wr.grownBy wz (some wo.heap.size) := by rw [hwz]; exact ⟨gr1.os, gr1.tape, gr1.output, gr1.size, gr1.block⟩
            have HGZ : Hid (w3.grownBy wz (some wo.heap.size)) := HGR.out.trans gz
            have HWZ : Hid (wz = (wr.setCell ⟨wo.heap.size, k, none⟩ (.int .i64 (MX : Int))).drew) := hwz
            clear hwz st1 gr1
            have hsz2 := gz.size
            have z1 : wz.cell? ⟨w.heap.size, i, none⟩ = some (.slice (some ⟨wo.heap.size, 0, none⟩) (l2.length + 1) (l2.length + 1)) := gz.cell ra (by simp; omega)
            have z2 : wz.cell? ⟨w.heap.size, i + 1, none⟩ = some (.slice (some ⟨Ri, 0, none⟩) (l2.length + 1) (l2.length + 1)) := gz.cell rb (by simp; omega)
            have z3 := gz.cell V3 (by simp; omega)
            have hzl : cur.length = l2.length + 1 := HF.out.1
            have z4 : wz.cell? ⟨wo.heap.size, k, none⟩ = some (.int .i64 (MX : Int)) := (oz.cellAt k (by have := oz.1; omega)).trans (icells_get (by rw [List.getElem?_set_self (by omega)]))
            have z5 := oz.frozenAt k
            have hBz : Below w.heap.size w wz := hB3.grown HGZ.out (by omega) (fun g e => by cases e; omega)
            obtain ⟨b1, o1, rfl, hb1, p1, p2⟩ := h1.cells i hi1
            obtain ⟨b2, o2, rfl, hb2, p3, p4⟩ := h2.cells k hk1
            have d1 : wz.cell? ⟨b1, o1 + i * 2, none⟩ = some (.string (l1[i]'hi1).1) := (hBz.cell (p := ⟨b1, o1 + i * 2, none⟩) hb1).trans p1
            have d2 : wz.cell? ⟨b1, o1 + i * 2 + 1, none⟩ = some (.bool (l1[i]'hi1).2) := (hBz.cell (p := ⟨b1, o1 + i * 2 + 1, none⟩) hb1).trans p2
            have d3 : wz.cell? ⟨b2, o2 + k * 2, none⟩ = some (.string (l2[k]'hk1).1) := (hBz.cell (p := ⟨b2, o2 + k * 2, none⟩) hb2).trans p3
            have d4 : wz.cell? ⟨b2, o2 + k * 2 + 1, none⟩ = some (.bool (l2[k]'hk1).2) := (hBz.cell (p := ⟨b2, o2 + k * 2 + 1, none⟩) hb2).trans p4
            clear p1 p2 p3 p4
            have cx : (i : Int) < (l1.length : Int) := by omega
            have cy : (k : Int) < (l2.length : Int) := by omega
            go_wp2_with fail
            go_region
            rw [← HWZ.out]
            clear ra rb V1 V2 V3 yk fk
            by_cases he : l1[i]'hi1 = l2[k]'hk1
            · obtain ⟨M2, hM2, hM3, hMM2⟩ : ∃ M2 : Nat, (if (MX : Int) < (v3 : Int) + 1 then (v3 : Int) + 1 else (MX : Int)) = (M2 : Int) ∧ (if MX < v3 + 1 then (v3 : Int) + 1 else (MX : Int)) = (M2 : Int) ∧ M2 = max MX (v3 + 1) := by
                by_cases q : MX < v3 + 1
                · exact ⟨v3 + 1, by rw [if_pos (by omega)]; omega, by rw [if_pos q]; omega, by omega⟩
                · exact ⟨MX, by rw [if_neg (by omega)], by rw [if_neg q], by omega⟩
              have HF2 : Hid (RowF l1 l2 i (cur.set k M2) k) := HFS.out _ (by rw [HLR.out, if_pos he, hMM2, HMM.out])
              rw [he] at d1 d2
              clear hMM2
              obtain ⟨st2, gr2⟩ := oz.stored k (.int .i64 (M2 : Int))
              rw [icells_set, List.set_set] at st2
              generalize l2[k]'hk1 = x at *
              obtain ⟨x1', x2'⟩ := x
              have heq := fun wx => line_eql x1' x1' x2' x2' wx
              have GR3 : ∀ m m', Hid (w3.grownBy (((wz.setCell ⟨wo.heap.size, k, none⟩ (.int .i64 (M2 : Int))).drewN m).drewN m') (some wo.heap.size)) := fun m m' => grown_drewN (grown_drewN (HGZ.out.trans gr2) m) m'
              go_wp2_with fail
              go_quiet (fail)
              obtain ⟨wy, hwy⟩ : ∃ wy, wy = wz.drewN nq := ⟨_, rfl⟩
              rw [← hwy]
              have hby : Below wz.heap.size wz wy := by rw [hwy]; exact below_drewN (Below.refl _ _) nq
              have HGY : Hid (w3.grownBy wy (some wo.heap.size)) := by rw [hwy]; exact grown_drewN HGZ.out nq
              clear hwy GR3 st2 gr2
              have y1 := (hby.cell (p := ⟨w.heap.size, i, none⟩) (by show w.heap.size < _; omega)).trans z1
              have y2' := (hby.cell (p := ⟨w.heap.size, i + 1, none⟩) (by show w.heap.size < _; omega)).trans z2
              have y3 := (hby.cell (p := ⟨Ri, k + 1, none⟩) (by show Ri < _; omega)).trans z3
              have y4 := (hby.cell (p := ⟨wo.heap.size, k, none⟩) (by show wo.heap.size < _; omega)).trans z4
              have y5 := (hby.frozen (p := ⟨wo.heap.size, k, none⟩) (by show wo.heap.size < _; omega)).trans z5
              obtain ⟨st2, gr2⟩ := (own_below oz hby).stored k (.int .i64 (M2 : Int))
              rw [icells_set, List.set_set] at st2
              have GR4 : Hid (w3.grownBy (wy.setCell ⟨wo.heap.size, k, none⟩ (.int .i64 (M2 : Int))).drew (some wo.heap.size)) := by
                have := HGY.out.trans gr2
                exact ⟨this.os, this.tape, this.output, this.size, this.block⟩
              clear z1 z2 z3 z4 z5 gr2 d1 d2 d3 d4
              go_wp2_with fail
              go_region
              all_goals
                go_wp2_with fail
                go_roundw
                case rel => exact ⟨k, cur.set k M2, by omega, by go_num, GR4, st2.drew, HF2⟩
                case measure => simp [intOf]
            · have HF2 : Hid (RowF l1 l2 i (cur.set k MX) k) := HFS.out _ (by rw [HLR.out, if_neg he, HMM.out])
              have hqq : (((l1[i]'hi1).1.toList == (l2[k]'hk1).1.toList) && ((l1[i]'hi1).2 == (l2[k]'hk1).2)) = false := by
                cases hz : (((l1[i]'hi1).1.toList == (l2[k]'hk1).1.toList) && ((l1[i]'hi1).2 == (l2[k]'hk1).2))
                · rfl
                · exact absurd ((Ln.line_eq _ _).2 hz) he
              clear he HLR
              generalize l1[i]'hi1 = x at *
              generalize l2[k]'hk1 = y at *
              obtain ⟨x1', x2'⟩ := x
              obtain ⟨y1', y2'⟩ := y
              have heq := fun wx => line_eql x1' y1' x2' y2' wx
              rw [hqq] at heq
              clear hqq
              go_wp2_with fail
              go_quiet (fail)
              go_wp2_with fail
              go_roundw
              case rel => exact ⟨k, cur.set k MX, by omega, by go_num, grown_drewN HGZ.out nq, own_drewN oz nq, HF2⟩
              case measure => simp [intOf]
end Go.Proofs.YtpoimhkfajppmaaDoor
