/- What the reference's Print of a command line answers. -/
import Derived.Test.YtklcfjakhabbgaaArPr
namespace Go.Proofs.Ytklcfjakhabbgaa
open Go.RowKit

/-- The memory of the reference's Print: the command line's box; the row of what is put together. -/
structure RpM (w : World) (x : Ar.Av) (a : Option Addr) (c : Nat) (b : Option Addr) (d : Nat) (L : List ByteArray) (v : Value) (W : World) : Prop where
  below : Below w.heap.size w W
  x0 : W.heap[w.heap.size]? = some (.cells (avA x a c b d) 28)
  row : W.ownsRow (w.heap.size + 1) 9 1 v L.length (L.map Value.string)
theorem RpM.app {w W W1 : World} {x : Ar.Av} {a b : Option Addr} {c d : Nat} {L l : List ByteArray} {v v' : Value} (h : RpM w x a c b d L v W) (o : Obj) (ho : W1.ownsRow (w.heap.size + 1) 9 1 v' (L.length + l.length) (L.map Value.string ++ l.map Value.string)) (hg : (W.alloc o).grownBy W1 v.ownBlock) : RpM w x a c b d (Ar.addL true L l) v' W1 := by
  have hlt := lt_of_block h.x0
  have h1 : ∀ k, k ≤ w.heap.size → W1.heap[k]? = W.heap[k]? := fun k hk => (hg.block k (by simp; omega) (fun e => by have := (h.row.lt k e.symm).1; omega)).trans (heap_alloc_old W o (by omega))
  refine ⟨⟨hg.os.trans h.below.os, hg.tape.trans h.below.tape, hg.output.trans h.below.output, Nat.le_trans h.below.size (by have := hg.size; simp at this; omega), fun k hk => (h1 k (by omega)).trans (h.below.block k hk)⟩, (h1 _ (Nat.le_refl _)).trans h.x0, ?_⟩
  show W1.ownsRow _ _ 1 v' (L ++ l).length ((L ++ l).map _)
  rw [List.length_append, List.map_append]
  exact ho
theorem RpM.grow {w W W1 : World} {x : Ar.Av} {a b : Option Addr} {c d : Nat} {L l : List ByteArray} {v v' : Value} (h : RpM w x a c b d L v W) (ho : W1.ownsRow (w.heap.size + 1) 9 1 v' (L.length + l.length) (L.map Value.string ++ l.map Value.string)) (hg : W.grownBy W1 v.ownBlock) : RpM w x a c b d (Ar.addL true L l) v' W1 := by
  have hlt := lt_of_block h.x0
  have h1 : ∀ k, k ≤ w.heap.size → W1.heap[k]? = W.heap[k]? := fun k hk => hg.block k (by omega) (fun e => by have := (h.row.lt k e.symm).1; omega)
  refine ⟨⟨hg.os.trans h.below.os, hg.tape.trans h.below.tape, hg.output.trans h.below.output, Nat.le_trans h.below.size hg.size, fun k hk => (h1 k (by omega)).trans (h.below.block k hk)⟩, (h1 _ (Nat.le_refl _)).trans h.x0, ?_⟩
  show W1.ownsRow _ _ 1 v' (L ++ l).length ((L ++ l).map _)
  rw [List.length_append, List.map_append]
  exact ho
theorem RpM.no {w W : World} {x : Ar.Av} {a b : Option Addr} {c d : Nat} {L : List ByteArray} {v : Value} (h : RpM w x a c b d L v W) (l : List ByteArray) : RpM w x a c b d (Ar.addL false L l) v W := by
  show RpM w x a c b d (L ++ []) v W
  rw [List.append_nil]; exact h
theorem two_string (s t : ByteArray) : ∀ u ∈ [Value.string s, Value.string t], u.oneCell' = true := by
  intro u hu
  simp only [List.mem_cons, List.not_mem_nil, or_false] at hu
  rcases hu with rfl | rfl <;> rfl
theorem one_string (s : ByteArray) : ∀ u ∈ [Value.string s], u.oneCell' = true := by
  intro u hu
  simp only [List.mem_singleton] at hu
  subst hu; rfl

theorem rprint_no (x : Ar.Av) (a b : Option Addr) (c d : Nat) (w : World) (h : AvR w x a c b d) (hr : Ar.rightB x = false) :
    Calls Try.prog 16 #[.agg (avA x a c b d)] w fun e w' => ∃ v, e = .returned (.tuple #[v, .int .i64 (Ar.printE x)]) ∧ PrIs x w.heap.size v w' ∧ Below w.heap.size w w' := by
  have HI : Hid (Calls Try.prog 18 #[.agg (avA x a c b d)] (w.alloc (.cells (avA x a c b d) 28)) fun e w' => e = .returned (.bool (Ar.rightB x)) ∧ Below (w.alloc (.cells (avA x a c b d) 28)).heap.size (w.alloc (.cells (avA x a c b d) 28)) w') := rright_any x a b c d _ (by have := h.sf; unfold maxLen; omega) h.sc.len
  have HE : Hid (Ar.printE x = 260) := by show _ = _; rw [Ar.printE, if_pos hr]
  rw [hr] at HI
  have HP : Hid (∀ w', PrIs x w.heap.size (.slice none 0 0) w') := fun w' => ⟨fun e => (by rw [HE.out] at e; cases e), fun _ => rfl⟩
  obtain ⟨E, hE⟩ : ∃ E, E = Ar.printE x := ⟨_, rfl⟩
  rw [← hE] at HE ⊢
  clear hE hr h
  simp only [avA] at *
  go_enter Try.func16, Try.ntmps16
  go_wp2_with (go_at_call 18; refine Calls.mono HI.out ?_; rintro e w5 ⟨rfl, hb⟩)
  go_ret2
  exact ⟨.slice none 0 0, ret2_int HE.out.symm, HP.out _, below_up (alloc_below _ _) hb (Nat.le_refl _)⟩

set_option maxRecDepth 100000 in
set_option maxHeartbeats 1000000 in
theorem rprint_yes (x : Ar.Av) (a b : Option Addr) (c d : Nat) (w : World) (h : AvR w x a c b d) (hr : Ar.rightB x = true) :
    Calls Try.prog 16 #[.agg (avA x a c b d)] w fun e w' => ∃ v, e = .returned (.tuple #[v, .int .i64 (Ar.printE x)]) ∧ PrIs x w.heap.size v w' ∧ Below w.heap.size w w' := by
  obtain ⟨i0, hi, hz0, hz1, hz2⟩ := info_parts Try.infoStr
  have n1 := h.sc.len
  have n2 := h.nm.len
  have HI : Hid (Calls Try.prog 18 #[.agg (avA x a c b d)] (w.alloc (.cells (avA x a c b d) 28)) fun e w' => e = .returned (.bool (Ar.rightB x)) ∧ Below (w.alloc (.cells (avA x a c b d) 28)).heap.size (w.alloc (.cells (avA x a c b d) 28)) w') := rright_any x a b c d _ (by have := h.sf; unfold maxLen; omega) h.sc.len
  have hsf : x.sf.size ≤ 255 := by
    simp only [Ar.rightB, Ar.sfxB, Bool.and_eq_true, decide_eq_true_eq] at hr
    exact hr.2.1.1
  have HE : Hid (Ar.printE x = if 65536 < (Ar.printL x).length then 3 else 0) := by show _ = _; rw [Ar.printE, if_neg (by rw [hr]; decide)]
  have HO : Hid _ := Ar.optL_add x
  rw [hr] at HI
  have HA : Hid _ := h
  clear h hr
  simp only [avA] at *
  go_enter Try.func16, Try.ntmps16
  go_upto_if 13 with (go_at_call 18; refine Calls.mono HI.out ?_; rintro e w5 ⟨rfl, hb⟩; have hs5 : w.heap.size < w5.heap.size := (by have := hb.size; simp at this; omega); have X0 : w5.heap[w.heap.size]? = some (.cells (avA x a c b d) 28) := (hb.block _ (by simp)).trans (heap_alloc_new _ _); have x0 : w5.cell? ⟨w.heap.size, 0, none⟩ = some (.bool x.q) := cell_of_row _ _ _ _ _ _ X0; have HX0 : Hid (w5.heap[w.heap.size]? = some (.cells (avA x a c b d) 28)) := X0; clear X0; have HB5 : Hid (Below w.heap.size w w5) := below_up (alloc_below _ _) hb (Nat.le_refl _); clear hb)
  have HM0 : Hid (RpM w x a c b d [] (.slice none 0 0) w5) := ⟨HB5.out, HX0.out, World.ownsRow_nil _ _ _ _⟩
  have HQ : Hid (∀ L v W, RpM w x a c b d L v W → W.cell? ⟨w.heap.size, 1, none⟩ = some (.bool x.e) ∧ W.cell? ⟨w.heap.size, 2, none⟩ = some (.bool x.s) ∧ W.cell? ⟨w.heap.size, 3, none⟩ = some (.bool x.i) ∧ W.cell? ⟨w.heap.size, 4, none⟩ = some (.string x.sf) ∧ W.cell? ⟨w.heap.size, 5, none⟩ = some (.slice a x.sc.length c) ∧ W.cell? ⟨w.heap.size, 6, none⟩ = some (.slice b x.nm.length d) ∧ w.heap.size < W.heap.size) := fun L v W h =>
    ⟨cell_of_row _ _ _ _ _ _ h.x0, cell_of_row _ _ _ _ _ _ h.x0, cell_of_row _ _ _ _ _ _ h.x0, cell_of_row _ _ _ _ _ _ h.x0, cell_of_row _ _ _ _ _ _ h.x0, cell_of_row _ _ _ _ _ _ h.x0, lt_of_block h.x0⟩
  clear HX0 HB5 x0 HI
  have HN0 : Hid (([] : List ByteArray).length + 1 ≤ maxLen ∧ (([] : List ByteArray).length + 1) * 16 ≤ 140737488355328) := (by have h9 : ([] : List ByteArray).length ≤ 4 := Nat.zero_le _; exact ⟨by unfold maxLen; omega, by omega⟩)
  go_cut [0, 5] (fun _ v wx => ∃ v1, v = v1 ∧ Hid (RpM w x a c b d (Ar.addL x.q ([] : List ByteArray) [⟨#[45, 110]⟩]) v1 wx))
  case first =>
    cases hq : x.q
    · have HF : Hid _ := HM0.out.no [⟨#[45, 110]⟩]
      go_wp2_with fail
      go_meet
      case rel => exact ⟨_, rfl, by rw [hq]; exact HF⟩
    · go_wp2_with (at_builtin; refine wpList_append_own_at _ rfl (.tmp 14) (.tmp 15) 22 rfl (w.heap.size + 1) 9 i0 (.string ⟨#[]⟩) 1 16 Try.underlying22 hi hz0 hz1 hz2 rfl (by decide) _ _ _ rfl (HM0.out.row.alloc _) ⟨w5.heap.size, 0, none⟩ 1 1 [.string ⟨#[45, 110]⟩] rfl rfl (cell_one_new _ _ _) (one_string _) HN0.out.1 HN0.out.2 (by have := lt_of_block HM0.out.x0; simp; omega) ?_)
      intro v' w' ho1 hg1 _ _
      have HF : Hid (RpM w x a c b d (Ar.addL true ([] : List ByteArray) [⟨#[45, 110]⟩]) v' w') := HM0.out.app _ ho1 hg1
      clear ho1 hg1
      go_wp2_with fail
      go_meet
      case rel => exact ⟨_, rfl, by rw [hq]; exact HF⟩
  case rest =>
    obtain ⟨v1, rfl, HM1⟩ := hcut
    rename World => w10
    obtain ⟨q1, q2, q3, q4, q5, q6, q7⟩ := HQ.out _ _ _ HM1.out
    clear HM0 HN0
    go_upto_if 19 with fail
    have HN1 : Hid ((Ar.addL x.q ([] : List ByteArray) [⟨#[45, 110]⟩]).length + 1 ≤ maxLen ∧ ((Ar.addL x.q ([] : List ByteArray) [⟨#[45, 110]⟩]).length + 1) * 16 ≤ 140737488355328) := (by have h9 : (Ar.addL x.q ([] : List ByteArray) [⟨#[45, 110]⟩]).length ≤ 4 := Nat.le_trans (Ar.addL_len (Nat.le_refl 0)) (by decide); exact ⟨by unfold maxLen; omega, by omega⟩)
    go_cut [0, 5] (fun _ v wx => ∃ v1, v = v1 ∧ Hid (RpM w x a c b d (Ar.addL x.e (Ar.addL x.q ([] : List ByteArray) [⟨#[45, 110]⟩]) [⟨#[45, 69]⟩]) v1 wx))
    case first =>
      cases hq : x.e
      · have HF : Hid _ := HM1.out.no [⟨#[45, 69]⟩]
        go_wp2_with fail
        go_meet
        case rel => exact ⟨_, rfl, by rw [hq]; exact HF⟩
      · go_wp2_with (at_builtin; refine wpList_append_own_at _ rfl (.tmp 20) (.tmp 21) 22 rfl (w.heap.size + 1) 9 i0 (.string ⟨#[]⟩) 1 16 Try.underlying22 hi hz0 hz1 hz2 rfl (by decide) _ _ _ rfl (HM1.out.row.alloc _) ⟨w10.heap.size, 0, none⟩ 1 1 [.string ⟨#[45, 69]⟩] rfl rfl (cell_one_new _ _ _) (one_string _) HN1.out.1 HN1.out.2 (by have := lt_of_block HM1.out.x0; simp; omega) ?_)
        intro v' w' ho1 hg1 _ _
        have HF : Hid (RpM w x a c b d (Ar.addL true (Ar.addL x.q ([] : List ByteArray) [⟨#[45, 110]⟩]) [⟨#[45, 69]⟩]) v' w') := HM1.out.app _ ho1 hg1
        clear ho1 hg1
        go_wp2_with fail
        go_meet
        case rel => exact ⟨_, rfl, by rw [hq]; exact HF⟩
    case rest =>
      obtain ⟨v2, rfl, HM2⟩ := hcut
      rename World => w11
      clear q1 q2 q3 q4 q5 q6 q7
      obtain ⟨q1, q2, q3, q4, q5, q6, q7⟩ := HQ.out _ _ _ HM2.out
      clear HM1 HN1
      go_upto_region 9 with fail
      go_cut [0, 31] (fun _ v wx => v = .bool (x.s && !x.i) ∧ w11 = wx)
      case first =>
        cases hs : x.s
        · rw [hs] at q2
          go_wp2_with fail
          go_meet
          case rel => exact ⟨by rw [hs]; rfl, rfl⟩
        · rw [hs] at q2
          go_wp2_with fail
          go_meet
          case rel => exact ⟨by rw [hs]; rfl, rfl⟩
      case rest =>
        obtain ⟨rfl, rfl⟩ := hcut
        go_upto_if 31 with fail
        have HN2 : Hid ((Ar.addL x.e (Ar.addL x.q ([] : List ByteArray) [⟨#[45, 110]⟩]) [⟨#[45, 69]⟩]).length + 1 ≤ maxLen ∧ ((Ar.addL x.e (Ar.addL x.q ([] : List ByteArray) [⟨#[45, 110]⟩]) [⟨#[45, 69]⟩]).length + 1) * 16 ≤ 140737488355328) := (by have h9 : (Ar.addL x.e (Ar.addL x.q ([] : List ByteArray) [⟨#[45, 110]⟩]) [⟨#[45, 69]⟩]).length ≤ 4 := Nat.le_trans (Ar.addL_len (Ar.addL_len (Nat.le_refl 0))) (by decide); exact ⟨by unfold maxLen; omega, by omega⟩)
        go_cut [0, 5] (fun _ v wx => ∃ v1, v = v1 ∧ Hid (RpM w x a c b d (Ar.addL (x.s && !x.i) (Ar.addL x.e (Ar.addL x.q ([] : List ByteArray) [⟨#[45, 110]⟩]) [⟨#[45, 69]⟩]) [⟨#[45, 115]⟩]) v1 wx))
        case first =>
          cases hq : (x.s && !x.i)
          · have HF : Hid _ := HM2.out.no [⟨#[45, 115]⟩]
            go_wp2_with fail
            go_meet
            case rel => exact ⟨_, rfl, by rw [hq]; exact HF⟩
          · go_wp2_with (at_builtin; refine wpList_append_own_at _ rfl (.tmp 32) (.tmp 33) 22 rfl (w.heap.size + 1) 9 i0 (.string ⟨#[]⟩) 1 16 Try.underlying22 hi hz0 hz1 hz2 rfl (by decide) _ _ _ rfl (HM2.out.row.alloc _) ⟨w11.heap.size, 0, none⟩ 1 1 [.string ⟨#[45, 115]⟩] rfl rfl (cell_one_new _ _ _) (one_string _) HN2.out.1 HN2.out.2 (by have := lt_of_block HM2.out.x0; simp; omega) ?_)
            intro v' w' ho1 hg1 _ _
            have HF : Hid (RpM w x a c b d (Ar.addL true (Ar.addL x.e (Ar.addL x.q ([] : List ByteArray) [⟨#[45, 110]⟩]) [⟨#[45, 69]⟩]) [⟨#[45, 115]⟩]) v' w') := HM2.out.app _ ho1 hg1
            clear ho1 hg1
            go_wp2_with fail
            go_meet
            case rel => exact ⟨_, rfl, by rw [hq]; exact HF⟩
        case rest =>
          obtain ⟨v3, rfl, HM3⟩ := hcut
          rename World => w12
          clear q1 q2 q3 q4 q5 q6 q7
          obtain ⟨q1, q2, q3, q4, q5, q6, q7⟩ := HQ.out _ _ _ HM3.out
          clear HM2 HN2
          obtain ⟨L3, hL3⟩ : ∃ L3, L3 = (Ar.addL (x.s && !x.i) (Ar.addL x.e (Ar.addL x.q ([] : List ByteArray) [⟨#[45, 110]⟩]) [⟨#[45, 69]⟩]) [⟨#[45, 115]⟩]) := ⟨_, rfl⟩
          have hl3 : L3.length ≤ 3 := by rw [hL3]; exact Ar.addL_len (Ar.addL_len (Ar.addL_len (Nat.le_refl 0)))
          rw [← hL3] at HM3 HO
          clear hL3
          go_upto_if 37 with fail
          have HN3 : Hid (L3.length + 1 ≤ maxLen ∧ (L3.length + 1) * 16 ≤ 140737488355328) := (by have h9 : L3.length ≤ 4 := Nat.le_trans hl3 (by decide); exact ⟨by unfold maxLen; omega, by omega⟩)
          go_cut [0, 5] (fun _ v wx => ∃ v1, v = v1 ∧ Hid (RpM w x a c b d (Ar.addL x.i L3 [(Ar.ip x.sf)]) v1 wx))
          case first =>
            cases hq : x.i
            · have HF : Hid _ := HM3.out.no [(Ar.ip x.sf)]
              go_wp2_with fail
              go_meet
              case rel => exact ⟨_, rfl, by rw [hq]; exact HF⟩
            · go_wp2_with (at_builtin; refine wpList_append_own_at _ rfl (.tmp 38) (.tmp 43) 22 rfl (w.heap.size + 1) 9 i0 (.string ⟨#[]⟩) 1 16 Try.underlying22 hi hz0 hz1 hz2 rfl (by decide) _ _ _ rfl (HM3.out.row.alloc _) ⟨w12.heap.size, 0, none⟩ 1 1 [.string (Ar.ip x.sf)] rfl rfl (cell_one_new _ _ _) (one_string _) HN3.out.1 HN3.out.2 (by have := lt_of_block HM3.out.x0; simp; omega) ?_)
              intro v' w' ho1 hg1 _ _
              have HF : Hid (RpM w x a c b d (Ar.addL true L3 [(Ar.ip x.sf)]) v' w') := HM3.out.app _ ho1 hg1
              clear ho1 hg1
              go_wp2_with fail
              go_meet
              case rel => exact ⟨_, rfl, by rw [hq]; exact HF⟩
          case rest =>
            obtain ⟨v4, rfl, HM4⟩ := hcut
            rename World => w13
            clear q1 q2 q3 q4 q5 q6 q7
            obtain ⟨q1, q2, q3, q4, q5, q6, q7⟩ := HQ.out _ _ _ HM4.out
            clear HM3 HN3
            have HM : Hid (RpM w x a c b d (Ar.optL x) _ w13) := (by rw [HO.out]; exact HM4.out)
            clear HM4 HO
            obtain ⟨va, vc, rfl⟩ := own_slice HM.out.row
            have hN : (Ar.optL x).length ≤ 4 := Ar.optL_length x
            have hpl := Ar.printL_length x
            have HPL : Hid (Ar.printL x = Ar.addL true (Ar.addL true (Ar.optL x ++ Ar.scL x.sc) [⟨#[45, 45]⟩]) x.nm) := rfl
            have HST : Hid (∀ k (hk : k < x.sc.length), Ar.addL true (Ar.optL x ++ Ar.scL (x.sc.take k)) (if (x.sc[k]).1 then [⟨#[45, 102]⟩, (x.sc[k]).2] else [⟨#[45, 101]⟩, (x.sc[k]).2]) = Ar.optL x ++ Ar.scL (x.sc.take (k + 1))) := fun k hk => (by rw [List.take_succ_eq_append_getElem hk, Ar.scL_snoc, ← List.append_assoc]; rfl)
            have HL : Hid (∀ k, (Ar.optL x ++ Ar.scL (x.sc.take k)).length ≤ 2199023255556) := fun k => (by
              have h2 := Ar.scL_length (x.sc.take k)
              have h3 : (x.sc.take k).length ≤ x.sc.length := by rw [List.length_take]; omega
              rw [List.length_append]; omega)
            have HPN : Hid (∀ v W, RpM w x a c b d (Ar.printL x) v W → W.ownsRow w.heap.size 9 1 v (Ar.printL x).length ((Ar.printL x).map Value.string)) := fun v W h => own_lo h.row (by omega)
            obtain ⟨O, hO⟩ : ∃ O, O = Ar.optL x := ⟨_, rfl⟩
            rw [← hO] at HM hN hpl HPL HST HL
            rw [← hO]
            clear hO
            by_cases hbig : 65536 < (Ar.printL x).length
            · have HE2 : Hid (Ar.printE x = 3) := by show _ = _; rw [HE.out, if_pos hbig]
              have hb2 : (65536 : Int) < (O.length : Int) + 2 * (x.sc.length : Int) + 1 + (x.nm.length : Int) := by omega
              clear hbig hpl
              go_wp2_with fail
              go_ret2
              exact ⟨.slice none 0 0, ret2_int HE2.out.symm, ⟨fun e => (by rw [HE2.out] at e; cases e), fun _ => rfl⟩, HM.out.below⟩
            have HE2 : Hid (Ar.printE x = 0) := by show _ = _; rw [HE.out, if_neg hbig]
            have hb2 : ¬ (65536 : Int) < (O.length : Int) + 2 * (x.sc.length : Int) + 1 + (x.nm.length : Int) := by omega
            clear hbig hpl
            go_wp2_with fail
            go_loopw [5, 6] (fun v i wr => ∃ (k : Nat) (v' : Value), k ≤ x.sc.length ∧ i = .int .i64 k ∧ v = v' ∧ Hid (RpM w x a c b d (O ++ Ar.scL (x.sc.take k)) v' wr)) (fun _ i _ => x.sc.length - (intOf i).toNat)
            case atStart => exact ⟨0, _, Nat.zero_le _, rfl, rfl, by show RpM _ _ _ _ _ _ (O ++ []) _ _; rw [List.append_nil]; exact HM.out⟩
            case round =>
              clear HM q1 q2 q3 q4 q5 q6 q7
              obtain ⟨k, v, hk, rfl, rfl, HK⟩ := hrel
              obtain ⟨_, _, _, _, z5, z6, zz⟩ := HQ.out _ _ _ HK.out
              by_cases hlt : k < x.sc.length
              · obtain ⟨bb, off, rfl, hbb, e1, e2⟩ := HA.out.sc.cells k hlt
                have hT := HST.out k hlt
                obtain ⟨p, hp⟩ : ∃ p, x.sc[k] = p := ⟨_, rfl⟩
                rw [hp] at e1 e2 hT
                obtain ⟨p1, p2⟩ := p
                have x0 : wr.cell? ⟨bb, off + k * 2, none⟩ = some (.bool p1) := (HK.out.below.cell (p := ⟨bb, off + k * 2, none⟩) hbb).trans e1
                have x1 : wr.cell? ⟨bb, off + k * 2 + 1, none⟩ = some (.string p2) := (HK.out.below.cell (p := ⟨bb, off + k * 2 + 1, none⟩) hbb).trans e2
                have i1 : (k : Int) < (x.sc.length : Int) := by omega
                have HB : Hid ((O ++ Ar.scL (x.sc.take k)).length + 2 ≤ maxLen ∧ ((O ++ Ar.scL (x.sc.take k)).length + 2) * 16 ≤ 140737488355328) := (by have h9 := HL.out k; exact ⟨by unfold maxLen; omega, by omega⟩)
                have HT : Hid _ := hT
                clear hp hT e1 e2
                obtain ⟨T, hTT⟩ : ∃ T, T = O ++ Ar.scL (x.sc.take k) := ⟨_, rfl⟩
                rw [← hTT] at HK HT HB
                clear hTT
                cases p1
                · go_wp2_with (at_builtin; refine wpList_append_own_at _ rfl (.tmp 80) (.tmp 87) 22 rfl (w.heap.size + 1) 9 i0 (.string ⟨#[]⟩) 1 16 Try.underlying22 hi hz0 hz1 hz2 rfl (by decide) _ _ _ rfl (HK.out.row.alloc _) ⟨wr.heap.size, 0, none⟩ 2 2 [.string ⟨#[45, 101]⟩, .string p2] rfl rfl (cell_two_new _ _ _ _) (two_string _ _) HB.out.1 HB.out.2 (by have := lt_of_block HK.out.x0; simp; omega) ?_)
                  intro v' w' ho1 hg1 _ _
                  have HF : Hid (RpM w x (some ⟨bb, off, none⟩) c b d (O ++ Ar.scL (x.sc.take (k + 1))) v' w') := (by
                    have h9 := HK.out.app (l := [⟨#[45, 101]⟩, p2]) _ ho1 hg1
                    rw [← HT.out]; exact h9)
                  clear ho1 hg1
                  go_wp2_with fail
                  go_roundw
                  case rel => exact ⟨k + 1, _, by omega, by go_num, rfl, HF⟩
                  case measure => simp [intOf]; omega
                · go_wp2_with (at_builtin; refine wpList_append_own_at _ rfl (.tmp 71) (.tmp 78) 22 rfl (w.heap.size + 1) 9 i0 (.string ⟨#[]⟩) 1 16 Try.underlying22 hi hz0 hz1 hz2 rfl (by decide) _ _ _ rfl (HK.out.row.alloc _) ⟨wr.heap.size, 0, none⟩ 2 2 [.string ⟨#[45, 102]⟩, .string p2] rfl rfl (cell_two_new _ _ _ _) (two_string _ _) HB.out.1 HB.out.2 (by have := lt_of_block HK.out.x0; simp; omega) ?_)
                  intro v' w' ho1 hg1 _ _
                  have HF : Hid (RpM w x (some ⟨bb, off, none⟩) c b d (O ++ Ar.scL (x.sc.take (k + 1))) v' w') := (by
                    have h9 := HK.out.app (l := [⟨#[45, 102]⟩, p2]) _ ho1 hg1
                    rw [← HT.out]; exact h9)
                  clear ho1 hg1
                  go_wp2_with fail
                  go_roundw
                  case rel => exact ⟨k + 1, _, by omega, by go_num, rfl, HF⟩
                  case measure => simp [intOf]; omega
              · have i1 : ¬ (k : Int) < (x.sc.length : Int) := by omega
                have HK2 : Hid (RpM w x a c b d (O ++ Ar.scL x.sc) _ wr) := (by
                  have := HK.out
                  rwa [List.take_of_length_le (by omega)] at this)
                have hl0 : (O ++ Ar.scL x.sc).length ≤ 2199023255556 := (by
                  have := HL.out x.sc.length
                  rwa [List.take_length] at this)
                clear HK HST HL
                obtain ⟨M, hM⟩ : ∃ M, M = O ++ Ar.scL x.sc := ⟨_, rfl⟩
                rw [← hM] at HK2 hl0 HPL
                clear hM
                go_upto_region 22 with (at_builtin; refine wpList_append_own_at _ rfl (.tmp 89) (.tmp 90) 22 rfl (w.heap.size + 1) 9 i0 (.string ⟨#[]⟩) 1 16 Try.underlying22 hi hz0 hz1 hz2 rfl (by decide) _ _ _ rfl (HK2.out.row.alloc _) ⟨wr.heap.size, 0, none⟩ 1 1 [.string ⟨#[45, 45]⟩] rfl rfl (cell_one_new _ _ _) (one_string _) (by unfold maxLen; omega) (by omega) (by have := lt_of_block HK2.out.x0; simp; omega) ?_; intro v' w' ho1 hg1 _ _; have HF : Hid (RpM w x a c b d (Ar.addL true M [⟨#[45, 45]⟩]) v' w') := HK2.out.app _ ho1 hg1; obtain ⟨_, _, _, _, _, y6, yz⟩ := HQ.out _ _ _ HF.out; clear ho1 hg1)
                have hl1 : (Ar.addL true M [⟨#[45, 45]⟩]).length ≤ 2199023255557 := Ar.addL_len hl0
                have HS : Hid (Strs w' b d x.nm) := HA.out.nm.below HF.out.below
                cases b with
                | none =>
                  obtain ⟨hz, rfl⟩ := HS.out.none
                  have HF2 : Hid (RpM w x a c none 0 (Ar.printL x) v' w') := (by
                    rw [HPL.out, hz]
                    show RpM _ _ _ _ _ _ (_ ++ []) _ _
                    rw [List.append_nil]; exact HF.out)
                  have hz0' : x.nm.length = 0 := by rw [hz]; rfl
                  clear hz
                  go_wp2_with (at_builtin; refine wpList_append_none2 _ rfl (.tmp 92) (.tmp 94) 22 22 rfl 9 9 Try.underlying22 Try.underlying22 i0 hi (w.heap.size + 1) _ _ _ 1 rfl HF.out.row (by first | rfl | simp [Act.eval, hz0']) ?_)
                  go_wp2_with fail
                  go_ret2
                  exact ⟨_, ret2_int HE2.out.symm, ⟨fun _ => HPN.out _ _ HF2.out, fun e => absurd HE2.out e⟩, HF2.out.below⟩
                | some ad =>
                  go_wp2_with (at_builtin; refine wpList_append_own_at _ rfl (.tmp 92) (.tmp 94) 22 rfl (w.heap.size + 1) 9 i0 (.string ⟨#[]⟩) 1 16 Try.underlying22 hi hz0 hz1 hz2 rfl (by decide) _ _ _ rfl HF.out.row ad x.nm.length d (x.nm.map Value.string) rfl (by simp) HS.out.news (strings_oneCell x.nm) (by unfold maxLen; omega) (by omega) (by have := lt_of_block HF.out.x0; omega) ?_)
                  intro v2 w2 ho2 hg2 _ _
                  have HF2 : Hid (RpM w x a c (some ad) d (Ar.printL x) v2 w2) := (by rw [HPL.out]; exact HF.out.grow ho2 hg2)
                  clear ho2 hg2
                  go_wp2_with fail
                  go_ret2
                  exact ⟨_, ret2_int HE2.out.symm, ⟨fun _ => HPN.out _ _ HF2.out, fun e => absurd HE2.out e⟩, HF2.out.below⟩
end Go.Proofs.Ytklcfjakhabbgaa
