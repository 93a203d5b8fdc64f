/- What args.Print answers: a command line as arguments. -/
import Derived.Test.YtklcfjakhabbgaaArAd
import Derived.Deep.DeepCutAuto
namespace Go.Proofs.Ytklcfjakhabbgaa
open Go.RowKit

namespace Ar
theorem optL_add (x : Av) : optL x = addL x.i (addL (x.s && !x.i) (addL x.e (addL x.q [] [⟨#[45, 110]⟩]) [⟨#[45, 69]⟩]) [⟨#[45, 115]⟩]) [ip x.sf] := by simp [optL, addL]
theorem scL_step (L : List ByteArray) (l : List Pc) (k : Nat) (h : k < l.length) : addL (l[k]).1 (addL (!(l[k]).1) (L ++ scL (l.take k)) [⟨#[45, 101]⟩, (l[k]).2]) [⟨#[45, 102]⟩, (l[k]).2] = L ++ scL (l.take (k + 1)) := by
  rw [List.take_succ_eq_append_getElem h, scL_snoc]
  cases (l[k]).1 <;> simp [addL]
end Ar
theorem ret2_int {v : Value} {k : IntKind} {a b : Int} (h : a = b) : Ending.returned (.tuple #[v, .int k a]) = .returned (.tuple #[v, .int k b]) := by rw [h]
/-- What Print answers. -/
def PrIs (x : Ar.Av) (n : Nat) (v : Value) (w : World) : Prop :=
  (Ar.printE x = 0 → w.ownsRow n 9 1 v (Ar.printL x).length ((Ar.printL x).map Value.string)) ∧ (Ar.printE x ≠ 0 → v = .slice none 0 0)

namespace Ar
theorem addL_len {t : Bool} {L l : List ByteArray} {n : Nat} (h : L.length ≤ n) : (addL t L l).length ≤ n + l.length := by
  unfold addL; rw [List.length_append]; split
  · omega
  · simp; omega
end Ar
/-- The memory of Print: the command line's box, the box of what is put together, the options' box. -/
structure PrM (w W6 : World) (x : Ar.Av) (a : Option Addr) (c : Nat) (b : Option Addr) (d : Nat) (g : Nat) (L : List ByteArray) (v : Value) (W : World) : Prop where
  below : Below w.heap.size w W
  wn : Wn W6 g (g + 2) L v W
  x0 : W.heap[w.heap.size]? = some (.cells (avA x a c b d) 28)
  o0 : W.heap[g + 1]? = some (.cells #[.bool x.q, .bool x.e, .bool x.s, .bool x.i, .string x.sf] 25)
  lt : w.heap.size < g
theorem PrM.alloc {w W6 W : World} {x : Ar.Av} {a b : Option Addr} {c d g : Nat} {L : List ByteArray} {v : Value} (h : PrM w W6 x a c b d g L v W) (o : Obj) : PrM w W6 x a c b d g L v (W.alloc o) :=
  ⟨below_up h.below (alloc_below _ _) (Nat.le_refl _), h.wn.alloc o, by rw [heap_alloc_old _ _ (lt_of_block h.x0)]; exact h.x0, by rw [heap_alloc_old _ _ (lt_of_block h.o0)]; exact h.o0, h.lt⟩
theorem PrM.add {w W6 W : World} {x : Ar.Av} {a b : Option Addr} {c d g : Nat} {L : List ByteArray} {v : Value} (h : PrM w W6 x a c b d g L v W) (told : Bool) {a' : Option Addr} {c' : Nat} {l : List ByteArray} (hl : Strs W a' c' l) (hL : L.length ≤ 4398046511104) :
    Calls Try.prog 29 #[.pointer (some ⟨g, 0, none⟩), .bool told, .slice a' l.length c'] W fun e w' => e = .returned (.tuple #[]) ∧ ∃ v', PrM w W6 x a c b d g (Ar.addL told L l) v' w' ∧ Tu (fun q => q = g ∨ blk v = some q) W w' := by
  refine (add_any W6 g (g + 2) L v told a' c' l W h.wn hl hL).mono fun e w' ⟨he, v', h1, h2⟩ => ⟨he, v', ⟨?_, h1, ?_, ?_, h.lt⟩, h2⟩
  · have hb : Below w.heap.size W w' := h2.below (by have := lt_of_block h.x0; omega) (fun k e => by
      rcases e with rfl | e
      · have := h.lt; omega
      · have := (h.wn.row.lt k e).1; have := h.lt; omega)
    exact below_tr h.below hb
  · rw [h2.block _ (lt_of_block h.x0) (fun e => by
      rcases e with e | e
      · have := h.lt; omega
      · have := (h.wn.row.lt _ e).1; have := h.lt; omega)]
    exact h.x0
  · rw [h2.block _ (lt_of_block h.o0) (fun e => by
      rcases e with e | e
      · omega
      · have := (h.wn.row.lt _ e).1; omega)]
    exact h.o0
set_option maxRecDepth 100000 in
set_option maxHeartbeats 1000000 in
theorem print_any (x : Ar.Av) (a b : Option Addr) (c d : Nat) (w : World) (h : AvR w x a c b d) :
    Calls Try.prog 15 #[.agg (avA x a c b d)] w fun e w' => ∃ v, e = .returned (.tuple #[v, .int .i64 (Ar.printE x)]) ∧ PrIs x w.heap.size v w' ∧ Below w.heap.size w w' := by
  have n1 := h.sc.len
  have n2 := h.nm.len
  have HI : Hid (Calls Try.prog 17 #[.agg (avA x a c b d)] (w.alloc (.cells (avA x a c b d) 28)) fun e w' => e = .returned (.bool (Ar.rightB x)) ∧ Below (w.alloc (.cells (avA x a c b d) 28)).heap.size (w.alloc (.cells (avA x a c b d) 28)) w') := right_any x a b c d _ (by have := h.sf; unfold maxLen; omega) n1
  cases hr : Ar.rightB x
  · have HE : Hid (Ar.printE x = 260) := by show _ = _; rw [Ar.printE, if_pos hr]
    rw [hr] at HI
    have HP : Hid (∀ w', PrIs x w.heap.size (.slice none 0 0) w') := fun w' => ⟨fun e => (by rw [HE.out] at e; cases e), fun _ => rfl⟩
    obtain ⟨E, hE⟩ : ∃ E, E = Ar.printE x := ⟨_, rfl⟩
    rw [← hE] at HE ⊢
    clear hE hr h
    simp only [avA] at *
    go_enter Try.func15, Try.ntmps15
    go_wp2_with (go_at_call 17; refine Calls.mono HI.out ?_; rintro e w5 ⟨rfl, hb⟩)
    go_ret2
    exact ⟨.slice none 0 0, ret2_int HE.out.symm, HP.out _, below_up (alloc_below _ _) hb (Nat.le_refl _)⟩
  · rw [hr] at HI
    have hsf : x.sf.size ≤ 255 := by
      simp only [Ar.rightB, Ar.sfxB, Bool.and_eq_true, decide_eq_true_eq] at hr
      exact hr.2.1.1
    have HE : Hid (Ar.printE x = if 65536 < (Ar.printL x).length then 3 else 0) := by show _ = _; rw [Ar.printE, if_neg (by rw [hr]; decide)]
    have HO : Hid _ := Ar.optL_add x
    have HPL : Hid (Ar.printL x = Ar.addL true (Ar.addL true (Ar.optL x ++ Ar.scL x.sc) [⟨#[45, 45]⟩]) x.nm) := rfl
    have HL : Hid (∀ k, (Ar.optL x ++ Ar.scL (x.sc.take k)).length ≤ 2199023255556) := fun k => by
      have h1 := Ar.optL_length x
      have h2 := Ar.scL_length (x.sc.take k)
      have h3 : (x.sc.take k).length ≤ x.sc.length := by rw [List.length_take]; omega
      rw [List.length_append]; omega
    have HST : Hid (∀ k (hk : k < x.sc.length), Ar.addL (x.sc[k]).1 (Ar.addL (!(x.sc[k]).1) (Ar.optL x ++ Ar.scL (x.sc.take k)) [⟨#[45, 101]⟩, (x.sc[k]).2]) [⟨#[45, 102]⟩, (x.sc[k]).2] = Ar.optL x ++ Ar.scL (x.sc.take (k + 1))) := fun k hk => Ar.scL_step _ _ k hk
    have HA : Hid _ := h
    clear h hr
    simp only [avA] at *
    go_enter Try.func15, Try.ntmps15
    go_upto_region 5 with (go_at_call 17; refine Calls.mono HI.out ?_; rintro e w5 ⟨rfl, hb⟩; have hs5 : w.heap.size < w5.heap.size := (by have := hb.size; simp at this; omega); have X0 : w5.heap[w.heap.size]? = some (.cells (avA x a c b d) 28) := (hb.block _ (by simp)).trans (heap_alloc_new _ _); have x0 : w5.cell? ⟨w.heap.size, 0, none⟩ = some (.bool x.q) := cell_of_row _ _ _ _ _ _ X0; have x1 : w5.cell? ⟨w.heap.size, 1, none⟩ = some (.bool x.e) := cell_of_row _ _ _ _ _ _ X0; have x2 : w5.cell? ⟨w.heap.size, 2, none⟩ = some (.bool x.s) := cell_of_row _ _ _ _ _ _ X0; have x3 : w5.cell? ⟨w.heap.size, 3, none⟩ = some (.bool x.i) := cell_of_row _ _ _ _ _ _ X0; have x4 : w5.cell? ⟨w.heap.size, 4, none⟩ = some (.string x.sf) := cell_of_row _ _ _ _ _ _ X0; have HX0 : Hid (w5.heap[w.heap.size]? = some (.cells (avA x a c b d) 28)) := X0; clear X0; have HB5 : Hid (Below w.heap.size w w5) := below_up (alloc_below _ _) hb (Nat.le_refl _); clear hb)
    obtain ⟨W6, hW6⟩ : ∃ W6, W6 = (w5.alloc (.cells #[.slice none 0 0] 58)).alloc (.cells #[.bool x.q, .bool x.e, .bool x.s, .bool x.i, .string x.sf] 25) := ⟨_, rfl⟩
    have HM : Hid (PrM w W6 x a c b d w5.heap.size [] (.slice none 0 0) W6) := by
      refine ⟨?_, ⟨Tu.refl _ _, ?_, World.ownsRow_nil _ _ _ _, by omega, ?_⟩, ?_, ?_, hs5⟩
      · rw [hW6]; exact (HB5.out.alloc (by omega) _).alloc (by simp; omega) _
      · rw [hW6, heap_alloc_old _ _ (by simp)]; exact heap_alloc_new _ _
      · rw [hW6]; simp
      · rw [hW6, heap_alloc_old _ _ (by simp; omega), heap_alloc_old _ _ hs5]; exact HX0.out
      · rw [hW6, show w5.heap.size + 1 = (w5.alloc (.cells #[.slice none 0 0] 58)).heap.size by simp]; exact heap_alloc_new _ _
    have HQ : Hid (∀ L v W, PrM w W6 x a c b d w5.heap.size L v W → W.cell? ⟨w5.heap.size + 1, 0, none⟩ = some (.bool x.q) ∧ W.cell? ⟨w5.heap.size + 1, 1, none⟩ = some (.bool x.e) ∧ W.cell? ⟨w5.heap.size + 1, 2, none⟩ = some (.bool x.s) ∧ W.cell? ⟨w5.heap.size + 1, 3, none⟩ = some (.bool x.i) ∧ W.cell? ⟨w5.heap.size + 1, 4, none⟩ = some (.string x.sf) ∧ W.cell? ⟨w.heap.size, 5, none⟩ = some (.slice a x.sc.length c) ∧ W.cell? ⟨w.heap.size, 6, none⟩ = some (.slice b x.nm.length d) ∧ w5.heap.size + 1 < W.heap.size) := fun L v W h =>
      ⟨cell_of_row _ _ _ _ _ _ h.o0, cell_of_row _ _ _ _ _ _ h.o0, cell_of_row _ _ _ _ _ _ h.o0, cell_of_row _ _ _ _ _ _ h.o0, cell_of_row _ _ _ _ _ _ h.o0, cell_of_row _ _ _ _ _ _ h.x0, cell_of_row _ _ _ _ _ _ h.x0, lt_of_block h.o0⟩
    have HA1 : Hid (∀ L v W (told : Bool) (s : ByteArray), PrM w W6 x a c b d w5.heap.size L v W → s.size ≤ 1099511627776 → L.length ≤ 4398046511104 → Calls Try.prog 29 #[.pointer (some ⟨w5.heap.size, 0, none⟩), .bool told, .slice (some ⟨W.heap.size, 0, none⟩) 1 1] (W.alloc (.cells #[.string s] 9)) fun e w' => e = .returned (.tuple #[]) ∧ ∃ v', PrM w W6 x a c b d w5.heap.size (Ar.addL told L [s]) v' w' ∧ Tu (fun q => q = w5.heap.size ∨ blk v = some q) (W.alloc (.cells #[.string s] 9)) w') := fun L v W told s h hs hL => (h.alloc _).add told (strs_one W s _ hs) hL
    have HA2 : Hid (∀ L v W (told : Bool) (s t : ByteArray), PrM w W6 x a c b d w5.heap.size L v W → s.size ≤ 1099511627776 → t.size ≤ 1099511627776 → L.length ≤ 4398046511104 → Calls Try.prog 29 #[.pointer (some ⟨w5.heap.size, 0, none⟩), .bool told, .slice (some ⟨W.heap.size, 0, none⟩) 2 2] (W.alloc (.cells #[.string s, .string t] 9)) fun e w' => e = .returned (.tuple #[]) ∧ ∃ v', PrM w W6 x a c b d w5.heap.size (Ar.addL told L [s, t]) v' w' ∧ Tu (fun q => q = w5.heap.size ∨ blk v = some q) (W.alloc (.cells #[.string s, .string t] 9)) w') := fun L v W told s t h hs ht hL => (h.alloc _).add told (strs_two W s t _ hs ht) hL
    have hz6 : w5.heap.size + 1 < W6.heap.size := (HQ.out _ _ _ HM.out).2.2.2.2.2.2.2
    obtain ⟨q0, q1, q2, q3, q4, q5, q6, _⟩ := HQ.out _ _ _ HM.out
    rw [← hW6]
    clear hW6 x0 x1 x2 x3 x4
    go_upto_region 6 with (go_at_call 29; refine Calls.mono (HA1.out _ _ W6 x.q _ HM.out (by decide) (Nat.zero_le _)) ?_; rintro e w1 ⟨rfl, v1, hm1, _⟩; have HM1 : Hid _ := hm1; obtain ⟨_, p1, p2, p3, p4, p5, p6, pz⟩ := HQ.out _ _ _ hm1; clear hm1)
    clear q0 q1 q2 q3 q4 q5 q6 hz6
    go_upto_region 7 with (go_at_call 29; refine Calls.mono (HA1.out _ _ w1 x.e _ HM1.out (by decide) (Nat.le_trans (Ar.addL_len (n := 0) (Nat.le_refl 0)) (by decide))) ?_; rintro e w2 ⟨rfl, v2, hm2, _⟩; have HM2 : Hid _ := hm2; obtain ⟨_, _, r2, r3, r4, r5, r6, rz⟩ := HQ.out _ _ _ hm2; clear hm2)
    clear p1 p2 p3 p4 p5 p6 pz
    cases hs : x.s
    all_goals
      rw [hs] at r2 HO
      clear hs
      go_upto_region 8 with (go_at_call 29; refine Calls.mono (HA1.out _ _ w2 _ _ HM2.out (by decide) (Nat.le_trans (Ar.addL_len (Ar.addL_len (n := 0) (Nat.le_refl 0))) (by decide))) ?_; rintro e w3 ⟨rfl, v3, hm3, _⟩; have HM3 : Hid _ := hm3; obtain ⟨_, _, _, t3, t4, t5, t6, tz⟩ := HQ.out _ _ _ hm3; clear hm3)
      clear r2 r3 r4 r5 r6 rz
      go_upto_region 9 with (go_at_call 29; refine Calls.mono (HA1.out _ _ w3 x.i (Ar.ip x.sf) HM3.out (by rw [Ar.ip, ByteArray.size_append]; show 2 + x.sf.size ≤ _; omega) (Nat.le_trans (Ar.addL_len (Ar.addL_len (Ar.addL_len (n := 0) (Nat.le_refl 0)))) (by decide))) ?_; rintro e w4 ⟨rfl, v4, hm4, _⟩; have HM4 : Hid (PrM w W6 x a c b d w5.heap.size (Ar.optL x) v4 w4) := (by rw [HO.out]; exact hm4); obtain ⟨_, _, _, _, _, y5, y6, yz⟩ := HQ.out _ _ _ hm4; clear hm4)
      clear t3 t4 t5 t6 tz HM HM1 HM2 HM3 HO HI
      go_wp2_with fail
      go_loopw [40] (fun i wr => ∃ (k : Nat) (v : Value), k ≤ x.sc.length ∧ i = .int .i64 k ∧ Hid (PrM w W6 x a c b d w5.heap.size (Ar.optL x ++ Ar.scL (x.sc.take k)) v wr)) (fun i _ => x.sc.length - (intOf i).toNat)
      case atStart => exact ⟨0, _, Nat.zero_le _, rfl, by show PrM _ _ _ _ _ _ _ _ (Ar.optL x ++ []) _ _; rw [List.append_nil]; exact HM4.out⟩
      case round =>
        clear HM4 y5 y6 yz
        obtain ⟨k, v, hk, rfl, HK⟩ := hrel
        obtain ⟨_, _, _, _, _, z5, z6, zz⟩ := HQ.out _ _ _ HK.out
        by_cases hlt : k < x.sc.length
        · obtain ⟨bb, off, rfl, hbb, e1, e2⟩ := HA.out.sc.cells k hlt
          have HT := HST.out k hlt
          obtain ⟨p, hp⟩ : ∃ p, x.sc[k] = p := ⟨_, rfl⟩
          rw [hp] at e1 e2 HT
          have hps : p.2.size ≤ 1099511627776 := by rw [← hp]; exact HA.out.sc.size _ (List.getElem_mem hlt)
          have HT' : Hid _ := HT
          clear hp HT
          have x0 : wr.cell? ⟨bb, off + k * 2, none⟩ = some (.bool p.1) := (HK.out.below.cell (p := ⟨bb, off + k * 2, none⟩) hbb).trans e1
          have x1 : wr.cell? ⟨bb, off + k * 2 + 1, none⟩ = some (.string p.2) := (HK.out.below.cell (p := ⟨bb, off + k * 2 + 1, none⟩) hbb).trans e2
          have i1 : (k : Int) < (x.sc.length : Int) := by omega
          have Hsb : Hid (∀ w1, Tu (fun q => q = w5.heap.size ∨ blk v = some q) ((wr.alloc (.cells #[.bool p.1, .string p.2] 45)).alloc (.cells #[.string ⟨#[45, 101]⟩, .string p.2] 9)) w1 → w1.cell? ⟨wr.heap.size, 0, none⟩ = some (.bool p.1) ∧ w1.cell? ⟨wr.heap.size, 1, none⟩ = some (.string p.2) ∧ wr.heap.size < w1.heap.size) := fun w1 ht => by
            have h1 : w1.heap[wr.heap.size]? = some (.cells #[.bool p.1, .string p.2] 45) := by
              rw [ht.block _ (by simp; omega) (fun e => by
                rcases e with e | e
                · omega
                · have := (HK.out.wn.row.lt _ e).2; omega), heap_alloc_old _ _ (by simp)]
              exact heap_alloc_new _ _
            exact ⟨cell_of_row _ _ _ _ _ _ h1, cell_of_row _ _ _ _ _ _ h1, lt_of_block h1⟩
          clear e1 e2
          have hc1 := HA2.out _ _ (wr.alloc (.cells #[.bool p.1, .string p.2] 45)) (!p.1) ⟨#[45, 101]⟩ p.2 (HK.out.alloc _) (by decide) hps (Nat.le_trans (HL.out k) (by decide))
          rw [World.size_alloc] at hc1
          have HC1 : Hid _ := hc1
          clear hc1
          go_upto_region 13 with (go_at_call 29; refine Calls.mono HC1.out ?_; rintro e w1 ⟨rfl, v1, hm1, ht1⟩; obtain ⟨s0, s1, sz⟩ := Hsb.out _ ht1; have HM1 : Hid _ := hm1; clear hm1 ht1)
          clear z5 z6 x0 x1
          have hL1 : (Ar.addL (!p.1) (Ar.optL x ++ Ar.scL (x.sc.take k)) [⟨#[45, 101]⟩, p.2]).length ≤ 4398046511104 := Nat.le_trans (Ar.addL_len (HL.out k)) (by simp)
          have HL1 : Hid _ := hL1
          clear hL1
          go_wp2_with (go_at_call 29; refine Calls.mono (HA2.out _ _ w1 p.1 ⟨#[45, 102]⟩ p.2 HM1.out (by decide) hps HL1.out) ?_; rintro e w2 ⟨rfl, v2, hm2, ht2⟩; have HM2 : Hid (PrM w W6 x (some ⟨bb, off, none⟩) c b d w5.heap.size (Ar.optL x ++ Ar.scL (x.sc.take (k + 1))) v2 w2) := (by rw [← HT'.out]; exact hm2); clear hm2 ht2)
          go_roundw
          case rel => exact ⟨k + 1, _, by omega, by go_num, HM2⟩
          case measure => simp [intOf]; omega
        · have i1 : ¬ (k : Int) < (x.sc.length : Int) := by omega
          have HK2 : Hid (PrM w W6 x a c b d w5.heap.size (Ar.optL x ++ Ar.scL x.sc) v wr) := by
            have := HK.out
            rwa [List.take_of_length_le (by omega)] at this
          have HLn : Hid ((Ar.optL x ++ Ar.scL x.sc).length ≤ 2199023255556) := by
            have := HL.out x.sc.length
            rwa [List.take_length] at this
          clear HK
          go_upto_region 16 with (go_at_call 29; refine Calls.mono (HA1.out _ _ wr true ⟨#[45, 45]⟩ HK2.out (by decide) (Nat.le_trans HLn.out (by decide))) ?_; rintro e w1 ⟨rfl, v1, hm1, ht1⟩; have HM1 : Hid _ := hm1; obtain ⟨_, _, _, _, _, m5, m6, mz⟩ := HQ.out _ _ _ hm1; clear hm1 ht1)
          clear z5 z6 zz
          have HN : Hid (Calls Try.prog 29 #[.pointer (some ⟨w5.heap.size, 0, none⟩), .bool true, .slice b x.nm.length d] w1 fun e w' => e = .returned (.tuple #[]) ∧ ∃ v', PrM w W6 x a c b d w5.heap.size (Ar.printL x) v' w' ∧ Tu (fun q => q = w5.heap.size ∨ blk v1 = some q) w1 w') := by
            rw [HPL.out]
            exact HM1.out.add true (HA.out.nm.below HM1.out.below) (Nat.le_trans (Ar.addL_len HLn.out) (by decide))
          go_upto_region 17 with (go_at_call 29; refine Calls.mono HN.out ?_; rintro e w2 ⟨rfl, v2, hm2, ht2⟩; have HM2 : Hid _ := hm2; clear hm2 ht2)
          obtain ⟨va, vc, rfl⟩ := own_slice HM2.out.wn.row
          have b0 : w2.cell? ⟨w5.heap.size, 0, none⟩ = some (.slice va (Ar.printL x).length vc) := cell_of_row _ _ _ _ _ _ HM2.out.wn.box
          clear m5 m6 mz
          have HR : Hid (Below w.heap.size w w2) := HM2.out.below
          have HPn : Hid (w2.ownsRow w.heap.size 9 1 (.slice va (Ar.printL x).length vc) (Ar.printL x).length ((Ar.printL x).map Value.string)) := own_lo HM2.out.wn.row (by omega)
          have hpl : (Ar.printL x).length ≤ 4398046511104 := by
            have h1 := Ar.printL_length x
            have h2 := Ar.optL_length x
            omega
          by_cases hbig : 65536 < (Ar.printL x).length
          · have HE2 : Hid (Ar.printE x = 3) := by show _ = _; rw [HE.out, if_pos hbig]
            have hi : (65536 : Int) < ((Ar.printL x).length : Int) := by omega
            generalize (Ar.printL x).length = N at *
            go_wp2_with fail
            go_ret2
            exact ⟨.slice none 0 0, ret2_int HE2.out.symm, ⟨fun e => (by rw [HE2.out] at e; cases e), fun _ => rfl⟩, HR.out⟩
          · have HE2 : Hid (Ar.printE x = 0) := by show _ = _; rw [HE.out, if_neg hbig]
            have hi : ¬ (65536 : Int) < ((Ar.printL x).length : Int) := by omega
            obtain ⟨N, hN⟩ : ∃ N, N = (Ar.printL x).length := ⟨_, rfl⟩
            rw [← hN] at b0 hi hpl HPn
            have HN2 : Hid _ := hN
            clear hN
            go_wp2_with fail
            go_ret2
            exact ⟨_, ret2_int HE2.out.symm, ⟨fun _ => (by rw [← HN2.out]; exact HPn.out), fun e => absurd HE2.out e⟩, HR.out⟩
end Go.Proofs.Ytklcfjakhabbgaa
