/- What the reference's ends gives. -/
import Derived.Test.YtdiokclbdaojpaaDoorNfM17
import Derived.Test.YtdiokclbdaojpaaDoorNfM6
import Derived.Test.YtdiokclbdaojpaaDoorNfM13
namespace Go.Proofs.YtdiokclbdaojpaaDoor
open Go Go.RowKit

theorem Tryd.infoBool : (Tryd.prog.info? 4).map (fun i => (i.zero, i.size, i.bytes)) = some (some (.bool false), 1, 1) := by kernel_rfl
namespace Nt
theorem right_one' {gr sl : Int} {L : List Ins} (h : rightP gr sl L = true) : OneM L := by
  intro j hj hk
  have hg : L.getD j iEnd = L[j] := by rw [List.getD_eq_getElem?_getD, List.getElem?_eq_getElem hj]; rfl
  rw [hg] at hk
  exact (right_at h hj).1.1 hk
/-- The bit of a set, held against one. -/
theorem one_bit (p : Nat → Bool) {i c : Nat} (h : c / 64 = i) : (bits .and .u64 ((St.wd p i : Int) / 2 ^ (c % 64)) 1 == 1) = p c := by
  have e : ((St.wd p i : Int) / 2 ^ (c % 64)) = ((St.wd p i / 2 ^ (c % 64) : Nat) : Int) := by
    rw [Int.natCast_ediv, Int.natCast_pow]; rfl
  have hl : St.wd p i / 2 ^ (c % 64) < 18446744073709551616 := Nat.lt_of_le_of_lt (Nat.div_le_self _ _) (St.wd_lt p i)
  rw [e, show (1 : Int) = ((1 : Nat) : Int) from rfl, u64_and_nat _ _ hl (by decide), nat_mask1, St.wd_has p (show c = 64 * i + c % 64 by omega) (Nat.mod_lt _ (by decide))]
  cases p c <;> rfl
/-- A row of bools that is made: all false. -/
theorem made_bt (w : World) (n : Nat) : Bt (w.alloc (.cells (madeCells #[.bool false] n) 4)) w.heap.size (List.replicate n false) := by
  unfold Bt
  rw [heap_alloc_new]
  congr 2
  apply Array.ext_getElem?
  intro i
  by_cases hi : i < n
  · simp [madeCells, hi, Nat.mod_one]
  · simp [madeCells, hi]
/-- A row of ints is no row of bools. -/
theorem own_bt {w : World} {base g n : Nat} {v : Value} {xs : List Value} {b : List Bool} (h : w.ownsRow base 3 1 v n xs) (hb : Bt w g b) : v.ownBlock ≠ some g := by
  intro e
  obtain ⟨_, ⟨rfl, _⟩ | ⟨g', cap, cur, rfl, _, h3, _⟩⟩ := h
  · cases e
  · have e3 : g' = g := by injection e
    subst e3
    rw [hb] at h3
    injection h3 with h3
    injection h3 with _ h3
    cases h3
end Nt

set_option maxRecDepth 100000 in
set_option maxHeartbeats 8000000 in
theorem rends_any (gr sl : Int) (a : Option Addr) (cap : Nat) (L : List Nt.Ins) (s : ByteArray) (f : Nat) (w : World) (hc : Nt.Cds w w.heap.size a cap L) (hri : Nt.rightP gr sl L = true) (hf : f ≤ s.size) (hs : s.size ≤ 1048576) :
    Calls Tryd.prog 47 #[.agg #[.int .i64 gr, .int .i64 sl, .slice a L.length cap], .string s, .int .i64 (f : Int)] w fun e w' => ∃ v, e = .returned v ∧ w'.ownsRow w.heap.size 3 1 v (Nt.endsA L s f).length (Nt.icellsN (Nt.endsA L s f)) ∧ Below w.heap.size w w' := by
  obtain ⟨i1, hi1, hy0, hy1, hy2⟩ := info_parts Tryd.infoInt
  obtain ⟨ib, hib, hb0, hb1, hb2⟩ := info_parts Tryd.infoBool
  have hll := Nt.right_len hri
  have HMK : Hid (∀ W : World, (Instr.makeSlice 60 (.int .i64 (L.length : Int)) (.int .i64 (L.length : Int))).run Tryd.prog W = .ok (.slice (some ⟨W.heap.size, 0, none⟩) L.length L.length) (W.alloc (.cells (madeCells #[.bool false] (L.length * 1)) 4))) := fun W => by
    have := run_make (P := Tryd.prog) W 60 4 ib _ Tryd.underlying60 hib hb0 .i64 .i64 (L.length : Int) (L.length : Int) (by omega) (by omega) (by rw [hb2]; omega) (by omega)
    rw [hb1] at this
    exact this
  have hL := Nt.right_leads hri
  have hO := Nt.right_one' hri
  have hto := Nt.right_to hri
  have h12 : (L.getD (L.length - 1) Nt.iEnd).k = 12 := by
    have hg : L.getD (L.length - 1) Nt.iEnd = L[L.length - 1]'(by omega) := by rw [List.getD_eq_getElem?_getD, List.getElem?_eq_getElem (by omega)]; rfl
    rw [hg]
    exact (Nt.right_at hri (by omega)).1.2 rfl
  have HEq : Hid (∀ (i : Nat) (out : List Nat), out.Pairwise (fun x y => x < y) → (∀ e, e ∈ out ↔ (e < i + 1 ∧ Nt.Rc L s f e (L.length - 1))) → (i = s.size ∨ ∀ j, ¬ Nt.Rc L s f (i + 1) j) → f ≤ i → out = Nt.endsA L s f) := fun i out h1 h2 h3 h4 => Nt.ends_eq hL hO hll.1 h12 hf h1 h2 h3 h4
  have HIn : Hid (∀ (g at0 pl : Nat) (b0 : List Bool) (w' : World), Nt.Cds w' g a cap L → Nt.Bt w' g b0 → b0.length = L.length → Nt.ClB L s.size pl b0 → at0 < L.length → pl ≤ 1048577 → Calls Tryd.prog 69 #[.agg #[.int .i64 gr, .int .i64 sl, .slice a L.length cap], .slice (some ⟨g, 0, none⟩) L.length L.length, .int .i64 (at0 : Int), .string s, .int .i64 (pl : Int)] w' fun e w2 => (∃ v, e = .returned v) ∧ ∃ b, Nt.Bt w2 g b ∧ Bx g w' w2 ∧ b.length = L.length ∧ (∀ j, b.getD j false = true ↔ (b0.getD j false = true ∨ Nt.Cl L s.size pl at0 j)) ∧ Nt.ClB L s.size pl b) := fun g at0 pl b0 w' h1 h2 h3 h4 h5 h6 => into_any gr sl a cap L s g at0 pl b0 w' h1 h2 h3 h4 h5 hL hto hll.2 h6 hs
  have HCd : Hid (∀ g w', Below w.heap.size w w' → w.heap.size ≤ g → Nt.Cds w' g a cap L) := fun g w' hb hg => hc.under hb hg
  have HLe : Hid _ := hL
  obtain ⟨W, hW⟩ : ∃ W, W = (w.alloc (.cells #[.int .i64 gr, .int .i64 sl, .slice a L.length cap] 35)).alloc (.cells (madeCells #[.bool false] L.length) 4) := ⟨_, rfl⟩
  have hBW : Below w.heap.size w W := by rw [hW]; exact ((Below.refl w.heap.size w).alloc (Nat.le_refl _) _).alloc (by simp) _
  have PW : W.heap[w.heap.size]? = some (.cells #[.int .i64 gr, .int .i64 sl, .slice a L.length cap] 35 (0, 0)) := by rw [hW, heap_alloc_old _ _ (by simp)]; exact heap_alloc_new w _
  have BW : Nt.Bt W (w.heap.size + 1) (List.replicate L.length false) := by
    rw [hW]
    have := Nt.made_bt (w.alloc (.cells #[.int .i64 gr, .int .i64 sl, .slice a L.length cap] 35)) L.length
    rwa [World.size_alloc] at this
  have hno : ∀ j, ¬ (List.replicate L.length false).getD j false = true := fun j => by
    rw [List.getD_eq_getElem?_getD, List.getElem?_replicate]
    split <;> simp
  have HI0 : Hid _ := HIn.out (w.heap.size + 1) 0 f _ W (HCd.out _ W hBW (by omega)) BW (by simp) (fun j hj => absurd hj (hno j)) (by omega) (by omega)
  have HBW : Hid _ := hBW
  have HPW : Hid _ := PW
  have HNo : Hid _ := hno
  clear hc hri hL hO hto h12 BW hBW PW hno
  go_enter Tryd.func47, Tryd.ntmps47
  go_wp2_with (rw [HMK.out])
  rw [← hW]
  clear hW
  refine Calls.mono HI0.out ?_
  rintro e w1 ⟨⟨v, rfl⟩, b1, hb1, hx1, hl1, hm1, -⟩
  have HS1 : Hid (Nt.Bt w1 (w.heap.size + 1) b1 ∧ w1.heap[w.heap.size]? = some (.cells #[.int .i64 gr, .int .i64 sl, .slice a L.length cap] 35 (0, 0)) ∧ Below w.heap.size w w1 ∧ Nt.EnJ L s f f b1 []) := by
    refine ⟨hb1, (hx1.block _ (lt_of_block HPW.out) (by omega)).trans HPW.out, HBW.out.trans (hx1.below (by omega) HBW.out.size), Nt.EnJ.new hf hl1 (fun j => (hm1 j).trans ⟨fun h => h.resolve_left (HNo.out j), .inr⟩)⟩
  clear HI0 HBW HPW HNo hb1 hx1 hl1 hm1
  go_wp2_with fail
  go_loopw [7, 8, 9] (fun ov nv iv wr => ∃ (i g : Nat) (b : List Bool) (out : List Nat), iv = .int .i64 (i : Int) ∧ nv = .slice (some ⟨g, 0, none⟩) L.length L.length ∧ w.heap.size + 1 ≤ g ∧ Nt.Bt wr g b ∧ wr.heap[w.heap.size]? = some (.cells #[.int .i64 gr, .int .i64 sl, .slice a L.length cap] 35 (0, 0)) ∧ Below w.heap.size w wr ∧ Nt.EnJ L s f i b out ∧ wr.ownsRow (w.heap.size + 1) 3 1 ov out.length (Nt.icellsN out) ∧ out.length ≤ i) (fun _ _ iv _ => s.size + 1 - (intOf iv).toNat)
  case atStart =>
    obtain ⟨h1, h2, h3, h4⟩ := HS1.out
    exact ⟨f, w.heap.size + 1, b1, [], rfl, rfl, by omega, h1, h2, h3, h4, World.ownsRow_nil _ _ _ _, by simp⟩
  case round =>
    clear HS1
    obtain ⟨i, g, b, out, rfl, rfl, hg, hBt, hP, hB, hJ, hrow, hol⟩ := hrel
    obtain ⟨oa, oc, rfl⟩ := Nt.own_form hrow
    rename World => K
    have hbl : b.length = L.length := hJ.len
    have hlo := hJ.lo
    have hhi := hJ.hi
    have c0 : K.cell? ⟨g, L.length - 1, none⟩ = some (.bool (b.getD (L.length - 1) false)) := hBt.cell (by omega)
    have n1 : IntKind.i64.wrap ((L.length : Int) - 1) = (L.length : Int) - 1 := by rw [IntKind.wrap_i64]; omega
    have n2 : (0 : Int) ≤ (L.length : Int) - 1 := by omega
    have n3 : ((L.length : Int) - 1).toNat = L.length - 1 := by omega
    have n4 : (L.length : Int) - 1 < (L.length : Int) := by omega
    have hnx := hJ.next
    have hKs := lt_of_block hP
    have HJ : Hid _ := hJ
    have HBt8 : Hid _ := hBt
    have HP8 : Hid _ := hP
    have HB8 : Hid _ := hB
    have HR8 : Hid _ := hrow
    by_cases hie : i = s.size
    · have d : ((i : Int) == (s.size : Int)) = true := by simp; omega
      cases hm : b.getD (L.length - 1) false
      · rw [hm] at c0 hnx
        simp only [Bool.false_eq_true, if_false, List.append_nil] at hnx
        have HF : Hid (out = Nt.endsA L s f) := HEq.out i _ hnx.1 hnx.2 (.inl hie) hlo
        clear hJ hBt hP hB hrow hnx hm hie
        go_wp2_with fail
        go_ret
        exact ⟨_, rfl, by rw [← HF.out]; exact Nt.own_lo HR8.out (by omega), HB8.out⟩
      · rw [hm] at c0 hnx
        simp only [if_true] at hnx
        have HF : Hid (out ++ [i] = Nt.endsA L s f) := HEq.out i _ hnx.1 hnx.2 (.inl hie) hlo
        clear hJ hBt hP hB hrow hnx hm hie
        go_wp2_with (at_builtin; refine Nt.wpList_append_far _ rfl _ _ 45 rfl (w.heap.size + 1) 3 i1 (.int .i64 0) 1 8 Tryd.underlying45 hi1 hy0 hy1 hy2 rfl (by decide) (.slice oa out.length oc) out.length (Nt.icellsN out) rfl (World.ownsRow.alloc HR8.out _) ⟨K.heap.size, 0, none⟩ 1 1 [.int .i64 (i : Int)] rfl rfl (Nt.one_new _ _ _) (fun u hu => by simp only [List.mem_singleton] at hu; subst hu; rfl) (by unfold maxLen; omega) (by omega) (by simp; omega) ?_)
        intro v3 w8 ho hg8 _ _
        obtain ⟨T8, c8, rfl, _, _⟩ := ho.form (by omega)
        have hg9 : K.grownBy w8 (Value.slice oa out.length oc).ownBlock := (World.grownBy_alloc K _ _).trans hg8
        have hnb := Nt.own_bt HR8.out HBt8.out
        have hnp : ∀ q, (Value.slice oa out.length oc).ownBlock = some q → w.heap.size + 1 ≤ q := fun q e => (World.ownsRow.lt HR8.out q e).1
        have HBt9 : Hid (Nt.Bt w8 g b) := (hg9.block g (Nt.Bt.lt HBt8.out) (fun e => hnb e.symm)).trans HBt8.out
        have HP9 : Hid (w8.heap[w.heap.size]? = some (.cells #[.int .i64 gr, .int .i64 sl, .slice a L.length cap] 35 (0, 0))) := (hg9.block _ (lt_of_block HP8.out) (fun e => by have := hnp _ e.symm; omega)).trans HP8.out
        have HB9 : Hid (Below w.heap.size w w8) := ⟨hg9.os.trans HB8.out.os, hg9.tape.trans HB8.out.tape, hg9.output.trans HB8.out.output, Nat.le_trans HB8.out.size hg9.size, fun q hq => (hg9.block q (by have := HB8.out.size; omega) (fun e => by have := hnp _ e.symm; omega)).trans (HB8.out.block q hq)⟩
        have HR9 : Hid (w8.ownsRow (w.heap.size + 1) 3 1 (.slice (some ⟨T8, 0, none⟩) (out.length + 1) c8) (out ++ [i]).length (Nt.icellsN (out ++ [i]))) := by
          show World.ownsRow _ _ _ _ _ _ _
          have e3 : (out ++ [i]).length = out.length + 1 := by simp
          have e4 : Nt.icellsN (out ++ [i]) = Nt.icellsN out ++ [.int .i64 (i : Int)] := by simp [Nt.icellsN]
          rw [e3, e4]
          exact ho
        clear ho hg8 hg9 hnb hnp HBt8 HP8 HB8 HR8
        rename Hid (Nt.Bt w8 g b) => HBt8
        rename Hid (w8.heap[w.heap.size]? = _) => HP8
        rename Hid (Below w.heap.size w w8) => HB8
        rename Hid (World.ownsRow w8 _ _ _ _ _ _) => HR8
        go_wp2_with fail
        go_ret
        exact ⟨_, rfl, by rw [← HF.out]; exact Nt.own_lo HR8.out (by omega), HB8.out⟩
    · have d : ((i : Int) == (s.size : Int)) = false := by simp; omega
      have hi2 : i < s.size := by omega
      clear hie
      cases hm : b.getD (L.length - 1) false
      · rw [hm] at c0 hnx
        simp only [Bool.false_eq_true, if_false, List.append_nil] at hnx
        have HNx : Hid _ := hnx
        have HM : Hid _ := hm
        clear hJ hBt hP hB hrow hnx hm
        have a28 : K.cell? ⟨w.heap.size, 2, none⟩ = some (.slice a L.length cap) := cell_of_row _ _ _ _ _ _ HP8.out
        obtain ⟨W9, hW9⟩ : ∃ W9, W9 = K.alloc (.cells (madeCells #[.bool false] L.length) 4) := ⟨_, rfl⟩
        have hsz8 := lt_of_block HP8.out
        have hgs8 := Nt.Bt.lt HBt8.out
        have hb9 : Below K.heap.size K W9 := by rw [hW9]; exact (Below.refl _ _).alloc (Nat.le_refl _) _
        have HS9 : Hid (Nt.Bt W9 g b ∧ Nt.Bt W9 K.heap.size (List.replicate L.length false) ∧ W9.heap[w.heap.size]? = some (.cells #[.int .i64 gr, .int .i64 sl, .slice a L.length cap] 35 (0, 0)) ∧ Below w.heap.size w W9 ∧ W9.ownsRow (w.heap.size + 1) 3 1 (.slice oa out.length oc) out.length (Nt.icellsN out)) := by
          refine ⟨(hb9.block g hgs8).trans HBt8.out, by rw [hW9]; exact Nt.made_bt K L.length, (hb9.block _ hsz8).trans HP8.out, HB8.out.trans (hb9.mono (Nat.le_of_lt hsz8)), by rw [hW9]; exact World.ownsRow.alloc HR8.out _⟩
        clear hb9
        go_wp2_with (rw [HMK.out])
        rw [← hW9]
        clear hW9 a28
        obtain ⟨g2, hg2⟩ : ∃ g2, g2 = K.heap.size := ⟨_, rfl⟩
        rw [← hg2] at HS9 hgs8 hsz8 ⊢
        clear hg2
        go_loopw [11, 12] (fun av kv wr => ∃ (k : Nat) (nb : List Bool) (any : Bool), av = .bool any ∧ kv = .int .i64 (k : Int) ∧ k ≤ L.length ∧ Nt.Bt wr g b ∧ Nt.Bt wr g2 nb ∧ wr.heap[w.heap.size]? = some (.cells #[.int .i64 gr, .int .i64 sl, .slice a L.length cap] 35 (0, 0)) ∧ Below w.heap.size w wr ∧ wr.ownsRow (w.heap.size + 1) 3 1 (.slice oa out.length oc) out.length (Nt.icellsN out) ∧ Nt.NxJ L s i b k nb any) (fun _ kv _ => L.length - (intOf kv).toNat)
        case atStart =>
          obtain ⟨h1, h2, h3, h4, h5⟩ := HS9.out
          exact ⟨0, _, false, rfl, rfl, by omega, h1, h2, h3, h4, h5, Nt.NxJ.new L s i b⟩
        case round =>
          clear HS9 HBt8 HP8 HB8 HR8
          obtain ⟨k, nb, any, rfl, rfl, hk, hBt, hBn, hP, hB, hR, hN⟩ := hrel
          by_cases hlt : k < L.length
          · obtain ⟨cb, off, ha, hcb, hcell⟩ := (HCd.out w.heap.size wr hB (Nat.le_refl _)).lies k hlt
            have c0 : wr.cell? ⟨g, k, none⟩ = some (.bool (b.getD k false)) := hBt.cell (by omega)
            obtain ⟨a0, a1, a2⟩ : wr.cell? ⟨w.heap.size, 0, none⟩ = some (.int .i64 gr) ∧ wr.cell? ⟨w.heap.size, 1, none⟩ = some (.int .i64 sl) ∧ wr.cell? ⟨w.heap.size, 2, none⟩ = some (.slice a L.length cap) := ⟨cell_of_row _ _ _ _ _ _ hP, cell_of_row _ _ _ _ _ _ hP, cell_of_row _ _ _ _ _ _ hP⟩
            have hgd : L.getD k Nt.iEnd = L[k] := by rw [List.getD_eq_getElem?_getD, List.getElem?_eq_getElem hlt]; rfl
            have hnl := hN.len
            have HIc : Hid (b.getD k false = true → (L[k]).k = 1 → Nt.hasAt s i (L[k]) = true → ∀ w', Below wr.heap.size wr w' → Calls Tryd.prog 69 #[.agg #[.int .i64 gr, .int .i64 sl, .slice a L.length cap], .slice (some ⟨g2, 0, none⟩) L.length L.length, .int .i64 ((k : Int) + 1), .string s, .int .i64 ((i : Int) + 1)] w' fun e w2 => (∃ v, e = .returned v) ∧ ∃ nb', Nt.Bt w2 g2 nb' ∧ Bx g2 w' w2 ∧ Nt.NxJ L s i b (k + 1) nb' true) := fun h1 h2 h3 w' hb' => by
              have hlt2 : k + 1 < L.length := HLe.out k hlt 0 0 (by rw [hgd, h2]; simp) (k + 1) (by rw [hgd]; unfold Nt.nxt; rw [h2]; simp)
              have hc' := HIn.out g2 (k + 1) (i + 1) nb w' (HCd.out g2 w' (hB.trans (hb'.mono hB.size)) (by omega)) ((hb'.block g2 (Nt.Bt.lt hBn)).trans hBn) hnl hN.cl hlt2 (by omega)
              rw [show ((k + 1 : Nat) : Int) = (k : Int) + 1 by simp, show ((i + 1 : Nat) : Int) = (i : Int) + 1 by simp] at hc'
              refine Calls.mono hc' ?_
              rintro e w2 ⟨hv, nb', q1, q2, q3, q4, q5⟩
              exact ⟨hv, nb', q1, q2, hN.yes h1 (by rw [hgd]; exact h2) (by rw [hgd]; exact h3) q3 q5 q4⟩
            have HNn : Hid (¬ (b.getD k false = true ∧ (L[k]).k = 1 ∧ Nt.hasAt s i (L[k]) = true) → Nt.NxJ L s i b (k + 1) nb any) := fun h => hN.no (by rw [hgd]; exact h)
            have x0 : wr.cell? ⟨cb, off + k * 9, none⟩ = some (.int .u8 ((L[k]).k : Int)) := hcell 0 (by omega)
            have HX : Hid (∀ c, c < 4 → wr.cell? ⟨cb, off + k * 9 + 1 + c, none⟩ = some (.int .u64 (St.wd (L[k]).s c : Nat))) := fun c hc => by
              rw [Nat.add_assoc]
              refine (hcell (1 + c) (by omega)).trans ?_
              match c, hc with
              | 0, _ | 1, _ | 2, _ | 3, _ => rfl
            have HBt : Hid _ := hBt
            have HBn : Hid _ := hBn
            have HP : Hid _ := hP
            have HB : Hid _ := hB
            have HR : Hid _ := hR
            have hgn : g2 < wr.heap.size := Nt.Bt.lt hBn
            obtain ⟨x, hx⟩ : ∃ x, L[k] = x := ⟨_, rfl⟩
            rw [hx] at HIc HNn x0 HX
            clear hcell hgd hnl hN hBt hBn hP hB hR hx hcb
            cases hbk : b.getD k false
            · rw [hbk] at c0
              have HN2 : Hid _ := HNn.out (by rw [hbk]; simp)
              clear HNn HIc hbk HX x0
              go_wp2_with fail
              go_region
              go_wp2_with fail
              go_roundw
              case rel => exact ⟨k + 1, nb, any, rfl, by go_num, by omega, HBt.out, HBn.out, HP.out, HB.out.drew, World.ownsRow.drew HR.out, HN2.out⟩
              case measure => simp [intOf]; omega
            · rw [hbk] at c0
              by_cases hk1 : x.k = 1
              · have hx1 := HX.out ((s[i]).toNat / 64) (by have := UInt8.toNat_lt (s[i]); omega)
                have hq := Nt.one_bit x.s (c := (s[i]).toNat) rfl
                have hc := UInt8.toNat_lt (s[i])
                have HNs : Hid (Nt.hasAt s i x = x.s (s[i]).toNat) := by show _ = _; rw [Nt.hasAt, dif_pos hi2]
                rw [hk1] at x0
                subst ha
                cases hp : x.s (s[i]).toNat
                · rw [hp] at hq HNs
                  have HN2 : Hid _ := HNn.out (by rw [HNs.out]; simp)
                  clear HNn HIc hbk HX HNs hp
                  go_wp2_with fail
                  generalize hce : (s[i]).toNat = c at *
                  go_region
                  go_wp2_with fail
                  go_roundw
                  case rel => exact ⟨k + 1, nb, any, rfl, by go_num, by omega, HBt.out, HBn.out, HP.out, HB.out.drew, World.ownsRow.drew HR.out, HN2.out⟩
                  case measure => simp [intOf]; omega
                · rw [hp] at hq HNs
                  have HI2 : Hid _ := HIc.out hbk hk1 HNs.out
                  clear HNn HIc hbk HX HNs hp
                  go_wp2_with fail
                  generalize hce : (s[i]).toNat = c at *
                  go_region
                  go_wp2_with (go_at_call 69; refine Calls.mono (HI2.out _ (Below.refl _ _).drew) ?_; rintro e w5 ⟨⟨v5, rfl⟩, nb', hBn5, hBx5, hN5⟩)
                  have hd5 : Bx g2 wr w5 := ⟨hBx5.os, hBx5.tape, hBx5.output, hBx5.size, hBx5.block⟩
                  have hwz := HB.out.size
                  refine ⟨⟨k + 1, nb', true, rfl, by go_num, by omega, (hd5.block g (by omega) (by omega)).trans HBt.out, hBn5, (hd5.block _ (by omega) (by omega)).trans HP.out, HB.out.trans (hd5.below (by omega) hwz), ?_, hN5⟩, by simp [intOf]; omega⟩
                  refine Nt.own_blk HR.out (fun q e => hd5.block q (World.ownsRow.lt HR.out q e).2 (fun e2 => ?_))
                  subst e2
                  exact Nt.own_bt HR.out HBn.out e
              · have hk2 : ((x.k : Int) == 1) = false := by simp; omega
                have HN2 : Hid _ := HNn.out (by simp [hk1])
                subst ha
                clear HNn HIc hbk HX hk1
                go_wp2_with fail
                go_region
                go_wp2_with fail
                go_roundw
                case rel => exact ⟨k + 1, nb, any, rfl, by go_num, by omega, HBt.out, HBn.out, HP.out, HB.out.drew, World.ownsRow.drew HR.out, HN2.out⟩
                case measure => simp [intOf]; omega
          · obtain rfl : k = L.length := by omega
            have HRc : Hid _ := hN.rc HLe.out hll.1 (HJ.out.isR) hlo
            have HB : Hid _ := hB
            have HR : Hid _ := hR
            cases any
            · have HF : Hid (out = Nt.endsA L s f) := HEq.out i _ HNx.out.1 HNx.out.2 (.inr (HRc.out.2 rfl)) hlo
              clear hBt hBn hP hB hR hN HRc
              go_wp2_with fail
              go_ret
              exact ⟨_, rfl, by rw [← HF.out]; exact Nt.own_lo HR.out (by omega), HB.out⟩
            · have HJ2 : Hid (Nt.EnJ L s f (i + 1) nb out) := by
                have := HJ.out.step HLe.out hll.1 hi2 hN
                rw [HM.out] at this
                show Nt.EnJ L s f (i + 1) nb out
                simpa using this
              have HBn : Hid _ := hBn
              have HP : Hid _ := hP
              clear hBt hBn hP hB hR hN HRc
              go_wp2_with fail
              go_roundw
              case rel => exact ⟨i + 1, g2, nb, out, by go_num, rfl, by omega, HBn.out, HP.out, HB.out, HJ2.out, HR.out, by first | omega | (simp; omega)⟩
              case measure => simp [intOf]; omega
      · rw [hm] at c0 hnx
        simp only [if_true] at hnx
        have HNx : Hid _ := hnx
        have HM : Hid _ := hm
        clear hJ hBt hP hB hrow hnx hm
        go_wp2_with (at_builtin; refine Nt.wpList_append_far _ rfl _ _ 45 rfl (w.heap.size + 1) 3 i1 (.int .i64 0) 1 8 Tryd.underlying45 hi1 hy0 hy1 hy2 rfl (by decide) (.slice oa out.length oc) out.length (Nt.icellsN out) rfl (World.ownsRow.alloc HR8.out _) ⟨K.heap.size, 0, none⟩ 1 1 [.int .i64 (i : Int)] rfl rfl (Nt.one_new _ _ _) (fun u hu => by simp only [List.mem_singleton] at hu; subst hu; rfl) (by unfold maxLen; omega) (by omega) (by simp; omega) ?_)
        intro v3 w8 ho hg8 _ _
        obtain ⟨T8, c8, rfl, _, _⟩ := ho.form (by omega)
        have hg9 : K.grownBy w8 (Value.slice oa out.length oc).ownBlock := (World.grownBy_alloc K _ _).trans hg8
        have hnb := Nt.own_bt HR8.out HBt8.out
        have hnp : ∀ q, (Value.slice oa out.length oc).ownBlock = some q → w.heap.size + 1 ≤ q := fun q e => (World.ownsRow.lt HR8.out q e).1
        have HBt9 : Hid (Nt.Bt w8 g b) := (hg9.block g (Nt.Bt.lt HBt8.out) (fun e => hnb e.symm)).trans HBt8.out
        have HP9 : Hid (w8.heap[w.heap.size]? = some (.cells #[.int .i64 gr, .int .i64 sl, .slice a L.length cap] 35 (0, 0))) := (hg9.block _ (lt_of_block HP8.out) (fun e => by have := hnp _ e.symm; omega)).trans HP8.out
        have HB9 : Hid (Below w.heap.size w w8) := ⟨hg9.os.trans HB8.out.os, hg9.tape.trans HB8.out.tape, hg9.output.trans HB8.out.output, Nat.le_trans HB8.out.size hg9.size, fun q hq => (hg9.block q (by have := HB8.out.size; omega) (fun e => by have := hnp _ e.symm; omega)).trans (HB8.out.block q hq)⟩
        have HR9 : Hid (w8.ownsRow (w.heap.size + 1) 3 1 (.slice (some ⟨T8, 0, none⟩) (out.length + 1) c8) (out ++ [i]).length (Nt.icellsN (out ++ [i]))) := by
          show World.ownsRow _ _ _ _ _ _ _
          have e3 : (out ++ [i]).length = out.length + 1 := by simp
          have e4 : Nt.icellsN (out ++ [i]) = Nt.icellsN out ++ [.int .i64 (i : Int)] := by simp [Nt.icellsN]
          rw [e3, e4]
          exact ho
        clear ho hg8 hg9 hnb hnp HBt8 HP8 HB8 HR8
        rename Hid (Nt.Bt w8 g b) => HBt8
        rename Hid (w8.heap[w.heap.size]? = _) => HP8
        rename Hid (Below w.heap.size w w8) => HB8
        rename Hid (World.ownsRow w8 _ _ _ _ _ _) => HR8
        have a28 : w8.cell? ⟨w.heap.size, 2, none⟩ = some (.slice a L.length cap) := cell_of_row _ _ _ _ _ _ HP8.out
        obtain ⟨W9, hW9⟩ : ∃ W9, W9 = w8.alloc (.cells (madeCells #[.bool false] L.length) 4) := ⟨_, rfl⟩
        have hsz8 := lt_of_block HP8.out
        have hgs8 := Nt.Bt.lt HBt8.out
        have hb9 : Below w8.heap.size w8 W9 := by rw [hW9]; exact (Below.refl _ _).alloc (Nat.le_refl _) _
        have HS9 : Hid (Nt.Bt W9 g b ∧ Nt.Bt W9 w8.heap.size (List.replicate L.length false) ∧ W9.heap[w.heap.size]? = some (.cells #[.int .i64 gr, .int .i64 sl, .slice a L.length cap] 35 (0, 0)) ∧ Below w.heap.size w W9 ∧ W9.ownsRow (w.heap.size + 1) 3 1 (.slice (some ⟨T8, 0, none⟩) (out.length + 1) c8) (out ++ [i]).length (Nt.icellsN (out ++ [i]))) := by
          refine ⟨(hb9.block g hgs8).trans HBt8.out, by rw [hW9]; exact Nt.made_bt w8 L.length, (hb9.block _ hsz8).trans HP8.out, HB8.out.trans (hb9.mono (Nat.le_of_lt hsz8)), by rw [hW9]; exact World.ownsRow.alloc HR8.out _⟩
        clear hb9
        go_wp2_with (rw [HMK.out])
        rw [← hW9]
        clear hW9 a28
        obtain ⟨g2, hg2⟩ : ∃ g2, g2 = w8.heap.size := ⟨_, rfl⟩
        rw [← hg2] at HS9 hgs8 hsz8 ⊢
        clear hg2
        go_loopw [11, 12] (fun av kv wr => ∃ (k : Nat) (nb : List Bool) (any : Bool), av = .bool any ∧ kv = .int .i64 (k : Int) ∧ k ≤ L.length ∧ Nt.Bt wr g b ∧ Nt.Bt wr g2 nb ∧ wr.heap[w.heap.size]? = some (.cells #[.int .i64 gr, .int .i64 sl, .slice a L.length cap] 35 (0, 0)) ∧ Below w.heap.size w wr ∧ wr.ownsRow (w.heap.size + 1) 3 1 (.slice (some ⟨T8, 0, none⟩) (out.length + 1) c8) (out ++ [i]).length (Nt.icellsN (out ++ [i])) ∧ Nt.NxJ L s i b k nb any) (fun _ kv _ => L.length - (intOf kv).toNat)
        case atStart =>
          obtain ⟨h1, h2, h3, h4, h5⟩ := HS9.out
          exact ⟨0, _, false, rfl, rfl, by omega, h1, h2, h3, h4, h5, Nt.NxJ.new L s i b⟩
        case round =>
          clear HS9 HBt8 HP8 HB8 HR8
          obtain ⟨k, nb, any, rfl, rfl, hk, hBt, hBn, hP, hB, hR, hN⟩ := hrel
          by_cases hlt : k < L.length
          · obtain ⟨cb, off, ha, hcb, hcell⟩ := (HCd.out w.heap.size wr hB (Nat.le_refl _)).lies k hlt
            have c0 : wr.cell? ⟨g, k, none⟩ = some (.bool (b.getD k false)) := hBt.cell (by omega)
            obtain ⟨a0, a1, a2⟩ : wr.cell? ⟨w.heap.size, 0, none⟩ = some (.int .i64 gr) ∧ wr.cell? ⟨w.heap.size, 1, none⟩ = some (.int .i64 sl) ∧ wr.cell? ⟨w.heap.size, 2, none⟩ = some (.slice a L.length cap) := ⟨cell_of_row _ _ _ _ _ _ hP, cell_of_row _ _ _ _ _ _ hP, cell_of_row _ _ _ _ _ _ hP⟩
            have hgd : L.getD k Nt.iEnd = L[k] := by rw [List.getD_eq_getElem?_getD, List.getElem?_eq_getElem hlt]; rfl
            have hnl := hN.len
            have HIc : Hid (b.getD k false = true → (L[k]).k = 1 → Nt.hasAt s i (L[k]) = true → ∀ w', Below wr.heap.size wr w' → Calls Tryd.prog 69 #[.agg #[.int .i64 gr, .int .i64 sl, .slice a L.length cap], .slice (some ⟨g2, 0, none⟩) L.length L.length, .int .i64 ((k : Int) + 1), .string s, .int .i64 ((i : Int) + 1)] w' fun e w2 => (∃ v, e = .returned v) ∧ ∃ nb', Nt.Bt w2 g2 nb' ∧ Bx g2 w' w2 ∧ Nt.NxJ L s i b (k + 1) nb' true) := fun h1 h2 h3 w' hb' => by
              have hlt2 : k + 1 < L.length := HLe.out k hlt 0 0 (by rw [hgd, h2]; simp) (k + 1) (by rw [hgd]; unfold Nt.nxt; rw [h2]; simp)
              have hc' := HIn.out g2 (k + 1) (i + 1) nb w' (HCd.out g2 w' (hB.trans (hb'.mono hB.size)) (by omega)) ((hb'.block g2 (Nt.Bt.lt hBn)).trans hBn) hnl hN.cl hlt2 (by omega)
              rw [show ((k + 1 : Nat) : Int) = (k : Int) + 1 by simp, show ((i + 1 : Nat) : Int) = (i : Int) + 1 by simp] at hc'
              refine Calls.mono hc' ?_
              rintro e w2 ⟨hv, nb', q1, q2, q3, q4, q5⟩
              exact ⟨hv, nb', q1, q2, hN.yes h1 (by rw [hgd]; exact h2) (by rw [hgd]; exact h3) q3 q5 q4⟩
            have HNn : Hid (¬ (b.getD k false = true ∧ (L[k]).k = 1 ∧ Nt.hasAt s i (L[k]) = true) → Nt.NxJ L s i b (k + 1) nb any) := fun h => hN.no (by rw [hgd]; exact h)
            have x0 : wr.cell? ⟨cb, off + k * 9, none⟩ = some (.int .u8 ((L[k]).k : Int)) := hcell 0 (by omega)
            have HX : Hid (∀ c, c < 4 → wr.cell? ⟨cb, off + k * 9 + 1 + c, none⟩ = some (.int .u64 (St.wd (L[k]).s c : Nat))) := fun c hc => by
              rw [Nat.add_assoc]
              refine (hcell (1 + c) (by omega)).trans ?_
              match c, hc with
              | 0, _ | 1, _ | 2, _ | 3, _ => rfl
            have HBt : Hid _ := hBt
            have HBn : Hid _ := hBn
            have HP : Hid _ := hP
            have HB : Hid _ := hB
            have HR : Hid _ := hR
            have hgn : g2 < wr.heap.size := Nt.Bt.lt hBn
            obtain ⟨x, hx⟩ : ∃ x, L[k] = x := ⟨_, rfl⟩
            rw [hx] at HIc HNn x0 HX
            clear hcell hgd hnl hN hBt hBn hP hB hR hx hcb
            cases hbk : b.getD k false
            · rw [hbk] at c0
              have HN2 : Hid _ := HNn.out (by rw [hbk]; simp)
              clear HNn HIc hbk HX x0
              go_wp2_with fail
              go_region
              go_wp2_with fail
              go_roundw
              case rel => exact ⟨k + 1, nb, any, rfl, by go_num, by omega, HBt.out, HBn.out, HP.out, HB.out.drew, World.ownsRow.drew HR.out, HN2.out⟩
              case measure => simp [intOf]; omega
            · rw [hbk] at c0
              by_cases hk1 : x.k = 1
              · have hx1 := HX.out ((s[i]).toNat / 64) (by have := UInt8.toNat_lt (s[i]); omega)
                have hq := Nt.one_bit x.s (c := (s[i]).toNat) rfl
                have hc := UInt8.toNat_lt (s[i])
                have HNs : Hid (Nt.hasAt s i x = x.s (s[i]).toNat) := by show _ = _; rw [Nt.hasAt, dif_pos hi2]
                rw [hk1] at x0
                subst ha
                cases hp : x.s (s[i]).toNat
                · rw [hp] at hq HNs
                  have HN2 : Hid _ := HNn.out (by rw [HNs.out]; simp)
                  clear HNn HIc hbk HX HNs hp
                  go_wp2_with fail
                  generalize hce : (s[i]).toNat = c at *
                  go_region
                  go_wp2_with fail
                  go_roundw
                  case rel => exact ⟨k + 1, nb, any, rfl, by go_num, by omega, HBt.out, HBn.out, HP.out, HB.out.drew, World.ownsRow.drew HR.out, HN2.out⟩
                  case measure => simp [intOf]; omega
                · rw [hp] at hq HNs
                  have HI2 : Hid _ := HIc.out hbk hk1 HNs.out
                  clear HNn HIc hbk HX HNs hp
                  go_wp2_with fail
                  generalize hce : (s[i]).toNat = c at *
                  go_region
                  go_wp2_with (go_at_call 69; refine Calls.mono (HI2.out _ (Below.refl _ _).drew) ?_; rintro e w5 ⟨⟨v5, rfl⟩, nb', hBn5, hBx5, hN5⟩)
                  have hd5 : Bx g2 wr w5 := ⟨hBx5.os, hBx5.tape, hBx5.output, hBx5.size, hBx5.block⟩
                  have hwz := HB.out.size
                  refine ⟨⟨k + 1, nb', true, rfl, by go_num, by omega, (hd5.block g (by omega) (by omega)).trans HBt.out, hBn5, (hd5.block _ (by omega) (by omega)).trans HP.out, HB.out.trans (hd5.below (by omega) hwz), ?_, hN5⟩, by simp [intOf]; omega⟩
                  refine Nt.own_blk HR.out (fun q e => hd5.block q (World.ownsRow.lt HR.out q e).2 (fun e2 => ?_))
                  subst e2
                  exact Nt.own_bt HR.out HBn.out e
              · have hk2 : ((x.k : Int) == 1) = false := by simp; omega
                have HN2 : Hid _ := HNn.out (by simp [hk1])
                subst ha
                clear HNn HIc hbk HX hk1
                go_wp2_with fail
                go_region
                go_wp2_with fail
                go_roundw
                case rel => exact ⟨k + 1, nb, any, rfl, by go_num, by omega, HBt.out, HBn.out, HP.out, HB.out.drew, World.ownsRow.drew HR.out, HN2.out⟩
                case measure => simp [intOf]; omega
          · obtain rfl : k = L.length := by omega
            have HRc : Hid _ := hN.rc HLe.out hll.1 (HJ.out.isR) hlo
            have HB : Hid _ := hB
            have HR : Hid _ := hR
            cases any
            · have HF : Hid ((out ++ [i]) = Nt.endsA L s f) := HEq.out i _ HNx.out.1 HNx.out.2 (.inr (HRc.out.2 rfl)) hlo
              clear hBt hBn hP hB hR hN HRc
              go_wp2_with fail
              go_ret
              exact ⟨_, rfl, by rw [← HF.out]; exact Nt.own_lo HR.out (by omega), HB.out⟩
            · have HJ2 : Hid (Nt.EnJ L s f (i + 1) nb (out ++ [i])) := by
                have := HJ.out.step HLe.out hll.1 hi2 hN
                rw [HM.out] at this
                show Nt.EnJ L s f (i + 1) nb (out ++ [i])
                simpa using this
              have HBn : Hid _ := hBn
              have HP : Hid _ := hP
              clear hBt hBn hP hB hR hN HRc
              go_wp2_with fail
              go_roundw
              case rel => exact ⟨i + 1, g2, nb, (out ++ [i]), by go_num, rfl, by omega, HBn.out, HP.out, HB.out, HJ2.out, HR.out, by first | omega | (simp; omega)⟩
              case measure => simp [intOf]; omega
end Go.Proofs.YtdiokclbdaojpaaDoor
