/- The law ArgsParts: the script of pieces in two parts. -/
import Derived.Test.YtklcfjakhabbgaaArSc
import Derived.Test.YtklcfjakhabbgaaArRy
import Derived.Test.YtklcfjakhabbgaaArPtP
namespace Go.Proofs.Ytklcfjakhabbgaa
open Go.RowKit

theorem pcs_take {w : World} {a : Option Addr} {c : Nat} {l : List Ar.Pc} (h : Pcs w a c l) (k : Nat) : Pcs w a c (l.take k) := by
  have hle : (l.take k).length ≤ l.length := by rw [List.length_take]; omega
  refine ⟨Nat.le_trans hle h.len, h.nil, Nat.le_trans hle h.room, h.most, fun x hx => h.size x (List.mem_of_mem_take hx), fun i hi => ?_⟩
  have hi' : i < l.length := Nat.lt_of_lt_of_le hi hle
  obtain ⟨b, o, e, hb, h1, h2⟩ := h.cells i hi'
  rw [List.getElem_take]
  exact ⟨b, o, e, hb, h1, h2⟩
theorem pcs_drop {w : World} {b o c : Nat} {l : List Ar.Pc} (h : Pcs w (some ⟨b, o, none⟩) c l) (k : Nat) (hk : k ≤ l.length) : Pcs w (some (if c = k then ⟨b, o, none⟩ else ⟨b, o + k * 2, none⟩)) (c - k) (l.drop k) := by
  have hr := h.room
  refine ⟨by rw [List.length_drop]; have := h.len; omega, fun e => (by cases e), by rw [List.length_drop]; omega, by have := h.most; omega, fun x hx => h.size x (List.mem_of_mem_drop hx), fun i hi => ?_⟩
  rw [List.length_drop] at hi
  rw [if_neg (by omega), List.getElem_drop]
  obtain ⟨b', o', e, hb, h1, h2⟩ := h.cells (k + i) (by omega)
  cases e
  exact ⟨b, o + k * 2, rfl, hb, by rw [show o + k * 2 + i * 2 = o + (k + i) * 2 by omega]; exact h1, by rw [show o + k * 2 + i * 2 + 1 = o + (k + i) * 2 + 1 by omega]; exact h2⟩
theorem cut_upto (a : Option Addr) (n c k : Nat) (ha : a = none → c = 0) (hk : k ≤ n) (hn : n ≤ c) (wx : World) : (Instr.slice 26 (.slice a n c) none (some (.int .i64 (k : Int))) none).run Try.prog wx = .ok (.slice a k c) wx := by
  cases a with
  | none =>
    obtain rfl := ha rfl
    obtain rfl : n = 0 := by omega
    obtain rfl : k = 0 := by omega
    simp [Instr.slice, Instr.sliceBounds, Instr.sliceBound, asIntOf, run_underlying Try.underlying26, go_sem]
  | some ad =>
    have h1 : (k : Int) ≤ (c : Int) := by omega
    have h9 : ¬ c < k := by omega
    simp [Instr.slice, Instr.sliceBounds, Instr.sliceBound, asIntOf, run_underlying Try.underlying26, go_sem, h9]
theorem cut_from (b o n c k : Nat) (hk : k ≤ n) (hn : n ≤ c) (wx : World) : (Instr.slice 26 (.slice (some ⟨b, o, none⟩) n c) (some (.int .i64 (k : Int))) none none).run Try.prog wx = .ok (.slice (some (if c = k then ⟨b, o, none⟩ else ⟨b, o + k * 2, none⟩)) (n - k) (c - k)) wx := by
  have h1 : (k : Int) ≤ (n : Int) := by omega
  have h2 : (n : Int) ≤ (c : Int) := by omega
  have h9 : ¬ n < k := by omega
  simp [Instr.slice, Instr.sliceBounds, Instr.sliceBound, asIntOf, run_underlying Try.underlying26, go_sem]
  by_cases hc : c = k <;> simp [hc, hk]

set_option maxRecDepth 100000 in
set_option maxHeartbeats 4000000 in
theorem law_parts (L : List ByteArray) (al : Option Addr) (cl : Nat) (n : Int) (w : World) (hL : Strs w al cl L) (_hn : IntKind.i64.min ≤ n ∧ n ≤ IntKind.i64.max) (hz : Ar.tsz L ≤ 1048576) (hll : L.length ≤ 1048576) (hm : MaxG w) :
    Calls Try.prog 7 #[.slice al L.length cl, .int .i64 n] w fun e w' => e = .returned (.bool true) ∧ Below w.heap.size w w' := by
  obtain ⟨i0, hi, hz0, hz1, hz2⟩ := info_parts Try.infoPc
  have HL : Hid _ := hL
  have HBg : Hid _ := begins_any w hm.m hm.g
  clear hL hm
  go_enter Try.func7, Try.ntmps7
  go_wp2_with fail
  refine Calls.mono HBg.out ?_
  rintro e w1 ⟨rfl, hb1⟩
  have HB1 : Hid (Below w.heap.size w w1) := hb1
  clear hb1 HBg
  go_wp2_with fail
  go_loopw [5, 6] (fun v iv wr => ∃ k : Nat, iv = .int .i64 (k : Int) ∧ k ≤ L.length ∧ Hid (wr.ownsRow w.heap.size 45 2 v (Ar.pcT (L.take k)).length (pcells (Ar.pcT (L.take k)))) ∧ Hid (Below w.heap.size w wr)) (fun _ iv _ => L.length - (intOf iv).toNat)
  case atStart => exact ⟨0, rfl, Nat.zero_le _, World.ownsRow_nil _ _ _ _, HB1⟩
  case round =>
    clear HB1
    obtain ⟨k, rfl, hk, HO, HB⟩ := hrel
    by_cases hlt : k < L.length
    · have hd : (k : Int) < (L.length : Int) := by omega
      have hw : IntKind.i64.wrap ((k : Int) + 1) = (k : Int) + 1 := by rw [IntKind.wrap_i64]; omega
      have HLr := HL.out.below (HB.out.mono (Nat.le_refl _))
      obtain ⟨bb, off, rfl, hbb, d0⟩ := HLr.cells k hlt
      have HT : Hid _ := Ar.pcT_snoc L k hlt
      have hbs := HB.out.size
      have hpl : (Ar.pcT (L.take k)).length ≤ 1048576 := by rw [Ar.pcT_len, List.length_take]; omega
      generalize L[k]'hlt = x at *
      clear HLr
      go_wp2_with (at_builtin; refine wpList_append_own_at _ rfl (.tmp 22) (.tmp 28) 26 rfl w.heap.size 45 i0 _ 2 24 Try.underlying26 hi hz0 hz1 hz2 rfl (by decide) _ (Ar.pcT (L.take k)).length (pcells (Ar.pcT (L.take k))) rfl (own_below HO.out (alloc_below _ _)) ⟨wr.heap.size, 0, none⟩ 1 1 [.bool false, .string x] rfl rfl (pc_new _ (false, x) _) (pc_one (false, x)) (by unfold maxLen; omega) (by omega) (by simp; omega) ?_)
      intro v' w' ho1 hg1 _ _
      have HF : Hid (w'.ownsRow w.heap.size 45 2 v' (Ar.pcT (L.take (k + 1))).length (pcells (Ar.pcT (L.take (k + 1))))) := by
        show World.ownsRow _ _ _ _ _ _ _
        rw [HT.out, List.length_append, pcells_append]
        exact ho1
      have HB2 : Hid (Below w.heap.size w w') := (HB.out.alloc hbs _).grown hg1 (by simp; omega) (fun g e => by have := (World.ownsRow.lt HO.out g e).1; omega)
      clear ho1 hg1
      go_wp2_with fail
      go_roundw
      case rel => exact ⟨k + 1, by simp, by omega, HF, HB2⟩
      case measure => simp only [intOf]; omega
    · have hd : ¬ (k : Int) < (L.length : Int) := by omega
      obtain rfl : k = L.length := by omega
      rw [List.take_length] at HO
      have hpz : ∀ x ∈ Ar.pcT L, x.2.size ≤ 1099511627776 := fun x hx => by
        obtain ⟨t, ht, rfl⟩ := List.mem_map.1 hx
        have := Ar.tsz_mem ht
        show t.size ≤ _
        omega
      obtain ⟨pa, pc, rfl, hps, _⟩ := own_pcs HO.out (by rw [Ar.pcT_len]; omega) hpz
      rw [Ar.pcT_len]
      have hsp : pa = none ∨ ∃ g, pa = some ⟨g, 0, none⟩ := by
        rcases HO.out.2 with ⟨h, _⟩ | ⟨g, _, _, h, _⟩
        · injection h with h; exact .inl h
        · injection h with h; exact .inr ⟨g, h⟩
      have HP : Hid _ := hps
      have HScr : Hid (∀ (M : List ByteArray) (a : Option Addr) (c : Nat) (V : World), Ar.tsz M ≤ 1048576 → M.length ≤ 1048576 → Pcs V a c (Ar.pcT M) → Calls Try.prog 20 #[.slice a M.length c, .slice none 0 0] V fun e w' => e = .returned (.tuple #[.string (Ar.jn M), .int .i64 0]) ∧ Below V.heap.size V w') := fun M a c V hM hMl hP => by
        have h := script_any (Ar.pcT M) a c [] none 0 V hP (Strs.empty V) (fun ad e _ => (by cases e)) (by have := Ar.pcT_sum M; show _ + 0 ≤ _; omega) (by rw [Ar.pcT_len]; exact hMl)
        unfold ScIs at h
        rw [Ar.scrR_pcT, Ar.pcT_len] at h
        exact h
      have HZ : Hid _ := hz
      have hroom : L.length ≤ pc := by have := hps.room; rw [Ar.pcT_len] at this; exact this
      have hnil := hps.nil
      clear hps hpz HO
      obtain ⟨U, hU⟩ : ∃ U : Nat, IntKind.u64.wrap n = (U : Int) := ⟨(IntKind.u64.wrap n).toNat, (Int.toNat_of_nonneg (by rw [IntKind.wrap_u64]; exact Int.emod_nonneg _ (by decide))).symm⟩
      have hL1 : IntKind.i64.wrap ((L.length : Int) + 1) = (L.length : Int) + 1 := by rw [IntKind.wrap_i64]; omega
      have hL2 : IntKind.u64.wrap ((L.length : Int) + 1) = (L.length : Int) + 1 := by rw [IntKind.wrap_u64]; exact Int.emod_eq_of_lt (by omega) (by omega)
      obtain ⟨q, hq⟩ : ∃ q, q = U % (L.length + 1) := ⟨_, rfl⟩
      have hq1 : (U : Int).tmod ((L.length : Int) + 1) = (q : Int) := by rw [hq, Int.tmod_eq_emod_of_nonneg (by omega)]; rfl
      have hq2 : q ≤ L.length := by have := Nat.mod_lt U (show 0 < L.length + 1 by omega); rw [← hq] at this; omega
      have hq3 : IntKind.i64.wrap (q : Int) = (q : Int) := by rw [IntKind.wrap_i64]; omega
      clear hq
      have H1 : Hid _ := HScr.out L pa pc wr HZ.out (by omega) HP.out
      have hA := fun wx => cut_upto pa L.length pc q hnil hq2 hroom wx
      have HBr : Hid _ := HB.out
      -- the part behind
      have HD : Hid (∃ a2 c2, (∀ wx, (Instr.slice 26 (.slice pa L.length pc) (some (.int .i64 (q : Int))) none none).run Try.prog wx = .ok (.slice a2 (L.length - q) c2) wx) ∧ Pcs wr a2 c2 (Ar.pcT (L.drop q))) := by
        rcases hsp with rfl | ⟨b, rfl⟩
        · obtain rfl := hnil rfl
          have h0 : L.length = 0 := by omega
          have h1 : q = 0 := by omega
          have hP := HP.out
          have hL0 : L = [] := List.length_eq_zero_iff.1 h0
          subst hL0
          rw [h1]
          exact ⟨none, 0, fun wx => by simp [Instr.slice, Instr.sliceBounds, Instr.sliceBound, asIntOf, run_underlying Try.underlying26, go_sem], hP⟩
        · have := pcs_drop HP.out q (by rw [Ar.pcT_len]; exact hq2)
          rw [Ar.pcT_drop] at this
          exact ⟨_, _, fun wx => cut_from b 0 L.length pc q hq2 hroom wx, this⟩
      obtain ⟨a2, c2, hB2, hP2⟩ := HD.out
      have HP2 : Hid _ := hP2
      have HPA : Hid (Pcs wr pa pc (Ar.pcT (L.take q))) := by
        have := pcs_take HP.out q
        rw [Ar.pcT_take] at this
        exact this
      have hAl : (L.take q).length = q := by rw [List.length_take]; omega
      have hBl : (L.drop q).length = L.length - q := List.length_drop
      have H2 : Hid (∀ V, Below wr.heap.size wr V → Calls Try.prog 20 #[.slice pa q pc, .slice none 0 0] V fun e w' => e = .returned (.tuple #[.string (Ar.jn (L.take q)), .int .i64 0]) ∧ Below V.heap.size V w') := fun V hV => by
        have := HScr.out (L.take q) pa pc V (Nat.le_trans (Ar.tsz_take L q).1 HZ.out) (by omega) (HPA.out.below hV)
        rw [hAl] at this
        exact this
      have H3 : Hid (∀ V, Below wr.heap.size wr V → Calls Try.prog 20 #[.slice a2 (L.length - q) c2, .slice none 0 0] V fun e w' => e = .returned (.tuple #[.string (Ar.jn (L.drop q)), .int .i64 0]) ∧ Below V.heap.size V w') := fun V hV => by
        have := HScr.out (L.drop q) a2 c2 V (Nat.le_trans (Ar.tsz_take L q).2 HZ.out) (by omega) (HP2.out.below hV)
        rw [hBl] at this
        exact this
      have zA : (Ar.jn (L.take q)).size ≤ 1048576 := Nat.le_trans (Ar.jn_size _) (Nat.le_trans (Ar.tsz_take L q).1 HZ.out)
      have zB : (Ar.jn (L.drop q)).size ≤ 1048576 := Nat.le_trans (Ar.jn_size _) (Nat.le_trans (Ar.tsz_take L q).2 HZ.out)
      have HJ : Hid ((q = 0 → Ar.jn L = Ar.jn (L.drop q)) ∧ (q = L.length → Ar.jn L = Ar.jn (L.take q)) ∧ (0 < q → q < L.length → Ar.jn L = Ar.jn (L.take q) ++ ⟨#[10]⟩ ++ Ar.jn (L.drop q))) :=
        ⟨fun h => by rw [h, List.drop_zero], fun h => by rw [h, List.take_length], fun h h' => Ar.jn_parts L q h h'⟩
      clear hsp HD hP2 HPA HP2 hAl hBl HScr HP hnil HB
      generalize Ar.jn (L.take q) = TA at *
      generalize Ar.jn (L.drop q) = TB at *
      obtain ⟨T, hT⟩ : ∃ T, T = Ar.jn L := ⟨_, rfl⟩
      rw [← hT] at HJ H1
      clear hT
      go_wp2_with fail
      refine Calls.mono H1.out ?_
      rintro e w2 ⟨rfl, hb2⟩
      have HB2 : Hid _ := hb2
      clear hb2
      go_wp2_with fail
      refine Calls.mono (H2.out _ HB2.out) ?_
      rintro e w3 ⟨rfl, hb3⟩
      have HB3 : Hid _ := HB2.out.trans (hb3.mono HB2.out.size)
      clear hb3
      go_wp2_with fail
      refine Calls.mono (H3.out _ HB3.out) ?_
      rintro e w4 ⟨rfl, hb4⟩
      have HB4 : Hid (Below w.heap.size w w4) := HBr.out.trans ((HB3.out.trans (hb4.mono HB3.out.size)).mono HBr.out.size)
      clear hb4 H1 H2 H3
      by_cases h0 : q = 0
      · have e0 : ((q : Int) == 0) = true := by rw [h0]; rfl
        obtain rfl := HJ.out.1 h0
        clear HJ h0
        go_wp2_with fail
        go_ret
        exact ⟨by simp, HB4.out⟩
      · have e0 : ((q : Int) == 0) = false := by rw [beq_eq_false_iff_ne]; omega
        by_cases h1 : q = L.length
        · have e1 : ((q : Int) == (L.length : Int)) = true := by rw [beq_iff_eq]; omega
          obtain rfl := HJ.out.2.1 h1
          clear HJ h0 h1
          go_wp2_with fail
          go_ret
          exact ⟨by simp, HB4.out⟩
        · have e1 : ((q : Int) == (L.length : Int)) = false := by rw [beq_eq_false_iff_ne]; omega
          obtain rfl := HJ.out.2.2 (by omega) (by omega)
          clear HJ h0 h1
          go_wp2_with fail
          go_ret
          exact ⟨by simp, HB4.out⟩
end Go.Proofs.Ytklcfjakhabbgaa
