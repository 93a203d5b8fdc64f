/- What (*layout).alt does, over what lay does with a kid. -/
import Derived.Test.YtdiokclbdaojpaaDoorNfM4
import Derived.Deep.RegionWith
namespace Go.Proofs.YtdiokclbdaojpaaDoor
open Go.RowKit

namespace Nt
/-- Branches, each with its split ahead and its jump behind. -/
def altP (l : List NT) (p fin f : Nat) : List Ins := match l with
  | [] => []
  | x :: l => iSplit (p + sz x + 2) :: code x (p + 1) f ++ iJump fin :: altP l (p + sz x + 2) fin f
theorem altL_snoc (l : List NT) (x : NT) : ∀ p fin f, altL (l ++ [x]) p fin f = altP l p fin f ++ code x (p + (sz.szL l + 2 * l.length)) f := by
  induction l with
  | nil => intro p fin f; rw [List.nil_append, altL, altP, sz.szL]; simp
  | cons y l ih =>
    intro p fin f
    rw [List.cons_append, altL, altP, ih, sz.szL]
    have e : p + sz y + 2 + (sz.szL l + 2 * l.length) = p + (sz y + sz.szL l + 2 * (y :: l).length) := by simp; omega
    have e2 : (l ++ [x]).isEmpty = false := by cases l <;> rfl
    rw [e, e2]
    simp
theorem altP_snoc (l : List NT) (x : NT) : ∀ p fin f, altP (l ++ [x]) p fin f = altP l p fin f ++ (iSplit (p + (sz.szL l + 2 * l.length) + sz x + 2) :: code x (p + (sz.szL l + 2 * l.length) + 1) f ++ [iJump fin]) := by
  induction l with
  | nil => intro p fin f; rw [List.nil_append, altP, altP, altP, sz.szL]; simp
  | cons y l ih =>
    intro p fin f
    rw [List.cons_append, altP, altP, ih, sz.szL]
    have e : p + sz y + 2 + (sz.szL l + 2 * l.length) = p + (sz y + sz.szL l + 2 * (y :: l).length) := by simp; omega
    rw [e]
    simp
theorem altP_len (l : List NT) : ∀ p fin f, (altP l p fin f).length = sz.szL l + 2 * l.length := by
  induction l with
  | nil => intro p fin f; rw [altP, sz.szL]; rfl
  | cons x l ih => intro p fin f; rw [altP, sz.szL]; simp [ih, code_len]; omega
theorem altP_take {l : List NT} {i : Nat} (h : i < l.length) (p fin f : Nat) : altP (l.take (i + 1)) p fin f = altP (l.take i) p fin f ++ (iSplit (p + (sz.szL (l.take i) + 2 * i) + sz (l[i]) + 2) :: code (l[i]) (p + (sz.szL (l.take i) + 2 * i) + 1) f ++ [iJump fin]) := by
  have e : (l.take i).length = i := by rw [List.length_take]; omega
  rw [List.take_succ_eq_append_getElem h, altP_snoc, e]
theorem altL_last {l : List NT} {n : Nat} (h : l.length = n + 1) (p fin f : Nat) : altL l p fin f = altP (l.take n) p fin f ++ code (l[n]'(by omega)) (p + (sz.szL (l.take n) + 2 * n)) f := by
  have e : (l.take n).length = n := by rw [List.length_take]; omega
  have e2 : l = l.take n ++ [l[n]'(by omega)] := by
    rw [← List.take_succ_eq_append_getElem (by omega), List.take_of_length_le (by omega)]
  have := altL_snoc (l.take n) (l[n]'(by omega)) p fin f
  rw [← e2, e] at this
  exact this
end Nt
theorem iw_nat (n : Nat) (h : n ≤ 4611686018427387904) : IntKind.i64.wrap (n : Int) = (n : Int) := by rw [IntKind.wrap_i64]; omega
theorem wrap_add2 (a b : Nat) (ha : a ≤ 16385) (hb : b ≤ 16385) : IntKind.i64.wrap (IntKind.i64.wrap ((a : Int) + (b : Int)) + 2) = ((a + b + 2 : Nat) : Int) := by
  rw [← Int.natCast_add, iw_nat _ (by omega)]
  exact iw_nat (a + b + 2) (by omega)
set_option maxRecDepth 100000 in
set_option maxHeartbeats 8000000 in
theorem lay_alt (T : Nt.NT) (hk : T.k = 4) (h2 : 2 ≤ T.kids.length) (hms : Nt.msz T = min (Nt.sz T) 16385) (hmk : ∀ i (h : i < T.kids.length), Nt.msz (T.kids[i]) = min (Nt.sz (T.kids[i])) 16385) (HK : ∀ i (h : i < T.kids.length), Nt.LayC 34 (T.kids[i])) : Nt.LayC 57 T := by
  intro lb rb cap f b L P w hL hP hpc hroom hcap hf ht
  have HTz : Hid _ := ht
  clear ht
  obtain ⟨n, hn⟩ : ∃ n, T.kids.length = n + 1 := ⟨T.kids.length - 1, by omega⟩
  have hc : Nt.code T L.length f = Nt.altL T.kids L.length (L.length + Nt.sz T) f := by rw [Nt.code_eq, hk]; rfl
  have hz : Nt.sz T = Nt.sz.szL T.kids + 2 * n := by rw [Nt.sz_eq, hk, hn]; rfl
  have hm : Nt.msz T = Nt.sz T := by omega
  rw [hc, Nt.altL_last hn]
  have Hz : Hid _ := hz
  obtain ⟨Z, hZ⟩ : ∃ Z, Nt.sz T = Z := ⟨_, rfl⟩
  have HZ : Hid _ := hZ
  rw [hZ] at hroom Hz hm ⊢
  have hnl : n < T.kids.length := by omega
  obtain ⟨R, hR⟩ : ∃ R, Nt.altP (T.kids.take n) L.length (L.length + Z) f ++ Nt.code (T.kids[n]) (L.length + (Nt.sz.szL (T.kids.take n) + 2 * n)) f = R := ⟨_, rfl⟩
  rw [hR]
  have HR : Hid _ := hR
  have HK : Hid _ := HK
  have HMK : Hid _ := hmk
  have HL : Hid _ := hL
  have HP : Hid _ := hP
  have Hroom : Hid _ := hroom
  have Hf : Hid _ := hf
  have Hn : Hid _ := hn
  have HHE : Hid (∀ n, Calls Tryd.prog 77 #[.pointer (some ⟨lb, 0, none⟩)] (w.drewN n) fun e w' => e = .returned (.int .i64 (L.length : Nat)) ∧ w' = w.drewN n) := fun n => here_any lb rb cap f L _ ⟨hL.blk, hL.row, hL.ne⟩
  cases hpc with
  | mk nb off a cap' ka kc bs hb blk hn' node len room most kids sub =>
  rw [hn, hm] at blk
  rw [hn] at room len
  have HB : Hid _ := blk
  have Hhb : Hid _ := hb
  have HKi : Hid _ := kids
  have HS : Hid _ := sub
  obtain ⟨p0, p1, p2, p3, p4⟩ := blk.cells
  have hb1 : L.length ≤ 16385 := by omega
  have hb2 : Z ≤ 16385 := by omega
  clear hL hP blk kids sub node hroom hf hc hz hm hms hmk hZ hb hn h2 hR
  go_enter Tryd.func57, Tryd.ntmps57
  go_wp2_with fail
  go_quiet ((go_at_call 77; exact Calls.quiet_of_same (HHE.out _)))
  go_wp2_with fail
  go_loopw [28] (fun iv wr => ∃ i : Nat, i ≤ n ∧ iv = .int .i64 (i : Int) ∧ Nt.Ly wr lb rb cap (L ++ Nt.altP (T.kids.take i) L.length (L.length + Z) f) f ∧ Nt.Bz lb rb w wr) (fun iv _ => n - (intOf iv).toNat)
  case atStart => exact ⟨0, by omega, rfl, by rw [List.take_zero, Nt.altP, List.append_nil]; exact ⟨HL.out.blk, HL.out.row, HL.out.ne⟩, ⟨rfl, rfl, rfl, Nat.le_refl _, fun _ _ _ _ => rfl⟩⟩
  case round =>
    clear HL HHE p0 p1 p2 p3 p4
    obtain ⟨i, hi, rfl, hLi, hzi⟩ := hrel
    have HLi : Hid _ := hLi
    have Hzi : Hid _ := hzi
    have HPw : Hid (∀ x, P x → x < wr.heap.size ∧ x ≠ lb ∧ x ≠ rb) := fun x hx => ⟨Nat.lt_of_lt_of_le (HP.out x hx).1 hzi.size, (HP.out x hx).2⟩
    clear hLi hzi
    by_cases hlt : i < n
    · have hlk : i < T.kids.length := by omega
      obtain ⟨kb, ko, rfl, hkb, hkc⟩ := HKi.out i hlk
      have hkc' := (World.cell?_of_block (Hzi.out.block kb (HP.out kb hkb).1 (HP.out kb hkb).2.1 (HP.out kb hkb).2.2)).trans hkc
      have hlen : (L ++ Nt.altP (T.kids.take i) L.length (L.length + Z) f).length = L.length + (Nt.sz.szL (T.kids.take i) + 2 * i) := by
        rw [List.length_append, Nt.altP_len, List.length_take, Nat.min_eq_left (by omega)]
      have hst := Nt.szL_take hlk
      have hsm := Nt.szL_mono T.kids (i + 1)
      have hrm : Nt.sz.szL (T.kids.take i) + 2 * i + (Nt.sz (T.kids[i]) + 2) ≤ Z := by have := Hz.out; omega
      have hks : Nt.msz (T.kids[i]) = Nt.sz (T.kids[i]) := by have := HMK.out i hlk; omega
      obtain ⟨hPk, knb, koff, kv, kblk⟩ := Nt.Pc.head (Nt.Pc.bz (HS.out i hlk) Hzi.out HP.out)
      rw [hks] at kblk
      obtain ⟨k0, k1, k2, k3, k4⟩ := kblk.cells
      have HT : Hid _ := Nt.altP_take hlk L.length (L.length + Z) f
      have Hlen : Hid _ := hlen
      generalize hLL : L ++ Nt.altP (T.kids.take i) L.length (L.length + Z) f = LL at *
      have HLL : Hid _ := hLL
      generalize hC : Nt.sz (T.kids[i]) = C at *
      have HCz : Hid _ := hC
      have HHE : Hid (∀ n, Calls Tryd.prog 77 #[.pointer (some ⟨lb, 0, none⟩)] (wr.drewN n) fun e w' => e = .returned (.int .i64 (LL.length : Nat)) ∧ w' = wr.drewN n) := fun n => here_any lb rb cap f LL _ ⟨HLi.out.blk, HLi.out.row, HLi.out.ne⟩
      have hb3 : LL.length + (C + 2) ≤ cap := by have := Hroom.out; omega
      have HPS : Hid _ := put_split lb rb cap f LL (LL.length + C + 2) (wr.drewN 1) ⟨HLi.out.blk, HLi.out.row, HLi.out.ne⟩ (by omega)
      have HPS2 : Hid (Calls Tryd.prog 35 #[.pointer (some ⟨lb, 0, none⟩), .agg #[.int .u8 2, .int .u64 0, .int .u64 0, .int .u64 0, .int .u64 0, .int .i64 (IntKind.i64.wrap (IntKind.i64.wrap ((LL.length : Int) + (C : Int)) + 2)), .int .i64 0, .int .i64 0, .int .i64 0]] (wr.drewN 1) fun e w' => (∃ v, e = .returned v) ∧ Nt.Ly w' lb rb cap (LL ++ [Nt.iSplit (LL.length + C + 2)]) f ∧ Nt.Bz lb rb (wr.drewN 1) w') := by
        rw [wrap_add2 LL.length C (by omega) (by omega)]
        exact HPS.out
      have hb4 : LL.length ≤ 16385 := by omega
      have hb5 : C ≤ 16385 := by omega
      have hst' := hst
      clear hkc hLL hC HPS kblk hPk hst hsm hks hlen hrm hst'
      go_wp2_with fail
      go_region_with (first | (go_at_call 77; refine Calls.mono (HHE.out 1) ?_; rintro e w1 ⟨rfl, rfl⟩) | (go_at_call 35; refine Calls.mono HPS2.out ?_; rintro e w2 ⟨⟨v, rfl⟩, hL2, hz2⟩))
      all_goals
        go_wp2_with fail
        have hz2' : Nt.Bz lb rb w w2 := Hzi.out.trans ⟨hz2.os, hz2.tape, hz2.output, hz2.size, hz2.block⟩
        have HI : Hid _ := HK.out i hlk lb rb cap f (bs i) (LL ++ [Nt.iSplit (LL.length + C + 2)]) P w2 hL2 (fun x hx => ⟨Nat.lt_of_lt_of_le (HP.out x hx).1 hz2'.size, (HP.out x hx).2⟩) (Nt.Pc.bz (HS.out i hlk) hz2' HP.out) (by rw [HCz.out]; simp; omega) hcap (by have h1 := Nt.cntL_kid hlk; have h2 := Hf.out; omega) (HTz.out.bz hz2')
        have Hz2 : Hid _ := hz2'
        clear hz2 hz2' hL2 HPS2 HHE k0 k1 k2 k3 k4 hkc'
        refine Calls.mono HI.out ?_
        rintro e w3 ⟨⟨v, rfl⟩, hL3, hz3⟩
        have hz3' := Hz2.out.trans hz3
        have HJ : Hid _ := put_jump lb rb cap f _ (L.length + Z) w3 hL3 (by simp [Nt.code_len, HCz.out]; omega)
        have HJ2 : Hid (Calls Tryd.prog 35 #[.pointer (some ⟨lb, 0, none⟩), .agg #[.int .u8 3, .int .u64 0, .int .u64 0, .int .u64 0, .int .u64 0, .int .i64 ((L.length : Int) + (Z : Int)), .int .i64 0, .int .i64 0, .int .i64 0]] w3 fun e w' => (∃ v, e = .returned v) ∧ Nt.Ly w' lb rb cap ((LL ++ [Nt.iSplit (LL.length + C + 2)] ++ Nt.code (T.kids[i]) (LL ++ [Nt.iSplit (LL.length + C + 2)]).length f) ++ [Nt.iJump (L.length + Z)]) f ∧ Nt.Bz lb rb w3 w') := HJ.out
        have Hz3 : Hid _ := hz3'
        clear HI HJ hL3 hz3 hz3' Hz2
        go_wp2_with fail
        refine Calls.mono HJ2.out ?_
        rintro e w4 ⟨⟨v, rfl⟩, hL4, hz4⟩
        have hz4' := Hz3.out.trans hz4
        have hL5 : Nt.Ly w4 lb rb cap (L ++ Nt.altP (T.kids.take (i + 1)) L.length (L.length + Z) f) f := by
          have e1 : (LL ++ [Nt.iSplit (LL.length + C + 2)]).length = LL.length + 1 := by simp
          rw [HT.out, ← List.append_assoc, HLL.out, ← Hlen.out]
          rw [e1] at hL4
          have e2 : LL ++ (Nt.iSplit (LL.length + C + 2) :: Nt.code (T.kids[i]) (LL.length + 1) f ++ [Nt.iJump (L.length + Z)]) = LL ++ [Nt.iSplit (LL.length + C + 2)] ++ Nt.code (T.kids[i]) (LL.length + 1) f ++ [Nt.iJump (L.length + Z)] := by simp
          rw [e2]; exact hL4
        clear HJ2 hL4 hz4
        go_wp2_with fail
        refine ⟨⟨i + 1, by omega, by simp, hL5, hz4'⟩, by simp only [intOf]; omega⟩
    · obtain rfl : i = n := by omega
      obtain ⟨kb, ko, rfl, hkb, hkc⟩ := HKi.out i hnl
      have hkc' := (World.cell?_of_block (Hzi.out.block kb (HP.out kb hkb).1 (HP.out kb hkb).2.1 (HP.out kb hkb).2.2)).trans hkc
      have blk1 := Nt.PcB.same HB.out (Hzi.out.block b (HP.out b Hhb.out).1 (HP.out b Hhb.out).2.1 (HP.out b Hhb.out).2.2)
      obtain ⟨s0, s1, s2, s3, s4⟩ := blk1.cells
      have hlen : (L ++ Nt.altP (T.kids.take i) L.length (L.length + Z) f).length = L.length + (Nt.sz.szL (T.kids.take i) + 2 * i) := by
        rw [List.length_append, Nt.altP_len, List.length_take, Nat.min_eq_left (by omega)]
      have HI : Hid _ := HK.out i hnl lb rb cap f (bs i) _ P wr HLi.out HPw.out (Nt.Pc.bz (HS.out i hnl) Hzi.out HP.out) (by rw [hlen]; have h1 := Nt.szL_take hnl; have h2 := Nt.szL_mono T.kids (i + 1); have h3 := Hz.out; have h4 := Hroom.out; omega) hcap (by have h1 := Nt.cntL_kid hnl; have h2 := Hf.out; omega) (HTz.out.bz Hzi.out)
      have Hlen : Hid _ := hlen
      clear hkc blk1 hlen
      go_wp2_with fail
      refine Calls.mono HI.out ?_
      rintro e w2 ⟨⟨v, rfl⟩, hL2, hz2⟩
      have hL3 : Nt.Ly w2 lb rb cap (L ++ R) f := by
        rw [← HR.out, ← List.append_assoc, ← Hlen.out]; exact hL2
      have hz3 := Hzi.out.trans hz2
      clear HI hL2 hz2
      go_wp2_with fail
      go_end0
      exact ⟨⟨_, rfl⟩, hL3, hz3⟩
end Go.Proofs.YtdiokclbdaojpaaDoor
