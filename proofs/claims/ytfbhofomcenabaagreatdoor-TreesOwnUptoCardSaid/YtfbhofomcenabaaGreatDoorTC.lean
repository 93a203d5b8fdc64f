/- What the reference's below answers. What the reference's Check and Right answer. What trees.right answers: is a file right by itself, where it stands? -/
import Derived.Test.YtfbhofomcenabaaGreatDoorFAl
import Derived.Lib.QuietBelow
import Derived.BigQuiet
import Derived.Test.YtfbhofomcenabaaGreatDoorTB
import Derived.Deep.QuietTactic
import Derived.Deep.DeepCutAuto
namespace Go.Proofs.YtfbhofomcenabaaGreatDoor
open Go.RowKit

namespace Ft
/-- Are all names and texts below a file short of 1048577 bytes? -/
def szT (T : FT) : Bool := match T with
  | .mk _ _ _ l => szL l
where
  szL : List FT → Bool
  | [] => true
  | x :: r => decide (x.nm.size ≤ 1048576) && decide (x.d.size ≤ 1048576) && szT x && szL r
theorem szL_mem : ∀ {l : List FT}, szT.szL l = true → ∀ i (h : i < l.length), (l[i]).nm.size ≤ 1048576 ∧ (l[i]).d.size ≤ 1048576 ∧ szT (l[i]) = true
  | [], _, i, h => absurd h (by simp)
  | x :: r, hs, i, h => by
    rw [szT.szL] at hs
    simp only [Bool.and_eq_true, decide_eq_true_eq] at hs
    cases i with
    | zero => exact ⟨hs.1.1.1, hs.1.1.2, hs.1.2⟩
    | succ j => exact szL_mem hs.2 j (by simpa using h)
theorem sz_kid {T : FT} (hs : szT T = true) {i : Nat} (h : i < T.kids.length) : (T.kids[i]).nm.size ≤ 1048576 ∧ (T.kids[i]).d.size ≤ 1048576 ∧ szT (T.kids[i]) = true := by
  obtain ⟨_, _, _, l⟩ := T
  rw [szT] at hs
  exact szL_mem hs i h
/-- Is a file wrong beside the one ahead of it, under a path? -/
def badB (b : Option ByteArray) (x : FT) (n : Nat) : Bool :=
  !Pl.nameB x.nm || (match b with | none => false | some y => !Op.bytesLess y.toList x.nm.toList) || decide (64 < n + 1) || !aloneT x
/-- The first file below one that is not right. -/
def belT (T : FT) (p : List ByteArray) : Option (List ByteArray) := match T with
  | .mk _ _ _ l => belL none l p
where
  belL (b : Option ByteArray) : List FT → List ByteArray → Option (List ByteArray)
  | [], _ => none
  | x :: r, p => if badB b x p.length then some (p ++ [x.nm]) else match belT x (p ++ [x.nm]) with
    | some q => some q
    | none => belL (some x.nm) r p
theorem belT_eq (T : FT) (p : List ByteArray) : belT T p = belT.belL none T.kids p := by cases T; rw [belT]; rfl
/-- The name ahead of the i-th. -/
def ahead (l : List FT) (i : Nat) : Option ByteArray := match i with
  | 0 => none
  | j + 1 => l[j]?.map (·.nm)
theorem bel_drop {l : List FT} {i : Nat} (h : i < l.length) (p : List ByteArray) : belT.belL (ahead l i) (l.drop i) p = if badB (ahead l i) (l[i]) p.length then some (p ++ [(l[i]).nm]) else match belT (l[i]) (p ++ [(l[i]).nm]) with
    | some q => some q
    | none => belT.belL (ahead l (i + 1)) (l.drop (i + 1)) p := by
  rw [List.drop_eq_getElem_cons h, belT.belL]
  have e : ahead l (i + 1) = some (l[i]).nm := by simp [ahead, h]
  rw [e]
/-- What below answers: nothing, or a path of the call's own. -/
def BelIs (R : Option (List ByteArray)) (base : Nat) (e : Ending) (w' : World) : Prop :=
  (R = none ∧ e = .returned (.tuple #[.slice none 0 0, .bool false])) ∨ ∃ q v, R = some q ∧ e = .returned (.tuple #[v, .bool true]) ∧ w'.ownsRow base 9 1 v q.length (q.map Value.string)
end Ft
theorem own_mono {w : World} {base base' : Nat} {e : TypeId} {size : Nat} {v : Value} {n : Nat} {xs : List Value} (h : w.ownsRow base e size v n xs) (hb : base' ≤ base) : w.ownsRow base' e size v n xs := by
  refine ⟨h.1, ?_⟩
  rcases h.2 with h2 | ⟨g, cap, cur, hv, hbg, r⟩
  · exact .inl h2
  · exact .inr ⟨g, cap, cur, hv, Nat.le_trans hb hbg, r⟩

set_option maxRecDepth 100000 in
set_option maxHeartbeats 2000000 in
theorem rbelow_any (T : Ft.FT) : ∀ (p : List ByteArray) (a : Option Addr) (cap : Nat) (ap : Option Addr) (cp : Nat) (w : World), Ft.Fd w (· < w.heap.size) T a cap → Ft.szT T = true → Strs w ap cp p → p.length ≤ 64 → (∀ s ∈ p, s.size ≤ 1048576) →
    Calls Tryz.prog 108 #[Ft.fdV T a cap, .slice ap p.length cp] w fun e w' => Ft.BelIs (Ft.belT T p) w.heap.size e w' ∧ Below w.heap.size w w' := by
  induction T using Ft.FT.ind with
  | h T ih =>
  intro p a cap ap cp w hN hz hP hpl hps
  have IH : Hid _ := ih
  clear ih
  have HR : Hid (Ft.belT T p = Ft.belT.belL (Ft.ahead T.kids 0) (T.kids.drop 0) p) := Ft.belT_eq T p
  generalize Ft.belT T p = R at *
  have hla := hN.room.1
  have NA0 := Ft.file_new w T a cap
  have hB0 : Below w.heap.size w (w.alloc (.cells (Ft.fdA T a cap) 25)) := (Below.refl w.heap.size w).alloc (Nat.le_refl _) _
  have hs0 : (w.alloc (.cells (Ft.fdA T a cap) 25)).heap.size = w.heap.size + 1 := by simp
  simp only [Ft.fdV, Ft.fdA] at NA0 hB0 hs0 ⊢
  obtain ⟨W, hW⟩ : ∃ W, W = w.alloc (.cells #[.string T.nm, .int .u8 (T.k : Int), .string T.d, .slice a T.kids.length cap] 25) := ⟨_, rfl⟩
  rw [← hW] at NA0 hB0 hs0
  have hN1 : Ft.Fd W (· < w.heap.size) T a cap := hN.under hB0
  have hP1 : Strs W ap cp p := hP.below hB0
  have HZ : Hid _ := hz
  have HPS : Hid _ := hps
  clear hz hps hP
  go_enter Tryz.func108, Tryz.ntmps108
  go_wp2_with fail
  rw [← hW]
  clear hW
  go_loopw [14] (fun iv wr => ∃ i : Nat, i ≤ T.kids.length ∧ iv = .int .i64 (i : Int) ∧ Hid (R = Ft.belT.belL (Ft.ahead T.kids i) (T.kids.drop i) p) ∧ Ft.FileAt wr w.heap.size T a cap ∧ Hid (Ft.Fd wr (· < w.heap.size) T a cap) ∧ Hid (Strs wr ap cp p) ∧ Hid (Below w.heap.size w wr) ∧ w.heap.size + 1 ≤ wr.heap.size) (fun iv _ => T.kids.length - (intOf iv).toNat)
  case atStart => exact ⟨0, by omega, rfl, HR, NA0, hN1, hP1, hB0, by omega⟩
  case round =>
    obtain ⟨i, hi, rfl, HC, NA, ND, NP, HB, hsz⟩ := hrel
    clear NA0 hB0 hN1 hP1 hs0 HR
    obtain ⟨_, _, _, q8⟩ := NA.four
    by_cases hlt : i < T.kids.length
    · obtain ⟨b, off, a', cap', rfl, hbB, h9, hk⟩ := ND.out.kid hlt
      obtain ⟨r0, r1, r2, r3⟩ := h9
      have hbr : b < wr.heap.size := by have := HB.out.size; omega
      have hki : (i : Int) < (T.kids.length : Int) := by omega
      obtain ⟨W1, hW1⟩ : ∃ W1, W1 = wr.alloc (.cells #[.string (T.kids[i]).nm, .int .u8 ((T.kids[i]).k : Int), .string (T.kids[i]).d, .slice a' (T.kids[i]).kids.length cap'] 25) := ⟨_, rfl⟩
      have hA : Below wr.heap.size wr W1 := by rw [hW1]; exact (Below.refl _ _).alloc (Nat.le_refl _) _
      have hsA : W1.heap.size = wr.heap.size + 1 := by rw [hW1]; simp
      have K1 : Ft.FileAt W1 wr.heap.size (T.kids[i]) a' cap' := by rw [hW1]; exact Ft.file_new wr (T.kids[i]) a' cap'
      obtain ⟨k0, k1, k2, k3⟩ := K1.four
      have HL : Hid (∀ V, Below W1.heap.size W1 V → Calls Tryz.prog 76 #[.slice ap p.length cp, .string (T.kids[i]).nm] V fun e w' => ∃ v, e = .returned v ∧ w'.ownsRow W1.heap.size 9 1 v (p.length + 1) ((p ++ [(T.kids[i]).nm]).map Value.string) ∧ Below W1.heap.size W1 w') := by
        intro V hV
        refine (longer_any ap cp p (T.kids[i]).nm V ((NP.out.below hA).below hV) (by omega)).mono ?_
        rintro e w2 ⟨v, he, ho, hb⟩
        exact ⟨v, he, own_mono ho hV.size, hV.trans (hb.mono hV.size)⟩
      go_wp2_with (go_at_call 76; rw [← hW1]; refine Calls.mono (HL.out _ (Below.refl _ _)) ?_; rintro e w2 ⟨v, rfl, ho, hb2⟩)
      have e1 : p.length + 1 = (p ++ [(T.kids[i]).nm]).length := by simp
      rw [e1] at ho
      obtain ⟨zn, zd, zk⟩ := Ft.sz_kid HZ.out hlt
      have hq64 : (p ++ [(T.kids[i]).nm]).length ≤ 65 := by simp; omega
      have HQS : Hid (∀ s ∈ p ++ [(T.kids[i]).nm], s.size ≤ 1048576) := by
        intro s hs
        rcases List.mem_append.1 hs with h | h
        · exact HPS.out s h
        · rw [List.mem_singleton.1 h]; exact zn
      obtain ⟨qa, qc, hv, hQ⟩ := own_strs ho (by omega) (fun s hs => by have := HQS.out s hs; omega)
      rw [← e1] at hv
      subst hv
      have HO : Hid _ := ho
      have HQ : Hid _ := hQ
      have NA2 := (NA.under hA).under hb2
      have HW2 : Hid (Below w.heap.size w w2) := HB.out.trans ((hA.mono HB.out.size).trans (hb2.mono (by have := HB.out.size; omega)))
      have hs2 := hb2.size
      obtain ⟨k0, k1, k2, k3⟩ := (K1.under hb2).four
      obtain ⟨_, _, _, q8⟩ := NA2.four
      have HD : Hid _ := Ft.bel_drop hlt p
      have HC2 : Hid _ := HC.out.trans HD.out
      have HNm : Hid (∀ V, Calls Tryz.prog 88 #[.string (T.kids[i]).nm] V fun e w' => e = .returned (.bool (Pl.nameB (T.kids[i]).nm)) ∧ Below V.heap.size V w') := fun V => (rname_any _ V zn).mono fun _ _ ⟨h, e⟩ => ⟨h, e ▸ Below.refl _ _⟩
      have HAl : Hid (∀ V, Calls Tryz.prog 135 #[Ft.fdV (T.kids[i]) a' cap'] V fun e w' => e = .returned (.bool (Ft.aloneT (T.kids[i]))) ∧ Below V.heap.size V w') := fun V => ralone_any _ a' cap' V zd hk.room.1
      simp only [Ft.fdV, Ft.fdA] at HAl
      have HBy : Hid (Ft.badB (Ft.ahead T.kids i) (T.kids[i]) p.length = true → R = some (p ++ [(T.kids[i]).nm])) := fun h => by rw [HC2.out, if_pos h]
      have HBn : Hid (Ft.badB (Ft.ahead T.kids i) (T.kids[i]) p.length = false → R = match Ft.belT (T.kids[i]) (p ++ [(T.kids[i]).nm]) with
          | some q => some q
          | none => Ft.belT.belL (Ft.ahead T.kids (i + 1)) (T.kids.drop (i + 1)) p) := fun h => by rw [HC2.out, if_neg (by rw [h]; decide)]
      have HBd : Hid (Ft.badB (Ft.ahead T.kids i) (T.kids[i]) p.length = (!Pl.nameB (T.kids[i]).nm || (match Ft.ahead T.kids i with | none => false | some y => !Op.bytesLess y.toList (T.kids[i]).nm.toList) || decide (64 < p.length + 1) || !Ft.aloneT (T.kids[i]))) := rfl
      have x0 := fun d os => cell_regrown k0 d os
      have x1 := fun d os => cell_regrown k1 d os
      have x2 := fun d os => cell_regrown k2 d os
      have x3 := fun d os => cell_regrown k3 d os
      have x8 := fun d os => cell_regrown q8 d os
      have HP2 : Hid (Strs w2 ap cp p) := (NP.out.below hA).below hb2
      have HK2 : Hid (Ft.FileAt w2 wr.heap.size (T.kids[i]) a' cap') := K1.under hb2
      have HI : Hid (p.length + 1 ≤ 64 → ∀ V, Below w2.heap.size w2 V → Calls Tryz.prog 108 #[Ft.fdV (T.kids[i]) a' cap', .slice qa (p.length + 1) qc] V fun e w' => Ft.BelIs (Ft.belT (T.kids[i]) (p ++ [(T.kids[i]).nm])) V.heap.size e w' ∧ Below V.heap.size V w') := by
        intro h64 V hV
        have hsV := hV.size
        rw [e1]
        refine IH.out i hlt _ a' cap' qa qc V ?_ zk (HQ.out.below hV) (by omega) HQS.out
        have := HB.out.size
        exact hk.same (fun b (h : b < _) => (hV.block b (by omega)).trans ((hb2.block b (by omega)).trans (hA.block b (by omega)))) (fun b (h : b < _) => by omega)
      simp only [Ft.fdV, Ft.fdA] at HI
      have HNd : Hid _ := hk
      clear k0 k1 k2 k3 q8 r0 r1 r2 r3 K1 hQ ho HL HC HD HC2 NP IH hk e1 hq64
      generalize Pl.nameB (T.kids[i]).nm = nb at *
      generalize Ft.aloneT (T.kids[i]) = ab at *
      cases nb
      · refine wp_region_quiet_below (by kernel_rfl) (by kernel_rfl) ?_
        iterate 30 (go_big_quiet_step (first | (go_at_call 88; exact Calls.regrown_of (HNm.out _)) | (go_at_call 135; exact Calls.regrown_of (HAl.out _))))
        refine wpQuiet_nil ?_
        intro _ hw'
        obtain ⟨⟨dq, osq⟩, hw''⟩ := hw'
        subst hw''
        have hb3 := below_regrown w2 dq osq
        change Exit.then _ _ _ _ (Sort.grow (redrawn w2 dq) osq)
        have HO3 : Hid _ := own_below HO.out hb3
        have HW3 : Hid _ := HW2.out.trans (hb3.mono HW2.out.size)
        clear x0 x1 x2 x3 x8
        generalize Sort.grow (redrawn w2 dq) osq = w3 at *
        have hR : R = some (p ++ [(T.kids[i]).nm]) := HBy.out (by rw [HBd.out]; simp)
        subst hR
        go_wp2_with fail
        refine bodyPost_ret (results_tmp2 rfl _ _ _) rfl ?_
        exact ⟨.inr ⟨_, .slice qa (p.length + 1) qc, rfl, rfl, own_mono HO3.out (by have := HB.out.size; omega)⟩, HW3.out⟩
      by_cases h0 : i = 0
      · have HBd : Hid (Ft.badB (Ft.ahead T.kids i) (T.kids[i]) p.length = (!true || false || decide (64 < p.length + 1) || !ab)) := by
          refine HBd.out.trans ?_
          simp only [h0, Ft.ahead]
        have h0' : ¬ (0 : Int) < (i : Int) := by omega
        have h0'' : ¬ 0 < i := by omega
        have h0d : decide (0 < i) = false := by simp [h0]
        have h0e : decide ((0 : Int) < (i : Int)) = false := by simp [h0]
        clear h0
        by_cases c3 : 64 < p.length + 1
        · have c3' : (64 : Int) < (p.length : Int) + 1 := by omega
          refine wp_region_quiet_below (by kernel_rfl) (by kernel_rfl) ?_
          iterate 30 (go_big_quiet_step (first | (go_at_call 88; exact Calls.regrown_of (HNm.out _)) | (go_at_call 135; exact Calls.regrown_of (HAl.out _))))
          refine wpQuiet_nil ?_
          intro _ hw'
          obtain ⟨⟨dq, osq⟩, hw''⟩ := hw'
          subst hw''
          have hb3 := below_regrown w2 dq osq
          change Exit.then _ _ _ _ (Sort.grow (redrawn w2 dq) osq)
          have HO3 : Hid _ := own_below HO.out hb3
          have HW3 : Hid _ := HW2.out.trans (hb3.mono HW2.out.size)
          clear x0 x1 x2 x3 x8
          generalize Sort.grow (redrawn w2 dq) osq = w3 at *
          have hR : R = some (p ++ [(T.kids[i]).nm]) := HBy.out (by rw [HBd.out]; simp [c3])
          subst hR
          go_wp2_with fail
          refine bodyPost_ret (results_tmp2 rfl _ _ _) rfl ?_
          exact ⟨.inr ⟨_, .slice qa (p.length + 1) qc, rfl, rfl, own_mono HO3.out (by have := HB.out.size; omega)⟩, HW3.out⟩
        have c3' : ¬ (64 : Int) < (p.length : Int) + 1 := by omega
        cases ab
        · refine wp_region_quiet_below (by kernel_rfl) (by kernel_rfl) ?_
          iterate 30 (go_big_quiet_step (first | (go_at_call 88; exact Calls.regrown_of (HNm.out _)) | (go_at_call 135; exact Calls.regrown_of (HAl.out _))))
          refine wpQuiet_nil ?_
          intro _ hw'
          obtain ⟨⟨dq, osq⟩, hw''⟩ := hw'
          subst hw''
          have hb3 := below_regrown w2 dq osq
          change Exit.then _ _ _ _ (Sort.grow (redrawn w2 dq) osq)
          have HO3 : Hid _ := own_below HO.out hb3
          have HW3 : Hid _ := HW2.out.trans (hb3.mono HW2.out.size)
          clear x0 x1 x2 x3 x8
          generalize Sort.grow (redrawn w2 dq) osq = w3 at *
          have hR : R = some (p ++ [(T.kids[i]).nm]) := HBy.out (by rw [HBd.out]; simp)
          subst hR
          go_wp2_with fail
          refine bodyPost_ret (results_tmp2 rfl _ _ _) rfl ?_
          exact ⟨.inr ⟨_, .slice qa (p.length + 1) qc, rfl, rfl, own_mono HO3.out (by have := HB.out.size; omega)⟩, HW3.out⟩
        · refine wp_region_quiet_below (by kernel_rfl) (by kernel_rfl) ?_
          iterate 30 (go_big_quiet_step (first | (go_at_call 88; exact Calls.regrown_of (HNm.out _)) | (go_at_call 135; exact Calls.regrown_of (HAl.out _))))
          refine wpQuiet_nil ?_
          intro _ hw'
          obtain ⟨⟨dq, osq⟩, hw''⟩ := hw'
          subst hw''
          have hb3 := below_regrown w2 dq osq
          change Exit.then _ _ _ _ (Sort.grow (redrawn w2 dq) osq)
          have HR3 : Hid _ := HBn.out (by rw [HBd.out]; simp [c3])
          have HW3 : Hid _ := HW2.out.trans (hb3.mono HW2.out.size)
          have HI3 : Hid _ := HI.out (by omega) _ hb3
          have NA3 := NA2.under hb3
          have hs3 := hb3.size
          have HP3 : Hid _ := Strs.below HP2.out hb3
          obtain ⟨k0, k1, k2, k3⟩ := (Ft.FileAt.under HK2.out hb3).four
          clear x0 x1 x2 x3 x8
          generalize Sort.grow (redrawn w2 dq) osq = w3 at *
          cases hbt : Ft.belT (T.kids[i]) (p ++ [(T.kids[i]).nm]) with
          | none =>
            rw [hbt] at HI3 HR3
            have HI4 : Hid (Calls Tryz.prog 108 #[.agg #[.string (T.kids[i]).nm, .int .u8 ((T.kids[i]).k : Int), .string (T.kids[i]).d, .slice a' (T.kids[i]).kids.length cap'], .slice qa (p.length + 1) qc] w3 fun e w' => e = .returned (.tuple #[.slice none 0 0, .bool false]) ∧ Below w3.heap.size w3 w') := Calls.mono HI3.out (by
              rintro e w' ⟨⟨_, he⟩ | ⟨q, v, hq, _⟩, hb⟩
              · exact ⟨he, hb⟩
              · cases hq)
            go_wp2_with (go_at_call 108; refine Calls.mono HI4.out ?_; rintro e w4 ⟨rfl, hb4⟩)
            have HW4 : Below w.heap.size w w4 := HW3.out.trans (hb4.mono HW3.out.size)
            have hs4 := hb4.size
            go_roundw
            case rel => exact ⟨i + 1, by omega, by go_num, HR3, NA3.under hb4, (hN.under HW4), HP3.out.below hb4, HW4, by omega⟩
            case measure => simp [intOf]; omega
          | some q =>
            rw [hbt] at HI3 HR3
            have hR : R = some q := HR3.out
            subst hR
            have HI4 : Hid (Calls Tryz.prog 108 #[.agg #[.string (T.kids[i]).nm, .int .u8 ((T.kids[i]).k : Int), .string (T.kids[i]).d, .slice a' (T.kids[i]).kids.length cap'], .slice qa (p.length + 1) qc] w3 fun e w' => ∃ v, e = .returned (.tuple #[v, .bool true]) ∧ w'.ownsRow w3.heap.size 9 1 v q.length (q.map Value.string) ∧ Below w3.heap.size w3 w') := Calls.mono HI3.out (by
              rintro e w' ⟨⟨hq, _⟩ | ⟨q', v, hq, he, ho⟩, hb⟩
              · cases hq
              · cases hq; exact ⟨v, he, ho, hb⟩)
            go_wp2_with (go_at_call 108; refine Calls.mono HI4.out ?_; rintro e w4 ⟨v, rfl, ho4, hb4⟩)
            refine bodyPost_ret (results_tmp2 rfl _ _ _) rfl ?_
            exact ⟨.inr ⟨_, v, rfl, rfl, own_mono ho4 HW3.out.size⟩, HW3.out.trans (hb4.mono HW3.out.size)⟩
      · obtain ⟨j, rfl⟩ : ∃ j, i = j + 1 := ⟨i - 1, by omega⟩
        clear h0
        obtain ⟨b', off', a2, cap2, e2, hbB', h9', hk'⟩ := ND.out.kid (i := j) (by omega)
        cases e2
        obtain ⟨r0, _, _, _⟩ := (h9'.same (hA.block _ hbr)).same (hb2.block _ (by omega))
        have x9 := fun d os => cell_regrown r0 d os
        have hj1 : ((j : Int) < (T.kids.length : Int)) := by omega
        replace HBd : Hid (Ft.badB (Ft.ahead T.kids (j + 1)) (T.kids[j + 1]) p.length = (!true || !Op.bytesLess (T.kids[j]).nm.toList (T.kids[j + 1]).nm.toList || decide (64 < p.length + 1) || !ab)) := by
          refine HBd.out.trans ?_
          have e : Ft.ahead T.kids (j + 1) = some (T.kids[j]).nm := by simp [Ft.ahead, show j < T.kids.length by omega]
          rw [e]
        clear r0 h9' hk'
        cases hlb : Op.bytesLess (T.kids[j]).nm.toList (T.kids[j + 1]).nm.toList
        · refine wp_region_quiet_below (by kernel_rfl) (by kernel_rfl) ?_
          iterate 30 (go_big_quiet_step (first | (go_at_call 88; exact Calls.regrown_of (HNm.out _)) | (go_at_call 135; exact Calls.regrown_of (HAl.out _))))
          refine wpQuiet_nil ?_
          intro _ hw'
          obtain ⟨⟨dq, osq⟩, hw''⟩ := hw'
          subst hw''
          have hb3 := below_regrown w2 dq osq
          change Exit.then _ _ _ _ (Sort.grow (redrawn w2 dq) osq)
          have HO3 : Hid _ := own_below HO.out hb3
          have HW3 : Hid _ := HW2.out.trans (hb3.mono HW2.out.size)
          clear x0 x1 x2 x3 x8
          generalize Sort.grow (redrawn w2 dq) osq = w3 at *
          have hR : R = some (p ++ [(T.kids[j + 1]).nm]) := HBy.out (by rw [HBd.out]; simp [hlb])
          subst hR
          go_wp2_with fail
          refine bodyPost_ret (results_tmp2 rfl _ _ _) rfl ?_
          exact ⟨.inr ⟨_, .slice qa (p.length + 1) qc, rfl, rfl, own_mono HO3.out (by have := HB.out.size; omega)⟩, HW3.out⟩
        by_cases c3 : 64 < p.length + 1
        · have c3' : (64 : Int) < (p.length : Int) + 1 := by omega
          refine wp_region_quiet_below (by kernel_rfl) (by kernel_rfl) ?_
          iterate 30 (go_big_quiet_step (first | (go_at_call 88; exact Calls.regrown_of (HNm.out _)) | (go_at_call 135; exact Calls.regrown_of (HAl.out _))))
          refine wpQuiet_nil ?_
          intro _ hw'
          obtain ⟨⟨dq, osq⟩, hw''⟩ := hw'
          subst hw''
          have hb3 := below_regrown w2 dq osq
          change Exit.then _ _ _ _ (Sort.grow (redrawn w2 dq) osq)
          have HO3 : Hid _ := own_below HO.out hb3
          have HW3 : Hid _ := HW2.out.trans (hb3.mono HW2.out.size)
          clear x0 x1 x2 x3 x8
          generalize Sort.grow (redrawn w2 dq) osq = w3 at *
          have hR : R = some (p ++ [(T.kids[j + 1]).nm]) := HBy.out (by rw [HBd.out]; simp [c3, hlb])
          subst hR
          go_wp2_with fail
          refine bodyPost_ret (results_tmp2 rfl _ _ _) rfl ?_
          exact ⟨.inr ⟨_, .slice qa (p.length + 1) qc, rfl, rfl, own_mono HO3.out (by have := HB.out.size; omega)⟩, HW3.out⟩
        have c3' : ¬ (64 : Int) < (p.length : Int) + 1 := by omega
        cases ab
        · refine wp_region_quiet_below (by kernel_rfl) (by kernel_rfl) ?_
          iterate 30 (go_big_quiet_step (first | (go_at_call 88; exact Calls.regrown_of (HNm.out _)) | (go_at_call 135; exact Calls.regrown_of (HAl.out _))))
          refine wpQuiet_nil ?_
          intro _ hw'
          obtain ⟨⟨dq, osq⟩, hw''⟩ := hw'
          subst hw''
          have hb3 := below_regrown w2 dq osq
          change Exit.then _ _ _ _ (Sort.grow (redrawn w2 dq) osq)
          have HO3 : Hid _ := own_below HO.out hb3
          have HW3 : Hid _ := HW2.out.trans (hb3.mono HW2.out.size)
          clear x0 x1 x2 x3 x8
          generalize Sort.grow (redrawn w2 dq) osq = w3 at *
          have hR : R = some (p ++ [(T.kids[j + 1]).nm]) := HBy.out (by rw [HBd.out]; simp)
          subst hR
          go_wp2_with fail
          refine bodyPost_ret (results_tmp2 rfl _ _ _) rfl ?_
          exact ⟨.inr ⟨_, .slice qa (p.length + 1) qc, rfl, rfl, own_mono HO3.out (by have := HB.out.size; omega)⟩, HW3.out⟩
        · refine wp_region_quiet_below (by kernel_rfl) (by kernel_rfl) ?_
          iterate 30 (go_big_quiet_step (first | (go_at_call 88; exact Calls.regrown_of (HNm.out _)) | (go_at_call 135; exact Calls.regrown_of (HAl.out _))))
          refine wpQuiet_nil ?_
          intro _ hw'
          obtain ⟨⟨dq, osq⟩, hw''⟩ := hw'
          subst hw''
          have hb3 := below_regrown w2 dq osq
          change Exit.then _ _ _ _ (Sort.grow (redrawn w2 dq) osq)
          have HR3 : Hid _ := HBn.out (by rw [HBd.out]; simp [c3, hlb])
          have HW3 : Hid _ := HW2.out.trans (hb3.mono HW2.out.size)
          have HI3 : Hid _ := HI.out (by omega) _ hb3
          have NA3 := NA2.under hb3
          have hs3 := hb3.size
          have HP3 : Hid _ := Strs.below HP2.out hb3
          obtain ⟨k0, k1, k2, k3⟩ := (Ft.FileAt.under HK2.out hb3).four
          clear x0 x1 x2 x3 x8
          generalize Sort.grow (redrawn w2 dq) osq = w3 at *
          cases hbt : Ft.belT (T.kids[j + 1]) (p ++ [(T.kids[j + 1]).nm]) with
          | none =>
            rw [hbt] at HI3 HR3
            have HI4 : Hid (Calls Tryz.prog 108 #[.agg #[.string (T.kids[j + 1]).nm, .int .u8 ((T.kids[j + 1]).k : Int), .string (T.kids[j + 1]).d, .slice a' (T.kids[j + 1]).kids.length cap'], .slice qa (p.length + 1) qc] w3 fun e w' => e = .returned (.tuple #[.slice none 0 0, .bool false]) ∧ Below w3.heap.size w3 w') := Calls.mono HI3.out (by
              rintro e w' ⟨⟨_, he⟩ | ⟨q, v, hq, _⟩, hb⟩
              · exact ⟨he, hb⟩
              · cases hq)
            go_wp2_with (go_at_call 108; refine Calls.mono HI4.out ?_; rintro e w4 ⟨rfl, hb4⟩)
            have HW4 : Below w.heap.size w w4 := HW3.out.trans (hb4.mono HW3.out.size)
            have hs4 := hb4.size
            go_roundw
            case rel => exact ⟨j + 1 + 1, by omega, by go_num, HR3, NA3.under hb4, (hN.under HW4), HP3.out.below hb4, HW4, by omega⟩
            case measure => simp [intOf]; omega
          | some q =>
            rw [hbt] at HI3 HR3
            have hR : R = some q := HR3.out
            subst hR
            have HI4 : Hid (Calls Tryz.prog 108 #[.agg #[.string (T.kids[j + 1]).nm, .int .u8 ((T.kids[j + 1]).k : Int), .string (T.kids[j + 1]).d, .slice a' (T.kids[j + 1]).kids.length cap'], .slice qa (p.length + 1) qc] w3 fun e w' => ∃ v, e = .returned (.tuple #[v, .bool true]) ∧ w'.ownsRow w3.heap.size 9 1 v q.length (q.map Value.string) ∧ Below w3.heap.size w3 w') := Calls.mono HI3.out (by
              rintro e w' ⟨⟨hq, _⟩ | ⟨q', v, hq, he, ho⟩, hb⟩
              · cases hq
              · cases hq; exact ⟨v, he, ho, hb⟩)
            go_wp2_with (go_at_call 108; refine Calls.mono HI4.out ?_; rintro e w4 ⟨v, rfl, ho4, hb4⟩)
            refine bodyPost_ret (results_tmp2 rfl _ _ _) rfl ?_
            exact ⟨.inr ⟨_, v, rfl, rfl, own_mono ho4 HW3.out.size⟩, HW3.out.trans (hb4.mono HW3.out.size)⟩
    · obtain rfl : i = T.kids.length := by omega
      have hRt : R = none := by
        rw [HC.out, List.drop_length, Ft.belT.belL]
      subst hRt
      go_wp2_with fail
      refine bodyPost_ret (results_tmp2 rfl _ _ _) rfl ?_
      exact ⟨.inl ⟨rfl, rfl⟩, HB.out⟩
end Go.Proofs.YtfbhofomcenabaaGreatDoor
namespace Go.Proofs.YtfbhofomcenabaaGreatDoor
open Go.RowKit

namespace Ft
/-- Is a file a root? -/
def rootB (T : FT) : Bool := (T.k == 1) && (T.nm.toList.isEmpty && T.d.toList.isEmpty)
/-- Is a tree right? -/
def rightT (T : FT) : Bool := rootB T && (belT T []).isNone
/-- Where a tree is wrong, if below its root. -/
def wrongAt (T : FT) : List ByteArray := if rootB T then (belT T []).getD [] else []
/-- What Check answers. -/
def ChkIs (T : FT) (base : Nat) (e : Ending) (w' : World) : Prop :=
  ∃ v, e = .returned (.tuple #[.int .i64 (if rightT T then 0 else 30), v]) ∧ w'.ownsRow base 9 1 v (wrongAt T).length ((wrongAt T).map Value.string)
end Ft

set_option maxRecDepth 100000 in
set_option maxHeartbeats 2000000 in
theorem rcheck_any (T : Ft.FT) (a : Option Addr) (cap : Nat) (w : World) (hN : Ft.Fd w (· < w.heap.size) T a cap) (hz : Ft.szT T = true) :
    Calls Tryz.prog 75 #[Ft.fdV T a cap] w fun e w' => Ft.ChkIs T w.heap.size e w' ∧ Below w.heap.size w w' := by
  have NA0 := Ft.file_new w T a cap
  have hB0 : Below w.heap.size w (w.alloc (.cells (Ft.fdA T a cap) 25)) := (Below.refl w.heap.size w).alloc (Nat.le_refl _) _
  have hs0 : (w.alloc (.cells (Ft.fdA T a cap) 25)).heap.size = w.heap.size + 1 := by simp
  have HI : Hid (Calls Tryz.prog 108 #[Ft.fdV T a cap, .slice none 0 0] (w.alloc (.cells (Ft.fdA T a cap) 25)) fun e w' => Ft.BelIs (Ft.belT T []) w.heap.size e w' ∧ Below w.heap.size w w') := by
    refine Calls.mono (rbelow_any T [] a cap none 0 _ ((hN.under hB0).mono (fun b (h : b < _) => by omega)) hz (Strs.empty _) (by simp) (by simp)) ?_
    rintro e w' ⟨h, hb⟩
    refine ⟨?_, hB0.trans (hb.mono (by omega))⟩
    rcases h with h | ⟨q, v, h1, h2, h3⟩
    · exact .inl h
    · exact .inr ⟨q, v, h1, h2, own_mono h3 (by omega)⟩
  have HE : Hid (∀ v w', Ft.rightT T = false → w'.ownsRow w.heap.size 9 1 v (Ft.wrongAt T).length ((Ft.wrongAt T).map Value.string) → Ft.ChkIs T w.heap.size (.returned (.tuple #[.int .i64 30, v])) w') := fun v w' h ho => ⟨v, by rw [h]; rfl, ho⟩
  have HRt : Hid (Ft.rootB T = ((T.k == 1) && (T.nm.toList.isEmpty && T.d.toList.isEmpty))) := rfl
  have HR1 : Hid (Ft.rootB T = false → Ft.rightT T = false ∧ Ft.wrongAt T = []) := fun h => by simp [Ft.rightT, Ft.wrongAt, h]
  have HR2 : Hid (Ft.rootB T = true → Ft.belT T [] = none → Ft.rightT T = true ∧ Ft.wrongAt T = []) := fun h h2 => by simp [Ft.rightT, Ft.wrongAt, h, h2]
  have HR3 : Hid (∀ q, Ft.rootB T = true → Ft.belT T [] = some q → Ft.rightT T = false ∧ Ft.wrongAt T = q) := fun q h h2 => by simp [Ft.rightT, Ft.wrongAt, h, h2]
  simp only [Ft.fdV, Ft.fdA] at NA0 hB0 hs0 HI ⊢
  obtain ⟨W, hW⟩ : ∃ W, W = w.alloc (.cells #[.string T.nm, .int .u8 (T.k : Int), .string T.d, .slice a T.kids.length cap] 25) := ⟨_, rfl⟩
  rw [← hW] at NA0 hB0 hs0 HI
  obtain ⟨q0, q1, q2, q3⟩ := NA0.four
  have HB0 : Hid _ := hB0
  go_enter Tryz.func75, Tryz.ntmps75
  cases c1 : ((T.k : Int) != 1)
  rotate_left
  · have e1 : ¬ T.k = 1 := by intro e; rw [e] at c1; simp at c1
    have hR := HR1.out (by rw [HRt.out]; simp [e1])
    go_wp2_with fail
    rw [← hW]
    refine bodyPost_ret (results_tmp2 rfl _ _ _) rfl ?_
    refine ⟨HE.out (.slice none 0 0) _ hR.1 ?_, HB0.out⟩
    rw [hR.2]
    exact World.ownsRow_nil _ _ _ _
  cases c2 : T.nm.toList.isEmpty
  · have hR := HR1.out (by rw [HRt.out]; simp [c2])
    go_wp2_with fail
    rw [← hW]
    refine bodyPost_ret (results_tmp2 rfl _ _ _) rfl ?_
    refine ⟨HE.out (.slice none 0 0) _ hR.1 ?_, HB0.out⟩
    rw [hR.2]
    exact World.ownsRow_nil _ _ _ _
  cases c3 : T.d.toList.isEmpty
  · have hR := HR1.out (by rw [HRt.out]; simp [c3])
    go_wp2_with fail
    rw [← hW]
    refine bodyPost_ret (results_tmp2 rfl _ _ _) rfl ?_
    refine ⟨HE.out (.slice none 0 0) _ hR.1 ?_, HB0.out⟩
    rw [hR.2]
    exact World.ownsRow_nil _ _ _ _
  have HRoot : Hid (Ft.rootB T = true) := by
    show _ = _
    have e1 : T.k = 1 := by simp at c1; omega
    rw [HRt.out, c2, c3]; simp [e1]
  cases hbt : Ft.belT T [] with
  | none =>
    rw [hbt] at HI
    have HI4 : Hid (Calls Tryz.prog 108 #[.agg #[.string T.nm, .int .u8 (T.k : Int), .string T.d, .slice a T.kids.length cap], .slice none 0 0] W fun e w' => e = .returned (.tuple #[.slice none 0 0, .bool false]) ∧ Below w.heap.size w w') := Calls.mono HI.out (by
      rintro e w' ⟨⟨_, he⟩ | ⟨q, v, hq, _⟩, hb⟩
      · exact ⟨he, hb⟩
      · cases hq)
    have hR := HR2.out HRoot.out hbt
    have HE2 : Hid (∀ w', Ft.ChkIs T w.heap.size (.returned (.tuple #[.int .i64 0, .slice none 0 0])) w') := fun w' => ⟨_, by rw [hR.1]; rfl, by rw [hR.2]; exact World.ownsRow_nil _ _ _ _⟩
    go_wp2_with (go_at_call 108; rw [← hW]; refine Calls.mono HI4.out ?_; rintro e w4 ⟨rfl, hb4⟩)
    refine bodyPost_ret (results_tmp2 rfl _ _ _) rfl ?_
    exact ⟨HE2.out _, hb4⟩
  | some q =>
    rw [hbt] at HI
    have HI4 : Hid (Calls Tryz.prog 108 #[.agg #[.string T.nm, .int .u8 (T.k : Int), .string T.d, .slice a T.kids.length cap], .slice none 0 0] W fun e w' => ∃ v, e = .returned (.tuple #[v, .bool true]) ∧ w'.ownsRow w.heap.size 9 1 v q.length (q.map Value.string) ∧ Below w.heap.size w w') := Calls.mono HI.out (by
      rintro e w' ⟨⟨hq, _⟩ | ⟨q', v, hq, he, ho⟩, hb⟩
      · cases hq
      · cases hq; exact ⟨v, he, ho, hb⟩)
    have hR := HR3.out q HRoot.out hbt
    go_wp2_with (go_at_call 108; rw [← hW]; refine Calls.mono HI4.out ?_; rintro e w4 ⟨v, rfl, ho4, hb4⟩)
    refine bodyPost_ret (results_tmp2 rfl _ _ _) rfl ?_
    exact ⟨HE.out v _ hR.1 (by rw [hR.2]; exact ho4), hb4⟩

set_option maxRecDepth 100000 in
set_option maxHeartbeats 2000000 in
theorem rright_any (T : Ft.FT) (a : Option Addr) (cap : Nat) (w : World) (hN : Ft.Fd w (· < w.heap.size) T a cap) (hz : Ft.szT T = true) :
    Calls Tryz.prog 41 #[Ft.fdV T a cap] w fun e w' => e = .returned (.bool (Ft.rightT T)) ∧ Below w.heap.size w w' := by
  have hB0 : Below w.heap.size w (w.alloc (.cells (Ft.fdA T a cap) 25)) := (Below.refl w.heap.size w).alloc (Nat.le_refl _) _
  have hs0 : (w.alloc (.cells (Ft.fdA T a cap) 25)).heap.size = w.heap.size + 1 := by simp
  have HI : Hid (Calls Tryz.prog 75 #[Ft.fdV T a cap] (w.alloc (.cells (Ft.fdA T a cap) 25)) fun e w' => (∃ v, e = .returned (.tuple #[.int .i64 (if Ft.rightT T then 0 else 30), v])) ∧ Below w.heap.size w w') := by
    refine Calls.mono (rcheck_any T a cap _ ((hN.under hB0).mono (fun b (h : b < _) => by omega)) hz) ?_
    rintro e w' ⟨⟨v, he, _⟩, hb⟩
    exact ⟨⟨v, he⟩, hB0.trans (hb.mono (by omega))⟩
  generalize Ft.rightT T = r at *
  simp only [Ft.fdV, Ft.fdA] at HI ⊢
  clear hB0 hs0 hN hz
  go_enter Tryz.func41, Tryz.ntmps41
  cases r
  · go_wp2_with (go_at_call 75; refine Calls.mono HI.out ?_; rintro e w4 ⟨⟨v, rfl⟩, hb4⟩)
    go_ret
    exact ⟨rfl, hb4⟩
  · go_wp2_with (go_at_call 75; refine Calls.mono HI.out ?_; rintro e w4 ⟨⟨v, rfl⟩, hb4⟩)
    go_ret
    exact ⟨rfl, hb4⟩
end Go.Proofs.YtfbhofomcenabaaGreatDoor
namespace Go.Proofs.YtfbhofomcenabaaGreatDoor
open Go.RowKit

namespace Ft
/-- Is a file right where it stands, behind a name, so many names below the root? -/
def trB (b : Option ByteArray) (T : FT) (n : Nat) : Bool := if n = 0 then rootB T else !badB b T (n - 1)
/-- The file ahead: none, or one that lies somewhere. -/
def Ahd (w : World) (v : Value) (b : Option ByteArray) : Prop := (v = .pointer none ∧ b = none) ∨ ∃ g o x, v = .pointer (some ⟨g, o, none⟩) ∧ b = some x ∧ g < w.heap.size ∧ w.cell? ⟨g, o, none⟩ = some (.string x)
theorem tr_root (b : Option ByteArray) (T : FT) : trB b T 0 = rootB T := rfl
theorem tr_name {b : Option ByteArray} {T : FT} {n : Nat} (h : n ≠ 0) (hn : Pl.nameB T.nm = false) : trB b T n = false := by
  unfold trB badB; rw [if_neg h, hn]; rfl
theorem tr_deep {b : Option ByteArray} {T : FT} {n : Nat} (h : 64 < n) : trB b T n = false := by
  unfold trB badB; rw [if_neg (by omega), decide_eq_true (show 64 < n - 1 + 1 by omega)]; simp
theorem tr_late {x : ByteArray} {T : FT} {n : Nat} (h : n ≠ 0) (hl : Op.bytesLess x.toList T.nm.toList = false) : trB (some x) T n = false := by
  unfold trB badB; rw [if_neg h]; simp [hl]
theorem tr_alone {b : Option ByteArray} {T : FT} {n : Nat} (h : n ≠ 0) (hn : Pl.nameB T.nm = true) (hd : ¬ 64 < n) (hb : ∀ x, b = some x → Op.bytesLess x.toList T.nm.toList = true) : trB b T n = aloneT T := by
  unfold trB badB
  rw [if_neg h, hn, decide_eq_false (show ¬ 64 < n - 1 + 1 by omega)]
  cases b with
  | none => simp
  | some x => simp [hb x rfl]
end Ft

set_option maxRecDepth 100000 in
set_option maxHeartbeats 2000000 in
theorem tright_any (p : List ByteArray) (T : Ft.FT) (ap : Option Addr) (cp : Nat) (pv : Value) (bn : Option ByteArray) (b o : Nat) (a : Option Addr) (cap : Nat) (w : World) (hv : Ft.Ahd w pv bn) (hb : b < w.heap.size) (h4 : Ft.Four w b o T a cap) (hpl : p.length ≤ 1048576) (_hTl : T.kids.length ≤ 1048576) (hz : p.length ≠ 0 → T.nm.size ≤ 1048576) :
    Calls Tryz.prog 70 #[.agg #[.slice ap p.length cp, pv], .pointer (some ⟨b, o, none⟩)] w fun e w' => e = .returned (.bool (Ft.trB bn T p.length)) ∧ Below w.heap.size w w' := by
  obtain ⟨r0, r1, r2, r3⟩ := h4
  obtain ⟨W, hW⟩ : ∃ W, W = w.alloc (.cells #[.slice ap p.length cp, pv] 119) := ⟨_, rfl⟩
  have hB : Below w.heap.size w W := by rw [hW]; exact (Below.refl _ _).alloc (Nat.le_refl _) _
  have x0 : W.cell? ⟨w.heap.size, 0, none⟩ = some (.slice ap p.length cp) := by rw [hW]; simp only [World.cell?, heap_alloc_new]; rfl
  have x1 : W.cell? ⟨w.heap.size, 1, none⟩ = some pv := by rw [hW]; simp only [World.cell?, heap_alloc_new]; rfl
  have y0 : W.cell? ⟨b, o, none⟩ = some (.string T.nm) := (hB.cell (p := ⟨b, o, none⟩) hb).trans r0
  have y1 : W.cell? ⟨b, o + 1, none⟩ = some (.int .u8 (T.k : Int)) := (hB.cell (p := ⟨b, o + 1, none⟩) hb).trans r1
  have y2 : W.cell? ⟨b, o + 2, none⟩ = some (.string T.d) := (hB.cell (p := ⟨b, o + 2, none⟩) hb).trans r2
  have y3 : W.cell? ⟨b, o + 3, none⟩ = some (.slice a T.kids.length cap) := (hB.cell (p := ⟨b, o + 3, none⟩) hb).trans r3
  have HV : Hid (pv = .pointer none ∧ bn = none ∨ ∃ g ob x, pv = .pointer (some ⟨g, ob, none⟩) ∧ bn = some x ∧ W.cell? ⟨g, ob, none⟩ = some (.string x)) := by
    rcases hv with h | ⟨g, ob, x, h1, h2, h3, h5⟩
    · exact .inl h
    · exact .inr ⟨g, ob, x, h1, h2, (hB.cell (p := ⟨g, ob, none⟩) h3).trans h5⟩
  have HW : Hid (W = w.alloc (.cells #[.slice ap p.length cp, pv] 119)) := hW
  have HB : Hid (∀ n, Below w.heap.size w (W.drewN n)) := fun n => ⟨hB.os, hB.tape, hB.output, hB.size, hB.block⟩
  clear hW hB hv r0 r1 r2 r3
  go_enter Tryz.func70, Tryz.ntmps70
  go_upto_region 1 with fail
  rw [← HW.out]
  clear HW
  by_cases hp : p.length = 0
  · have HP : Hid (Ft.trB bn T p.length = Ft.rootB T) := by show _ = _; rw [hp]; exact Ft.tr_root bn T
    have e0 : ((p.length : Int) == 0) = true := by rw [hp]; rfl
    have HRt : Hid (Ft.rootB T = ((T.k == 1) && (T.nm.toList.isEmpty && T.d.toList.isEmpty))) := rfl
    clear hp
    cases q1 : ((T.k : Int) == 1)
    · have HE : Hid (Ft.trB bn T p.length = false) := by
        show _ = _
        rw [HP.out, HRt.out, show (T.k == 1) = false by rw [beq_eq_false_iff_ne]; intro e; rw [e] at q1; simp at q1]
        rfl
      go_wp2_with fail
      go_ret
      exact ⟨by rw [HE.out]; rfl, HB.out 0⟩
    · have HK : Hid (Ft.trB bn T p.length = (T.nm.toList.isEmpty && T.d.toList.isEmpty)) := by
        show _ = _
        rw [HP.out, HRt.out, show (T.k == 1) = true by rw [beq_iff_eq]; simp at q1; omega]
        rfl
      by_cases q2 : T.nm.toList = []
      · by_cases q3 : T.d.toList = []
        · have HE : Hid (Ft.trB bn T p.length = true) := by show _ = _; rw [HK.out, q2, q3]; rfl
          go_wp2_with fail
          go_ret
          exact ⟨by rw [HE.out]; first | rfl | simp [q2, q3], HB.out 0⟩
        · have HE : Hid (Ft.trB bn T p.length = false) := by
            show _ = _
            rw [HK.out, q2, show T.d.toList.isEmpty = false by simpa using q3]; rfl
          have q3' : (T.d.toList == []) = false := by simpa using q3
          go_wp2_with fail
          go_ret
          exact ⟨by rw [HE.out]; first | rfl | simp [q2, q3], HB.out 0⟩
      · have HE : Hid (Ft.trB bn T p.length = false) := by
          show _ = _
          rw [HK.out, show T.nm.toList.isEmpty = false by simpa using q2]; rfl
        have q2' : (T.nm.toList == []) = false := by simpa using q2
        go_wp2_with fail
        go_ret
        exact ⟨by rw [HE.out]; first | rfl | simp [q2], HB.out 0⟩
  · have e0 : ((p.length : Int) == 0) = false := by rw [beq_eq_false_iff_ne]; omega
    have HNm : Hid (∀ V, Calls Tryz.prog 104 #[.string T.nm] V fun e w' => e = .returned (.bool (Pl.nameB T.nm)) ∧ V = w') := fun V => name_any T.nm V (by unfold maxLen; omega)
    have HPn : Hid (¬ p.length = 0) := hp
    clear hp
    cases hn : Pl.nameB T.nm
    · have HE : Hid (Ft.trB bn T p.length = false) := Ft.tr_name HPn.out hn
      go_wp2_with (go_at_call 104; refine Calls.mono (HNm.out _) ?_; rw [hn]; rintro e w1 ⟨rfl, rfl⟩)
      go_ret
      exact ⟨by rw [HE.out]; rfl, HB.out 0⟩
    · by_cases h64 : 64 < p.length
      · have HE : Hid (Ft.trB bn T p.length = false) := Ft.tr_deep h64
        have d1 : (64 : Int) < (p.length : Int) := by omega
        have d1' : decide ((64 : Int) < (p.length : Int)) = true := decide_eq_true d1
        go_wp2_with (go_at_call 104; refine Calls.mono (HNm.out _) ?_; rw [hn]; rintro e w1 ⟨rfl, rfl⟩)
        go_ret
        exact ⟨by rw [HE.out]; rfl, HB.out 0⟩
      · have d1 : ¬ (64 : Int) < (p.length : Int) := by omega
        have d1' : decide ((64 : Int) < (p.length : Int)) = false := decide_eq_false d1
        rcases HV.out with ⟨rfl, rfl⟩ | ⟨g, ob, x, rfl, rfl, yx⟩
        · have HAl : Hid (Ft.trB none T p.length = Ft.aloneT T) := Ft.tr_alone HPn.out hn h64 (fun x e => by cases e)
          clear h64 HV
          go_wp2_with (go_at_call 104; refine Calls.mono (HNm.out _) ?_; rw [hn]; rintro e w1 ⟨rfl, rfl⟩)
          go_quiet (fail)
          cases q1 : ((T.k : Int) == 1)
          · cases q2 : ((T.k : Int) == 2)
            · cases q3 : ((T.k : Int) == 3)
              · have HE : Hid (Ft.trB none T p.length = false) := by show _ = _; rw [HAl.out]; exact Ft.alone_none (by simp at q1; omega) (by simp at q2; omega) (by simp at q3; omega)
                go_wp2_with fail
                go_ret
                exact ⟨by rw [HE.out]; rfl, HB.out _⟩
              · have HE : Hid (Ft.trB none T p.length = (T.kids.isEmpty && Ft.tgtB T.d)) := by show _ = _; rw [HAl.out]; exact Ft.alone_link (by simp at q3; omega)
                cases q4 : ((T.kids.length : Int) == 0)
                · have HE2 : Hid (Ft.trB none T p.length = false) := by
                    show _ = _
                    rw [HE.out]
                    cases hk : T.kids with
                    | nil => rw [hk] at q4; simp at q4
                    | cons y r => rfl
                  go_wp2_with fail
                  go_ret
                  exact ⟨by rw [HE2.out]; rfl, HB.out _⟩
                · have HE2 : Hid (Ft.trB none T p.length = Ft.tgtB T.d) := by
                    show _ = _
                    rw [HE.out, List.eq_nil_of_length_eq_zero (show T.kids.length = 0 by simp at q4; simpa using q4)]
                    rfl
                  go_wp2_with (go_at_call 86; refine (maylead_any T.d _).mono ?_; rintro e w1 ⟨rfl, rfl⟩)
                  go_ret
                  exact ⟨by rw [HE2.out]; rfl, HB.out _⟩
            · have HE : Hid (Ft.trB none T p.length = T.kids.isEmpty) := by show _ = _; rw [HAl.out]; exact Ft.alone_text (by simp at q2; omega)
              have HE2 : Hid (Ft.trB none T p.length = ((T.kids.length : Int) == 0)) := by
                show _ = _
                rw [HE.out]
                cases hk : T.kids with
                | nil => rfl
                | cons y r => simp; omega
              go_wp2_with fail
              go_ret
              exact ⟨by rw [HE2.out]; rfl, HB.out _⟩
          · have HE : Hid (Ft.trB none T p.length = T.d.data.toList.isEmpty) := by show _ = _; rw [HAl.out]; exact Ft.alone_dir (by simp at q1; omega)
            cases q5 : (T.d.toList == [])
            · have HE2 : Hid (Ft.trB none T p.length = false) := by
                show _ = _
                rw [HE.out, ← Pl.toL]
                cases hk : T.d.toList with
                | nil => rw [hk] at q5; simp at q5
                | cons y r => rfl
              have q6 : ¬ T.d.toList = [] := by simpa using q5
              go_wp2_with fail
              go_ret
              exact ⟨by rw [HE2.out]; first | rfl | simp [q6], HB.out _⟩
            · have q6 : T.d.toList = [] := by simpa using q5
              have HE2 : Hid (Ft.trB none T p.length = true) := by
                show _ = _
                rw [HE.out, ← Pl.toL, q6]
                rfl
              go_wp2_with fail
              go_ret
              exact ⟨by rw [HE2.out]; first | rfl | simp [q6], HB.out _⟩
        · cases hl : Op.bytesLess x.toList T.nm.toList
          · have HE : Hid (Ft.trB (some x) T p.length = false) := Ft.tr_late HPn.out hl
            clear h64 HV
            go_wp2_with (go_at_call 104; refine Calls.mono (HNm.out _) ?_; rw [hn]; rintro e w1 ⟨rfl, rfl⟩)
            go_quiet (fail)
            go_wp2_with fail
            go_ret
            exact ⟨by rw [HE.out]; rfl, HB.out _⟩
          · have HAl : Hid (Ft.trB (some x) T p.length = Ft.aloneT T) := Ft.tr_alone HPn.out hn h64 (fun y e => by cases e; exact hl)
            clear h64 HV
            go_wp2_with (go_at_call 104; refine Calls.mono (HNm.out _) ?_; rw [hn]; rintro e w1 ⟨rfl, rfl⟩)
            go_quiet (fail)
            cases q1 : ((T.k : Int) == 1)
            · cases q2 : ((T.k : Int) == 2)
              · cases q3 : ((T.k : Int) == 3)
                · have HE : Hid (Ft.trB (some x) T p.length = false) := by show _ = _; rw [HAl.out]; exact Ft.alone_none (by simp at q1; omega) (by simp at q2; omega) (by simp at q3; omega)
                  go_wp2_with fail
                  go_ret
                  exact ⟨by rw [HE.out]; rfl, HB.out _⟩
                · have HE : Hid (Ft.trB (some x) T p.length = (T.kids.isEmpty && Ft.tgtB T.d)) := by show _ = _; rw [HAl.out]; exact Ft.alone_link (by simp at q3; omega)
                  cases q4 : ((T.kids.length : Int) == 0)
                  · have HE2 : Hid (Ft.trB (some x) T p.length = false) := by
                      show _ = _
                      rw [HE.out]
                      cases hk : T.kids with
                      | nil => rw [hk] at q4; simp at q4
                      | cons y r => rfl
                    go_wp2_with fail
                    go_ret
                    exact ⟨by rw [HE2.out]; rfl, HB.out _⟩
                  · have HE2 : Hid (Ft.trB (some x) T p.length = Ft.tgtB T.d) := by
                      show _ = _
                      rw [HE.out, List.eq_nil_of_length_eq_zero (show T.kids.length = 0 by simp at q4; simpa using q4)]
                      rfl
                    go_wp2_with (go_at_call 86; refine (maylead_any T.d _).mono ?_; rintro e w1 ⟨rfl, rfl⟩)
                    go_ret
                    exact ⟨by rw [HE2.out]; rfl, HB.out _⟩
              · have HE : Hid (Ft.trB (some x) T p.length = T.kids.isEmpty) := by show _ = _; rw [HAl.out]; exact Ft.alone_text (by simp at q2; omega)
                have HE2 : Hid (Ft.trB (some x) T p.length = ((T.kids.length : Int) == 0)) := by
                  show _ = _
                  rw [HE.out]
                  cases hk : T.kids with
                  | nil => rfl
                  | cons y r => simp; omega
                go_wp2_with fail
                go_ret
                exact ⟨by rw [HE2.out]; rfl, HB.out _⟩
            · have HE : Hid (Ft.trB (some x) T p.length = T.d.data.toList.isEmpty) := by show _ = _; rw [HAl.out]; exact Ft.alone_dir (by simp at q1; omega)
              cases q5 : (T.d.toList == [])
              · have HE2 : Hid (Ft.trB (some x) T p.length = false) := by
                  show _ = _
                  rw [HE.out, ← Pl.toL]
                  cases hk : T.d.toList with
                  | nil => rw [hk] at q5; simp at q5
                  | cons y r => rfl
                have q6 : ¬ T.d.toList = [] := by simpa using q5
                go_wp2_with fail
                go_ret
                exact ⟨by rw [HE2.out]; first | rfl | simp [q6], HB.out _⟩
              · have q6 : T.d.toList = [] := by simpa using q5
                have HE2 : Hid (Ft.trB (some x) T p.length = true) := by
                  show _ = _
                  rw [HE.out, ← Pl.toL, q6]
                  rfl
                go_wp2_with fail
                go_ret
                exact ⟨by rw [HE2.out]; first | rfl | simp [q6], HB.out _⟩
end Go.Proofs.YtfbhofomcenabaaGreatDoor
