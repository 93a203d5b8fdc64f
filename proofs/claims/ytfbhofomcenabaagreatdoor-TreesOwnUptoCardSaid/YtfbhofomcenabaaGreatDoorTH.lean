/- What trees.Copy answers. What the reference's listed answers: all files below one, each behind its folder. What the reference's List answers: all files of a right tree. What trees.Get answers, once trees.Check answers what the reference's does: the same as the reference's Get. What trees.fresh answers: a path of the call's own. -/
import Derived.Test.YtfbhofomcenabaaGreatDoorTE
import Derived.Test.YtfbhofomcenabaaGreatDoorTF
import Derived.Laws.AppendOwnNone
import Derived.Lib.SmallJoins
import Derived.Deep.DeepCutAuto
import Derived.Test.YtfbhofomcenabaaGreatDoorTC
import Derived.Test.YtfbhofomcenabaaGreatDoorTG
import Derived.Test.YtfbhofomcenabaaGreatDoorFAl
namespace Go.Proofs.YtfbhofomcenabaaGreatDoor
open Go.RowKit

set_option maxRecDepth 100000 in
set_option maxHeartbeats 2000000 in
theorem tcopy_any (T : Ft.FT) :
    ∀ (a : Option Addr) (cap : Nat) (w : World), Ft.Fd w (· < w.heap.size) T a cap →
    Calls Tryz.prog 19 #[Ft.fdV T a cap] w fun e w' => ∃ a' cap', e = .returned (Ft.fdV T a' cap') ∧ Ft.Fd w' (fun b => w.heap.size ≤ b ∧ b < w'.heap.size) T a' cap' ∧ Below w.heap.size w w' := by
  induction T using Ft.FT.ind with
  | h T ih =>
  intro a cap w hN
  have IH : Hid _ := ih
  clear ih
  have hlm := hN.room.1
  obtain ⟨i0, hi0, hz0, hz1, hz2⟩ := info_parts Tryz.infoFile
  have N0 := (Ft.file_new w T a cap).alloc (.cells #[.string ⟨#[]⟩, .int .u8 0, .string ⟨#[]⟩, .slice none 0 0] 25)
  have Z0 := Ft.file_zero (w.alloc (.cells (Ft.fdA T a cap) 25))
  have hB0 : Below w.heap.size w ((w.alloc (.cells (Ft.fdA T a cap) 25)).alloc (.cells #[.string ⟨#[]⟩, .int .u8 0, .string ⟨#[]⟩, .slice none 0 0] 25)) := ((Below.refl w.heap.size w).alloc (Nat.le_refl _) _).alloc (by simp) _
  have hs0 : ((w.alloc (.cells (Ft.fdA T a cap) 25)).alloc (.cells #[.string ⟨#[]⟩, .int .u8 0, .string ⟨#[]⟩, .slice none 0 0] 25)).heap.size = w.heap.size + 2 := by simp
  have hz : (w.alloc (.cells (Ft.fdA T a cap) 25)).heap.size = w.heap.size + 1 := by simp
  rw [hz] at Z0
  clear hz
  simp only [Ft.fdV, Ft.fdA] at N0 Z0 hB0 hs0 ⊢
  obtain ⟨W, hW⟩ : ∃ W, W = (w.alloc (.cells #[.string T.nm, .int .u8 (T.k : Int), .string T.d, .slice a T.kids.length cap] 25)).alloc (.cells #[.string ⟨#[]⟩, .int .u8 0, .string ⟨#[]⟩, .slice none 0 0] 25) := ⟨_, rfl⟩
  rw [← hW] at N0 Z0 hB0 hs0
  have hN1 : Ft.Fd W (· < w.heap.size) T a cap := hN.under hB0
  go_enter Tryz.func19, Tryz.ntmps19
  have n9 := N0.four
  obtain ⟨q0, q1, q2, q3⟩ := n9
  go_wp2_with fail
  rw [← hW]
  clear hW
  go_loopw [3, 9] (fun v iv wr => ∃ i : Nat, i ≤ T.kids.length ∧ iv = .int .i64 (i : Int) ∧ Ft.FRow wr (w.heap.size + 2) v (T.kids.take i) ∧ Ft.FileAt wr w.heap.size T a cap ∧ Ft.FileAt wr (w.heap.size + 1) Ft.zF none 0 ∧ Ft.Fd wr (· < w.heap.size) T a cap ∧ Below w.heap.size w wr ∧ w.heap.size + 2 ≤ wr.heap.size) (fun _ iv _ => T.kids.length - (intOf iv).toNat)
  case atStart => exact ⟨0, by omega, rfl, Ft.FRow.empty _ _, N0, Z0, hN1, hB0, by omega⟩
  case round =>
    clear N0 hN1 hB0 Z0 q0 q1 q2 q3 hs0
    obtain ⟨i, hi, rfl, NR, NA, ZA, ND, hB, hsz⟩ := hrel
    by_cases hlt : i < T.kids.length
    · obtain ⟨b, off, a', cap', rfl, hbB, h9, hk⟩ := ND.kid hlt
      have HK : Hid _ := hk
      have HT : Hid _ := List.take_succ_eq_append_getElem (l := T.kids) (i := i) hlt
      obtain ⟨r0, r1, r2, r3⟩ := h9
      have K1 := Ft.file_new wr (T.kids[i]) a' cap'
      have hA : Below wr.heap.size wr (wr.alloc (.cells (Ft.fdA (T.kids[i]) a' cap') 25)) := (Below.refl _ _).alloc (Nat.le_refl _) _
      have HIH : Hid _ := IH.out i hlt a' cap'
      simp only [Ft.fdV, Ft.fdA] at K1 hA HIH
      obtain ⟨k0, k1, k2, k3⟩ := K1.four
      go_wp2_with fail
      have hszA : (wr.alloc (.cells #[.string (T.kids[i]).nm, .int .u8 ((T.kids[i]).k : Int), .string (T.kids[i]).d, .slice a' (T.kids[i]).kids.length cap'] 25)).heap.size = wr.heap.size + 1 := by simp
      refine (HIH.out _ (HK.out.same (fun b (h : b < _) => hA.block b (by omega)) (fun b (h : b < _) => by omega))).mono ?_
      rintro x w2 ⟨a2, cap2, rfl, hn2, hb2⟩
      have hB2 : Below wr.heap.size wr w2 := hA.trans (hb2.mono hA.size)
      have hs2 := hb2.size
      rw [hszA] at hn2 hs2
      have hro : ∀ k, u3.ownBlock = some k → k < wr.heap.size := by
        obtain ⟨L, _, ox, _⟩ := NR
        exact fun k hk => (ox.lt k hk).2
      have NR2 := NR.below hB2
      have NA2 := Ft.FileAt.below NA hB2 (by omega)
      have ZA2 := Ft.FileAt.below ZA hB2 (by omega)
      have ND2 : Ft.Fd w2 (· < w.heap.size) T _ cap := ND.same (fun b (h : b < _) => hB2.block b (by omega)) (fun _ h => h)
      have hBw : Below w.heap.size w w2 := hB.trans (hB2.mono hB.size)
      clear NR NA ZA ND hB hA hb2 HIH HK k0 k1 k2 k3 K1 r0 r1 r2 r3 IH hszA
      obtain ⟨L, hL, ox, ex⟩ := NR2
      have hLn : L.length = i := by
        have := congrArg List.length hL
        simp at this
        omega
      have hx2 : Ft.Fd w2 (fun b => w.heap.size + 2 ≤ b ∧ b < w2.heap.size ∧ some b ≠ u3.ownBlock) (T.kids[i]) a2 cap2 := hn2.mono (fun b hb => ⟨by omega, hb.2, fun e => by have := hro b e.symm; omega⟩)
      clear hn2
      go_wp2_with (at_builtin; refine Ft.wpList_append_far _ rfl _ _ 23 rfl (w.heap.size + 2) 25 i0 (.agg #[.string ⟨#[]⟩, .int .u8 0, .string ⟨#[]⟩, .slice none 0 0]) 4 64 Tryz.underlying23 hi0 hz0 hz1 hz2 rfl (by decide) _ _ _ rfl (ox.alloc _) ⟨w2.heap.size, 0, none⟩ 1 1 (Ft.fourL (T.kids[i], a2, cap2)) rfl rfl ?c1 ?c2 ?c3 ?c4 ?c5 ?_)
      case c1 => exact Ft.four_new w2 (T.kids[i]) a2 cap2
      case c2 => exact Ft.four_one _
      case c3 => unfold maxLen; omega
      case c4 => omega
      case c5 => simp; omega
      intro v3 w3 hown3 hgr3 _ hat3
      have hB3 : Below (w.heap.size + 2) w2 w3 := ((Below.refl _ _).alloc (by omega) _).grown hgr3 (by simp; omega) (fun g hg => (ox.lt g hg).1)
      rw [show i + 1 = L.length + 1 by omega] at hown3
      have NR3 := Ft.frow_snoc ex hx2 hown3 hgr3 hat3 (by simp)
      have NA3 := Ft.FileAt.below NA2 hB3 (by omega)
      have ZA3 := Ft.FileAt.below ZA2 hB3 (by omega)
      have ND3 : Ft.Fd w3 (· < w.heap.size) T _ cap := ND2.same (fun b (h : b < _) => hB3.block b (by omega)) (fun _ h => h)
      have hBw3 : Below w.heap.size w w3 := hBw.trans (hB3.mono (by omega))
      have hs3 := hB3.size
      clear hgr3 hown3 hat3 NA2 ZA2 ND2 hBw hB3 ex ox hx2
      go_wp2_with fail
      refine ⟨⟨i + 1, by omega, by simp, ?_, NA3, ZA3, ND3, hBw3, by omega⟩, by simp only [intOf]; omega⟩
      rw [HT.out, ← hL]
      exact NR3
    · obtain rfl : i = T.kids.length := by omega
      obtain ⟨q0, q1, q2, q3⟩ := NA.four
      obtain ⟨K, hK⟩ : ∃ K, K = T.kids := ⟨_, rfl⟩
      have hkl : Hid (K.length = T.kids.length) := by show _ = _; rw [hK]
      have NR' : Ft.FRow wr (w.heap.size + 2) u3 K := by rw [hK]; rwa [List.take_of_length_le (by simp)] at NR
      have HQ' : Hid (T = .mk T.nm T.k T.d K) := by show _ = _; rw [hK]; exact Ft.FT.eta T
      obtain ⟨a3, cap3, hv3, hn3⟩ := Ft.FRow.nd (T := .mk T.nm T.k T.d K) NR' (by have := hkl.out; show K.length ≤ _; omega)
      have hv3 : u3 = .slice a3 K.length cap3 := hv3
      subst hv3
      clear hK
      have f3 := NA.frozen 3
      have HNA : Hid _ := NA
      have HZA : Hid _ := ZA
      have HN3 : Hid _ := hn3
      obtain ⟨c0, c1, c2, c3⟩ := (NA.putK K a3 cap3).four
      obtain ⟨z0, z1, z2, z3⟩ := ZA.four
      have g0 := ZA.frozen 0
      have g1 := ZA.frozen 1
      have g2 := ZA.frozen 2
      have g3 := ZA.frozen 3
      clear NR NR' hn3
      go_wp2_with fail
      refine bodyPost_ret (results_cell_row rfl _ _ (w.heap.size + 1) _ _ _ _ rfl (Ft.FileAt.putF (Ft.FileAt.setCell HZA.out _ (show w.heap.size + 1 ≠ w.heap.size by omega)) (.mk T.nm T.k T.d K) a3 cap3) Tryz.underlying25 rfl (by kernel_rfl)) rfl ?_
      rw [HQ'.out]
      have hB5 : Below w.heap.size w (Ft.putF (wr.setCell ⟨w.heap.size, 3, none⟩ (.slice a3 K.length cap3)) (w.heap.size + 1) (.mk T.nm T.k T.d K) a3 cap3) := Ft.putF_below (hB.setCell (p := ⟨w.heap.size, 3, none⟩) (Nat.le_refl _) _) (by omega)
      have hz5 : wr.heap.size ≤ (Ft.putF (wr.setCell ⟨w.heap.size, 3, none⟩ (.slice a3 K.length cap3)) (w.heap.size + 1) (.mk T.nm T.k T.d K) a3 cap3).heap.size := (Ft.putF_below (((Below.refl 0 wr).setCell (p := ⟨w.heap.size, 3, none⟩) (Nat.zero_le _) _)) (Nat.zero_le _)).size
      refine ⟨a3, cap3, rfl, HN3.out.same (fun b hb => ?_) (fun b hb => ⟨by omega, Nat.lt_of_lt_of_le hb.2 hz5⟩), hB5⟩
      refine (Ft.putF_other (w := wr.setCell ⟨w.heap.size, 3, none⟩ (.slice a3 K.length cap3)) (g := w.heap.size + 1) (T := .mk T.nm T.k T.d K) (a := a3) (cap := cap3) (by omega)).trans (heap_setCell_other _ ⟨w.heap.size, 3, none⟩ b _ (show b ≠ w.heap.size by omega))
end Go.Proofs.YtfbhofomcenabaaGreatDoor
namespace Go.Proofs.YtfbhofomcenabaaGreatDoor
open Go.RowKit

namespace Ft
theorem kp_new (w : World) (y : Kp × Option Addr × Nat) : ∀ j u, (kpL y)[j]? = some u → (w.alloc (.cells #[.slice y.2.1 y.1.1.length y.2.2, .int .u8 (y.1.2.1 : Int), .int .i64 (y.1.2.2 : Int)] 47)).cell? ((⟨w.heap.size, 0, none⟩ : Addr).add j) = some u := by
  intro j u hu
  rw [add_at]
  simp only [World.cell?, heap_alloc_new]
  rcases (show j = 0 ∨ j = 1 ∨ j = 2 ∨ 3 ≤ j by omega) with rfl | rfl | rfl | hj
  · simpa [kpL] using hu
  · simpa [kpL] using hu
  · simpa [kpL] using hu
  · rw [List.getElem?_eq_none (by simpa [kpL] using hj)] at hu; cases hu
end Ft

set_option maxRecDepth 100000 in
set_option maxHeartbeats 4000000 in
theorem listed_any (T : Ft.FT) : ∀ (p : List ByteArray) (a : Option Addr) (cap : Nat) (ap : Option Addr) (cp : Nat) (w : World), Ft.Fd w (· < w.heap.size) T a cap → Ft.szT T = true → Ft.belT T p = none → Strs w ap cp p → p.length ≤ 64 → (∀ s ∈ p, s.size ≤ 1048576) → (Ft.listT T p).length ≤ 1048576 →
    Calls Tryz.prog 59 #[Ft.fdV T a cap, .slice ap p.length cp] w fun e w' => ∃ v, e = .returned v ∧ Ft.KRow w' w.heap.size v (Ft.listT T p) ∧ Below w.heap.size w w' := by
  induction T using Ft.FT.ind with
  | h T ih =>
  intro p a cap ap cp w hN hz hbl hP hp64 hps hcn
  obtain ⟨i0, hi0, hz0, hz1, hz2⟩ := info_parts Tryz.infoKept
  have HI : Hid _ := ih
  have HLs : Hid (Ft.listT T p = Ft.listT.listL T.kids p) := Ft.listT_eq T p
  obtain ⟨W, hW⟩ : ∃ W, W = w.alloc (.cells (Ft.fdA T a cap) 25) := ⟨_, rfl⟩
  have hB : Below w.heap.size w W := by rw [hW]; exact (Below.refl _ _).alloc (Nat.le_refl _) _
  have hF : Ft.FileAt W w.heap.size T a cap := by rw [hW]; exact Ft.file_new w T a cap
  obtain ⟨_, _, _, q3⟩ := hF.four
  have HW : Hid (W = w.alloc (.cells (Ft.fdA T a cap) 25)) := hW
  have HA : Hid (Ft.Fd w (· < w.heap.size) T a cap ∧ Ft.szT T = true ∧ Ft.belT T p = none ∧ Strs w ap cp p ∧ (∀ s ∈ p, s.size ≤ 1048576)) := ⟨hN, hz, hbl, hP, hps⟩
  have HB : Hid (Below w.heap.size w W) := hB
  have hTl := hN.room.1
  rw [HLs.out] at hcn
  clear hW hB hF ih hN hz hbl hP hps
  simp only [Ft.fdA] at HW
  simp only [Ft.fdV, Ft.fdA]
  go_enter Tryz.func59, Tryz.ntmps59
  go_upto_region 1 with fail
  rw [← HW.out]
  clear HW
  go_wp2_with fail
  clear q3
  go_loopw [5, 7, 8, 12] (fun v5 _ _ iv wr => ∃ i : Nat, i ≤ T.kids.length ∧ iv = .int .i64 (i : Int) ∧ Hid (Ft.KRow wr w.heap.size v5 (Ft.listT.listL (T.kids.take i) p)) ∧ Hid (Below w.heap.size w wr)) (fun _ _ _ iv _ => T.kids.length - (intOf iv).toNat)
  case atStart => exact ⟨0, Nat.zero_le _, rfl, Ft.KRow.empty _ _, HB⟩
  case round =>
    obtain ⟨i, hi, rfl, HK, HBr⟩ := hrel
    have hsz := HBr.out.size
    by_cases hlt : i < T.kids.length
    · obtain ⟨b, off, a', c', rfl, hbB, h4, hk⟩ := (HA.out.1.under HBr.out).kid hlt
      obtain ⟨r0, r1, r2, r3⟩ := h4
      have i1 : (i : Int) < (T.kids.length : Int) := by omega
      obtain ⟨hd64, hbk⟩ := Ft.bel_kid HA.out.2.2.1 hlt
      obtain ⟨zn, zd, zk⟩ := Ft.sz_kid HA.out.2.1 hlt
      have HT : Hid _ := Ft.listL_take hlt p
      have hle := Ft.listL_len hlt p
      rw [HT.out] at hle
      simp only [List.length_append, List.length_cons, List.length_nil] at hle
      have HIk : Hid _ := HI.out i hlt
      have hkl := hk.room.1
      have HD : Hid _ := hk
      clear hk
      generalize T.kids[i] = V at *
      generalize Ft.listT.listL (T.kids.take i) p = li at *
      obtain ⟨q, hq⟩ : ∃ q, q = p ++ [V.nm] := ⟨_, rfl⟩
      have hql : q.length = p.length + 1 := by rw [hq]; simp
      have HQS : Hid (∀ s ∈ q, s.size ≤ 1048576) := by
        intro s hs
        rw [hq] at hs
        rcases List.mem_append.1 hs with h | h
        · exact HA.out.2.2.2.2 s h
        · rw [List.mem_singleton.1 h]; exact zn
      obtain ⟨W1, hW1⟩ : ∃ W1, W1 = wr.alloc (.cells (Ft.fdA V a' c') 25) := ⟨_, rfl⟩
      have hA1 : Below wr.heap.size wr W1 := by rw [hW1]; exact (Below.refl _ _).alloc (Nat.le_refl _) _
      have hV1 : Ft.FileAt W1 wr.heap.size V a' c' := by rw [hW1]; exact Ft.file_new wr V a' c'
      have hW1s : wr.heap.size < W1.heap.size := hV1.lt
      have CL := longer_any ap cp p V.nm W1 (((HA.out.2.2.2.1.below HBr.out).below hA1)) (by omega)
      rw [← hq, ← hql] at CL
      rw [← hq] at HT hbk hle
      have hq64 : q.length ≤ 64 := by omega
      clear hql
      have HW1 : Hid (W1 = wr.alloc (.cells (Ft.fdA V a' c') 25)) := hW1
      have H1 : Hid (Below wr.heap.size wr W1 ∧ Ft.FileAt W1 wr.heap.size V a' c' ∧ Ft.belT V q = none ∧ Ft.szT V = true) := ⟨hA1, hV1, hbk, zk⟩
      obtain ⟨k0, k1, k2, k3⟩ := hV1.four
      clear hq hW1 hA1 hV1 hbk zk
      simp only [Ft.fdA] at HW1
      go_upto_region 5 with fail
      rw [← HW1.out]
      clear HW1 r0 r1 r2 r3
      go_wp2_with fail
      refine CL.mono ?_
      rintro e w2 ⟨v, rfl, ho, hb2⟩
      obtain ⟨qa, qc, rfl, hst⟩ := own_strs ho (by omega) (fun s hs => by have := HQS.out s hs; omega)
      have hqa : ∀ ad, qa = some ad → W1.heap.size ≤ ad.block := fun ad e => by subst e; exact (ho.lt ad.block rfl).1
      have hs2 := hb2.size
      clear k0 k1 k2 k3
      have hV2 := H1.out.2.1.under hb2
      obtain ⟨k0, k1, k2, k3⟩ := hV2.four
      obtain ⟨L, hL1, hL2, hL3⟩ := HK.out
      have hB2 : Below wr.heap.size wr w2 := H1.out.1.trans (hb2.mono (by omega))
      have hLl : L.length = li.length := by rw [← hL1]; simp
      have HO : Hid _ := own_below hL2 hB2
      have hrow : ∀ m, (Value.ownBlock _) = some m → m < wr.heap.size := fun m e => (hL2.lt m e).2
      have HX : Hid (∀ o : Obj, (∀ y ∈ L, Strs (w2.alloc o) y.2.1 y.2.2 y.1.1 ∧ Ft.Ofs w.heap.size _ y.2.1 y.1.1) ∧ ∀ y ∈ [((q, V.k, V.d.size), qa, qc)], Strs (w2.alloc o) y.2.1 y.2.2 y.1.1 ∧ Ft.Ofs w.heap.size _ y.2.1 y.1.1) := fun o => by
        have bo : Below w2.heap.size w2 (w2.alloc o) := (Below.refl _ _).alloc (Nat.le_refl _) o
        refine ⟨fun y hy => ⟨((hL3 y hy).1.below hB2).below bo, (hL3 y hy).2⟩, fun y hy => ?_⟩
        rw [List.mem_singleton.1 hy]
        refine ⟨hst.below bo, fun _ ad e => ⟨by have := hqa ad e; omega, fun z => ?_⟩⟩
        have h1 := hqa ad e
        have h2 := hrow _ z.symm
        omega
      have H2z : Hid (Ft.belT V q = none ∧ Ft.szT V = true) := H1.out.2.2
      have H2 : Hid (Below w.heap.size w w2 ∧ Ft.FileAt w2 wr.heap.size V a' c' ∧ Strs w2 qa qc q ∧ Ft.Fd w2 (· < w.heap.size) V a' c') := ⟨HBr.out.trans (hB2.mono hsz), hV2, hst, HD.out.under (hB2.mono hsz)⟩
      have HLn : Hid (L.map (·.1) = li ∧ L.length = li.length) := ⟨hL1, hLl⟩
      have HRw : Hid (∀ m, u5.ownBlock = some m → m < wr.heap.size) := hrow
      have hLb : L.length + 1 ≤ 1048576 := by omega
      clear hL1 hL2 hL3 hLl hst hqa hV2 hB2 hb2 ho hrow HK HBr HD CL H1
      go_wp2_with (at_builtin; refine wpList_append_own_at _ rfl _ _ 43 rfl w.heap.size 47 i0 (.agg #[.slice none 0 0, .int .u8 0, .int .i64 0]) 3 40 Tryz.underlying43 hi0 hz0 hz1 hz2 rfl (by decide) u5 L.length (Ft.kcells L) rfl (World.ownsRow.alloc HO.out _) ⟨w2.heap.size, 0, none⟩ 1 1 (Ft.kpL ((q, V.k, V.d.size), qa, qc)) rfl rfl (Ft.kp_new w2 ((q, V.k, V.d.size), qa, qc)) ?c2 ?c3 ?c4 ?c5 ?_)
      case c2 => exact fun u hu => Ft.kcells_one [((q, V.k, V.d.size), qa, qc)] u (by simpa [Ft.kcells] using hu)
      case c3 => unfold maxLen; omega
      case c4 => omega
      case c5 => first | omega | (simp; omega)
      intro v6 w3 hown3 hgrow3 _ hat3
      have hx3 := HX.out (.cells #[.slice qa q.length qc, .int .u8 (V.k : Int), .int .i64 (V.d.size : Int)] 47)
      have hK3 : Ft.KRow w3 w.heap.size v6 (li ++ [(q, V.k, V.d.size)]) := by
        have := Ft.krow_app (M := [((q, V.k, V.d.size), qa, qc)]) (m := w2.heap.size + 1) hx3.1 hx3.2 (by simpa [Ft.kcells] using hown3) hgrow3 (by simpa using hat3) (by simp)
        rw [HLn.out.1] at this
        exact this
      have hs3 : w2.heap.size + 1 ≤ w3.heap.size := by have := hgrow3.size; simpa using this
      have hblk : ∀ k, k < w2.heap.size → u5.ownBlock ≠ some k → w3.heap[k]? = w2.heap[k]? := fun k hk hne => by
        rw [hgrow3.block k (by simp; omega) (fun e => hne e.symm), heap_alloc_old _ _ hk]
      have hB3 : Below w.heap.size w w3 := (H2.out.1.alloc H2.out.1.size _).grown hgrow3 (by have := H2.out.1.size; simp; omega) (fun g hg => (World.ownsRow.lt HO.out g hg).1)
      have hV3 : Ft.FileAt w3 wr.heap.size V a' c' := (hblk _ H2.out.2.1.lt (fun e => by have := HRw.out _ e; omega)).trans H2.out.2.1
      have hS3 : Strs w3 qa qc q := Ft.strs_grown (H2.out.2.2.1.below ((Below.refl _ _).alloc (Nat.le_refl _) _)) hgrow3 (fun hl ad e => ((hx3.2 _ (List.mem_singleton.2 rfl)).2 hl ad e).2)
      have hD3 : Ft.Fd w3 (· < w3.heap.size) V a' c' := (H2.out.2.2.2.same (Q := (· < w.heap.size)) (fun k (hk : k < w.heap.size) => (hblk k (by have := H2.out.1.size; omega) (fun e => by have := (World.ownsRow.lt HO.out k e).1; omega))) (fun _ h => h)).mono (fun x (hx : x < w.heap.size) => by omega)
      have C4 := HIk.out q a' c' qa qc w3 hD3 H2z.out.2 H2z.out.1 hS3 (by omega) HQS.out (by omega)
      obtain ⟨k0, k1, k2, k3⟩ := hV3.four
      have H3 : Hid (Below w.heap.size w w3 ∧ Ft.KRow w3 w.heap.size v6 (li ++ [(q, V.k, V.d.size)])) := ⟨hB3, hK3⟩
      clear hx3 hK3 hblk hB3 hV3 hS3 hD3 hown3 hgrow3 hat3 H2 HX HO HIk
      simp only [Ft.fdV, Ft.fdA] at C4
      go_wp2_with fail
      refine C4.mono ?_
      rintro e w4 ⟨v7, rfl, hK7, hb4⟩
      obtain ⟨L6, hL1, hL2, hL3⟩ := H3.out.2
      obtain ⟨M, hM1, hM2, hM3⟩ := hK7
      have hL6 : L6.length = li.length + 1 := by have := congrArg List.length hL1; simpa using this
      have hMl : M.length = (Ft.listT V q).length := by rw [← hM1]; simp
      have hs4 := hb4.size
      have hLM : L6.length + M.length ≤ 1048576 := by omega
      clear hL6 hMl
      have hB4 : Below w.heap.size w w4 := H3.out.1.trans (hb4.mono H3.out.1.size)
      have HO6 : Hid (w4.ownsRow w.heap.size 47 3 v6 L6.length (Ft.kcells L6)) := own_below hL2 hb4
      have HX6 : Hid ((∀ y ∈ L6, Strs w4 y.2.1 y.2.2 y.1.1 ∧ Ft.Ofs w.heap.size v6.ownBlock y.2.1 y.1.1) ∧ ∀ y ∈ M, Strs w4 y.2.1 y.2.2 y.1.1 ∧ Ft.Ofs w.heap.size v6.ownBlock y.2.1 y.1.1) := by
        refine ⟨fun y hy => ⟨(hL3 y hy).1.below hb4, (hL3 y hy).2⟩, fun y hy => ⟨(hM3 y hy).1, fun hl ad e => ?_⟩⟩
        have h1 := ((hM3 y hy).2 hl ad e).1
        have h2 := H3.out.1.size
        refine ⟨by omega, fun z => ?_⟩
        have := (hL2.lt _ z.symm).2
        omega
      have HF : Hid (L6.map (·.1) = li ++ [(q, V.k, V.d.size)] ∧ M.map (·.1) = Ft.listT V q ∧ Below w.heap.size w w4) := ⟨hL1, hM1, hB4⟩
      clear k0 k1 k2 k3 hL1 hL2 hL3 hM1 hM3 hB4 hb4 C4 H3
      rcases Go.Joins.ownsRow_forms hM2 with ⟨rfl, hM0⟩ | ⟨g7, c7, rfl⟩
      · have hMe : M = [] := List.eq_nil_of_length_eq_zero hM0
        subst hMe
        have HKf : Hid (Ft.KRow w4 w.heap.size v6 (Ft.listT.listL (T.kids.take (i + 1)) p)) := by
          refine ⟨L6, ?_, HO6.out, HX6.out.1⟩
          rw [HF.out.1, HT.out, ← HF.out.2.1]
          simp
        have HBf : Hid (Below w.heap.size w w4) := HF.out.2.2
        clear hM2 HX6 HF HT
        go_wp2_with (at_builtin; refine wpList_append_own_none rfl _ _ 43 rfl w.heap.size 47 i0 3 Tryz.underlying43 hi0 _ _ _ rfl HO6.out rfl ?_)
        go_wp2_with fail
        go_roundw
        case rel => exact ⟨i + 1, by omega, by go_num, HKf, HBf⟩
        case measure => simp [intOf]; omega
      · have hnw : ∀ j u, (Ft.kcells M)[j]? = some u → w4.cell? ((⟨g7, 0, none⟩ : Addr).add j) = some u := hM2.cells (g := g7) rfl
        have HNW : Hid _ := hnw
        clear hM2 hnw
        go_wp2_with (at_builtin; refine wpList_append_own_at _ rfl _ _ 43 rfl w.heap.size 47 i0 (.agg #[.slice none 0 0, .int .u8 0, .int .i64 0]) 3 40 Tryz.underlying43 hi0 hz0 hz1 hz2 rfl (by decide) v6 L6.length (Ft.kcells L6) rfl HO6.out ⟨g7, 0, none⟩ M.length c7 (Ft.kcells M) rfl (Ft.kcells_len M) HNW.out ?d2 ?d3 ?d4 ?d5 ?_)
        case d2 => exact Ft.kcells_one M
        case d3 => unfold maxLen; omega
        case d4 => omega
        case d5 => have := HF.out.2.2.size; omega
        intro v8 w5 hown5 hgrow5 _ hat5
        have HKf : Hid (Ft.KRow w5 w.heap.size v8 (Ft.listT.listL (T.kids.take (i + 1)) p)) := by
          have := Ft.krow_app HX6.out.1 HX6.out.2 hown5 hgrow5 hat5 (Nat.le_refl _)
          rw [HF.out.1, HF.out.2.1] at this
          show Ft.KRow _ _ _ _
          rw [HT.out]
          exact this
        have HBf : Hid (Below w.heap.size w w5) := HF.out.2.2.grown hgrow5 HF.out.2.2.size (fun g hg => (World.ownsRow.lt HO6.out g hg).1)
        clear hown5 hgrow5 hat5 HX6 HF HT
        go_wp2_with fail
        go_roundw
        case rel => exact ⟨i + 1, by omega, by go_num, HKf, HBf⟩
        case measure => simp [intOf]; omega
    · have HE : Hid (Ft.listT.listL (T.kids.take i) p = Ft.listT T p) := by
        show _ = _
        rw [HLs.out, List.take_of_length_le (by omega)]
      have i1 : ¬ (i : Int) < (T.kids.length : Int) := by omega
      go_wp2_with fail
      go_ret
      exact ⟨_, rfl, by rw [← HE.out]; exact HK.out, HBr.out⟩
end Go.Proofs.YtfbhofomcenabaaGreatDoor
namespace Go.Proofs.YtfbhofomcenabaaGreatDoor
open Go.RowKit

namespace Ft
theorem right_bel {T : FT} (h : rightT T = true) : belT T [] = none := by
  unfold rightT at h
  simp only [Bool.and_eq_true, Option.isNone_iff_eq_none] at h
  exact h.2
/-- What List answers. -/
def lstR (T : FT) : List Kp := if rightT T = true then listT T [] else []
/-- Its error. -/
def lstC (T : FT) : Int := if rightT T = true then 0 else 30
end Ft

set_option maxRecDepth 100000 in
set_option maxHeartbeats 4000000 in
theorem rlist_any (T : Ft.FT) (a : Option Addr) (cap : Nat) (w : World) (hN : Ft.Fd w (· < w.heap.size) T a cap) (hz : Ft.szT T = true) (hc : (Ft.listT T []).length ≤ 1048576) :
    Calls Tryz.prog 21 #[Ft.fdV T a cap] w fun e w' => ∃ v, e = .returned (.tuple #[v, .int .i64 (Ft.lstC T)]) ∧ Ft.KRow w' w.heap.size v (Ft.lstR T) ∧ Below w.heap.size w w' := by
  obtain ⟨W, hW⟩ : ∃ W, W = w.alloc (.cells (Ft.fdA T a cap) 25) := ⟨_, rfl⟩
  have hB : Below w.heap.size w W := by rw [hW]; exact (Below.refl _ _).alloc (Nat.le_refl _) _
  have hF : Ft.FileAt W w.heap.size T a cap := by rw [hW]; exact Ft.file_new w T a cap
  have hWs : w.heap.size < W.heap.size := hF.lt
  have C1 := rright_any T a cap W ((hN.under hB).mono (fun b (h : b < w.heap.size) => by omega)) hz
  have HW : Hid (W = w.alloc (.cells (Ft.fdA T a cap) 25)) := hW
  have HA : Hid (Ft.Fd w (· < w.heap.size) T a cap ∧ Ft.szT T = true ∧ Below w.heap.size w W ∧ Ft.FileAt W w.heap.size T a cap ∧ (Ft.listT T []).length ≤ 1048576) := ⟨hN, hz, hB, hF, hc⟩
  have hTl := hN.room.1
  clear hW hB hF hN hz hc
  simp only [Ft.fdA] at HW
  simp only [Ft.fdV, Ft.fdA] at C1 ⊢
  go_enter Tryz.func21, Tryz.ntmps21
  go_wp2_with fail
  rw [← HW.out]
  clear HW
  refine C1.mono ?_
  rintro e w1 ⟨rfl, b1⟩
  have hB1 : Below w.heap.size w w1 := HA.out.2.2.1.trans (b1.mono (by omega))
  have hF1 := HA.out.2.2.2.1.under b1
  have hs1 := b1.size
  obtain ⟨q0, q1, q2, q3⟩ := hF1.four
  cases hr : Ft.rightT T
  · have HE : Hid (Ft.lstR T = [] ∧ Ft.lstC T = 30) := by unfold Hid Ft.lstR Ft.lstC; rw [hr]; exact ⟨rfl, rfl⟩
    have HB1 : Hid _ := hB1
    clear C1 b1 hF1 hB1
    go_wp2_with fail
    go_ret2
    exact ⟨_, by rw [HE.out.2]; rfl, by rw [HE.out.1]; exact Ft.KRow.empty _ _, HB1.out⟩
  · have HE : Hid (Ft.lstR T = Ft.listT T [] ∧ Ft.lstC T = 0) := by unfold Hid Ft.lstR Ft.lstC; rw [hr]; exact ⟨rfl, rfl⟩
    have C2 := listed_any T [] a cap none 0 w1 ((HA.out.1.under hB1).mono (fun b (h : b < w.heap.size) => by omega)) HA.out.2.1 (Ft.right_bel hr) (Strs.empty w1) (by simp) (fun s h => absurd h (by simp)) HA.out.2.2.2.2
    simp only [Ft.fdV, Ft.fdA, List.length_nil] at C2
    have HB1 : Hid (Below w.heap.size w w1) := hB1
    clear C1 b1 hF1 hB1 hr
    go_wp2_with fail
    refine C2.mono ?_
    rintro e w2 ⟨v, rfl, hK, b2⟩
    have HK : Hid (Ft.KRow w2 w.heap.size v (Ft.lstR T) ∧ Below w.heap.size w w2) := by
      refine ⟨?_, HB1.out.trans (b2.mono HB1.out.size)⟩
      rw [HE.out.1]
      exact hK.base HB1.out.size
    clear hK b2 C2 q0 q1 q2 q3
    go_wp2_with fail
    go_ret2
    exact ⟨v, by rw [HE.out.2]; rfl, HK.out.1, HK.out.2⟩
end Go.Proofs.YtfbhofomcenabaaGreatDoor
namespace Go.Proofs.YtfbhofomcenabaaGreatDoor
open Go.RowKit

namespace Ft
/-- What is asked of trees.Check: its error is the reference's, and nothing old turns. -/
def TChk : Prop := ∀ (T : FT) (a : Option Addr) (cap : Nat) (w : World), Fd w (· < w.heap.size) T a cap → szT T = true → Calls Tryz.prog 34 #[fdV T a cap] w fun e w' => (∃ v, e = .returned (.tuple #[.int .i64 (lstC T), v])) ∧ Below w.heap.size w w'
end Ft

set_option maxRecDepth 100000 in
set_option maxHeartbeats 4000000 in
theorem tget_of (HTC : Ft.TChk) (T : Ft.FT) (p : List ByteArray) (a ap : Option Addr) (cap cp : Nat) (w : World) (hN : Ft.Fd w (· < w.heap.size) T a cap) (hz : Ft.szT T = true) (hP : Strs w ap cp p) :
    Calls Tryz.prog 18 #[Ft.fdV T a cap, .slice ap p.length cp] w (Ft.GetE w (Ft.getR T p)) := by
  obtain ⟨W, hW⟩ : ∃ W, W = (w.alloc (.cells (Ft.fdA T a cap) 25)).alloc (.cells #[.string ⟨#[]⟩, .int .u8 0, .string ⟨#[]⟩, .slice none 0 0] 25) := ⟨_, rfl⟩
  have hB : Below w.heap.size w W := by rw [hW]; exact ((Below.refl _ _).alloc (Nat.le_refl _) _).alloc (by simp) _
  have hF : Ft.FnAt w T a cap W := by
    refine ⟨?_, hN.under hB, ?_, hB⟩
    · rw [hW]; exact (Ft.file_new w T a cap).alloc _
    · rw [hW]
      have := Ft.file_zero (w.alloc (.cells (Ft.fdA T a cap) 25))
      simpa using this
  have HW : Hid (W = (w.alloc (.cells (Ft.fdA T a cap) 25)).alloc (.cells #[.string ⟨#[]⟩, .int .u8 0, .string ⟨#[]⟩, .slice none 0 0] 25)) := hW
  have HF : Hid (Ft.FnAt w T a cap W ∧ Strs w ap cp p ∧ Ft.Fd w (· < w.heap.size) T a cap) := ⟨hF, hP, hN⟩
  have C1 := HTC T a cap W (hN.grew hB hB.size) hz
  have hpl := hP.len
  have hTl := hN.room.1
  clear hW hB hF hN hP
  simp only [Ft.fdA] at HW
  simp only [Ft.fdV, Ft.fdA] at C1 ⊢
  go_enter Tryz.func18, Tryz.ntmps18
  go_wp2_with fail
  rw [← HW.out]
  clear HW
  refine C1.mono ?_
  rintro e w1 ⟨⟨v1, rfl⟩, b1⟩
  have hq1 : W.heap.size ≤ w1.heap.size := b1.size
  have hqW : w.heap.size + 1 < W.heap.size := HF.out.1.2.2.1.lt
  have hF1 : Ft.FnAt w T a cap w1 := ⟨HF.out.1.1.under b1, HF.out.1.2.1.under (b1.mono (by omega)), HF.out.1.2.2.1.under b1, HF.out.1.2.2.2.trans (b1.mono (by omega))⟩
  have HF1 : Hid (Ft.FnAt w T a cap w1 ∧ Strs w ap cp p) := ⟨hF1, HF.out.2.1⟩
  obtain ⟨q0, q1, q2, q3⟩ := hF1.1.four
  have z0 : w1.cell? ⟨w.heap.size + 1, 0, none⟩ = some (.string ⟨#[]⟩) := hF1.2.2.1.four.c0
  have z1 : w1.cell? ⟨w.heap.size + 1, 1, none⟩ = some (.int .u8 0) := hF1.2.2.1.four.c1
  have z2 : w1.cell? ⟨w.heap.size + 1, 2, none⟩ = some (.string ⟨#[]⟩) := hF1.2.2.1.four.c2
  have z3 : w1.cell? ⟨w.heap.size + 1, 3, none⟩ = some (.slice none 0 0) := hF1.2.2.1.four.c3
  have zf := hF1.2.2.1.frozen
  clear hF1 HF b1 C1
  cases hr : Ft.rightT T
  · have HE : Hid (Ft.getR T p = .inl 30) := by show _ = _; unfold Ft.getR; rw [hr]; rfl
    have HC30 : Ft.lstC T = 30 := by unfold Ft.lstC; rw [hr]; rfl
    rw [HC30]
    clear HC30
    go_wp2_with fail
    have K := Ft.fn_end HF1.out.1 (Ft.fd_zero w1 _)
    refine bodyPost_ret (Ft.results_fil rfl _ _ (w.heap.size + 1) Ft.zF none 0 rfl K.1) rfl ?_
    rw [HE.out]
    exact ⟨Ft.zF, none, 0, 30, rfl, ⟨⟨rfl, rfl⟩, Ft.fd_zero _ _, K.2.2⟩⟩
  · have HG : Hid (Ft.getR T p = Ft.lookR T p) := by show _ = _; unfold Ft.getR; rw [hr]; rfl
    have HC0 : Ft.lstC T = 0 := by unfold Ft.lstC; rw [hr]; rfl
    rw [HC0]
    have C2 := tlook_any T p a ap cap cp w1 (HF1.out.1.2.1.mono (fun b (q : b < w.heap.size) => by omega)) (HF1.out.2.below HF1.out.1.2.2.2) [] (Ft.right_bel hr)
    simp only [Ft.fdV, Ft.fdA] at C2
    clear hr z0 z1 z2 z3 zf HC0
    go_wp2_with fail
    refine C2.mono ?_
    rintro e w2 ⟨U, b, c, code, rfl, K2⟩
    simp only [Ft.fdV, Ft.fdA]
    have hq2 := K2.out.2.2.size
    obtain ⟨w3, hw3⟩ : ∃ w3, w3 = w2.alloc (.cells (Ft.fdA U b c) 25) := ⟨_, rfl⟩
    have HW3 : Hid (w3 = w2.alloc (.cells (Ft.fdA U b c) 25)) := hw3
    have b3 : Below w1.heap.size w1 w3 := by rw [hw3]; exact K2.out.2.2.alloc hq2 _
    have hF3 : Ft.FnAt w T a cap w3 := ⟨HF1.out.1.1.under b3, HF1.out.1.2.1.under (b3.mono (by omega)), HF1.out.1.2.2.1.under b3, HF1.out.1.2.2.2.trans (b3.mono (by omega))⟩
    have hU3 : Ft.FileAt w3 w2.heap.size U b c := by rw [hw3]; exact Ft.file_new w2 U b c
    have hq3 : w2.heap.size < w3.heap.size := hU3.lt
    have hD3 : Ft.Fd w3 (· < w3.heap.size) U b c := by
      rw [hw3]
      exact (K2.out.2.1.under ((Below.refl _ _).alloc hq2 _)).mono (fun x (q : x < w1.heap.size) => by simp; omega)
    have C3 := tcopy_any U b c w3 hD3
    obtain ⟨k0, k1, k2, k3⟩ := hU3.four
    have HF3 : Hid (Ft.FnAt w T a cap w3 ∧ Ft.FindIs (Ft.lookR T p) U code) := ⟨hF3, K2.out.1⟩
    have hUl := hD3.room.1
    clear hw3 b3 hF3 hU3 hD3 K2 C2 HF1 q0 q1 q2 q3
    simp only [Ft.fdA] at HW3
    simp only [Ft.fdV, Ft.fdA] at C3
    go_upto_region 5 with fail
    rw [← HW3.out]
    clear HW3
    go_wp2_with fail
    refine C3.mono ?_
    rintro e w4 ⟨b', c', rfl, hd4, b4⟩
    simp only
    have hq4 := b4.size
    have hF4 : Ft.FnAt w T a cap w4 := ⟨HF3.out.1.1.under b4, HF3.out.1.2.1.under (b4.mono (by omega)), HF3.out.1.2.2.1.under b4, HF3.out.1.2.2.2.trans (b4.mono (by omega))⟩
    have z0 : w4.cell? ⟨w.heap.size + 1, 0, none⟩ = some (.string ⟨#[]⟩) := hF4.2.2.1.four.c0
    have z1 : w4.cell? ⟨w.heap.size + 1, 1, none⟩ = some (.int .u8 0) := hF4.2.2.1.four.c1
    have z2 : w4.cell? ⟨w.heap.size + 1, 2, none⟩ = some (.string ⟨#[]⟩) := hF4.2.2.1.four.c2
    have z3 : w4.cell? ⟨w.heap.size + 1, 3, none⟩ = some (.slice none 0 0) := hF4.2.2.1.four.c3
    have zf := hF4.2.2.1.frozen
    have HF4 : Hid (Ft.FnAt w T a cap w4 ∧ Ft.Fd w4 (fun x => w3.heap.size ≤ x ∧ x < w4.heap.size) U b' c') := ⟨hF4, hd4⟩
    clear hF4 hd4 b4 C3 k0 k1 k2 k3
    go_wp2_with fail
    have y0 := HF4.out.1.2.2.1.putF U b' c'
    have y1 : Below w.heap.size w (Ft.putF w4 (w.heap.size + 1) U b' c') := Ft.putF_below HF4.out.1.2.2.2 (by omega)
    refine bodyPost_ret (Ft.results_fil rfl _ _ (w.heap.size + 1) U b' c' rfl y0) rfl ?_
    rw [HG.out]
    refine ⟨U, b', c', code, rfl, ⟨HF3.out.2, ?_, y1⟩⟩
    exact HF4.out.2.same (fun x hx => Ft.putF_other (by omega)) (fun x hx => ⟨by omega, by simp; omega⟩)
end Go.Proofs.YtfbhofomcenabaaGreatDoor
namespace Go.Proofs.YtfbhofomcenabaaGreatDoor
open Go.RowKit

set_option maxRecDepth 100000 in
set_option maxHeartbeats 400000 in
theorem fresh_any (a : Option Addr) (cap : Nat) (p : List ByteArray) (w : World) (h : Strs w a cap p) (hp : p.length ≤ 1048576) :
    Calls Tryz.prog 58 #[.slice a p.length cap] w fun e w' => ∃ v, e = .returned v ∧ w'.ownsRow w.heap.size 9 1 v p.length (p.map Value.string) ∧ Below w.heap.size w w' := by
  obtain ⟨i0, hi0, hz0, hz1, hz2⟩ := info_parts Tryz.infoStr
  cases a with
  | none =>
    obtain ⟨rfl, rfl⟩ := h.none
    clear h
    go_enter Tryz.func58, Tryz.ntmps58
    go_wp2_with fail
    go_ret
    exact ⟨_, rfl, World.ownsRow_nil _ _ _ _, Below.refl _ _⟩
  | some ad =>
    have HNW : Hid _ := h.news
    clear h
    go_enter Tryz.func58, Tryz.ntmps58
    go_wp2_with (at_builtin; refine wpList_append_own_at _ rfl _ _ 37 rfl w.heap.size 9 i0 (.string ⟨#[]⟩) 1 16 Tryz.underlying37 hi0 hz0 hz1 hz2 rfl (by decide) (.slice none 0 0) 0 [] rfl (World.ownsRow_nil _ _ _ _) ad p.length cap (p.map Value.string) rfl (by simp) HNW.out ?d2 ?d3 ?d4 ?d5 ?_)
    case d2 => intro u hu; obtain ⟨y, _, rfl⟩ := List.mem_map.1 hu; rfl
    case d3 => unfold maxLen; omega
    case d4 => omega
    case d5 => exact Nat.le_refl _
    intro v1 w1 hown1 hgrow1 _ hat1
    have hb1 : Below w.heap.size w w1 := (Below.refl _ w).grown hgrow1 (Nat.le_refl _) (fun g hg => by cases hg)
    go_wp2_with fail
    go_ret
    exact ⟨_, rfl, by simpa using hown1, hb1⟩
end Go.Proofs.YtfbhofomcenabaaGreatDoor
