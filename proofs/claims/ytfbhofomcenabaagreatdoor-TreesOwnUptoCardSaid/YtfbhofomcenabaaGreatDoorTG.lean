/- What the reference's Copy of a file answers. What the reference's Get answers: a copy of the file at a path, or the error. -/
import Derived.Test.YtfbhofomcenabaaGreatDoorTE
import Derived.Deep.RegionHeld3
import Derived.Deep.RegionLaw
import Derived.BigRegion
import Derived.Test.YtfbhofomcenabaaGreatDoorTC
namespace Go.Proofs.YtfbhofomcenabaaGreatDoor
open Go.RowKit

set_option maxRecDepth 100000 in
set_option maxHeartbeats 2000000 in
theorem rcopy_any (T : Ft.FT) :
    ∀ (a : Option Addr) (cap : Nat) (w : World), Ft.Fd w (· < w.heap.size) T a cap →
    Calls Tryz.prog 14 #[Ft.fdV T a cap] w fun e w' => ∃ a' cap', e = .returned (Ft.fdV T a' cap') ∧ Ft.Fd w' (fun b => w.heap.size ≤ b ∧ b < w'.heap.size) T a' cap' ∧ Below w.heap.size w w' := by
  induction T using Ft.FT.ind with
  | h T ih =>
  intro a cap w hN
  have IH : Hid _ := ih
  clear ih
  have hlm := hN.room.1
  obtain ⟨i0, hi0, hz0, hz1, hz2⟩ := info_parts Tryz.infoFile
  have hB0 : Below w.heap.size w (((w.alloc (.cells (Ft.fdA T a cap) 25)).alloc (.cells #[.string ⟨#[]⟩, .int .u8 0, .string ⟨#[]⟩, .slice none 0 0] 25)).alloc (.cells #[.string T.nm, .int .u8 (T.k : Int), .string T.d, .slice none 0 0] 25)) := (((Below.refl w.heap.size w).alloc (Nat.le_refl _) _).alloc (by simp) _).alloc (by simp; omega) _
  have N0 := ((Ft.file_new w T a cap).alloc (.cells #[.string ⟨#[]⟩, .int .u8 0, .string ⟨#[]⟩, .slice none 0 0] 25)).alloc (.cells #[.string T.nm, .int .u8 (T.k : Int), .string T.d, .slice none 0 0] 25)
  have Z0 := (Ft.file_zero (w.alloc (.cells (Ft.fdA T a cap) 25))).alloc (.cells #[.string T.nm, .int .u8 (T.k : Int), .string T.d, .slice none 0 0] 25)
  have O0 := heap_alloc_new ((w.alloc (.cells (Ft.fdA T a cap) 25)).alloc (.cells #[.string ⟨#[]⟩, .int .u8 0, .string ⟨#[]⟩, .slice none 0 0] 25)) (.cells #[.string T.nm, .int .u8 (T.k : Int), .string T.d, .slice none 0 0] 25)
  rw [show (w.alloc (.cells (Ft.fdA T a cap) 25)).heap.size = w.heap.size + 1 by simp] at Z0
  rw [show ((w.alloc (.cells (Ft.fdA T a cap) 25)).alloc (.cells #[.string ⟨#[]⟩, .int .u8 0, .string ⟨#[]⟩, .slice none 0 0] 25)).heap.size = w.heap.size + 2 by simp] at O0
  simp only [Ft.fdV, Ft.fdA] at N0 Z0 O0 hB0 ⊢
  obtain ⟨W, hW⟩ : ∃ W, W = ((w.alloc (.cells #[.string T.nm, .int .u8 (T.k : Int), .string T.d, .slice a T.kids.length cap] 25)).alloc (.cells #[.string ⟨#[]⟩, .int .u8 0, .string ⟨#[]⟩, .slice none 0 0] 25)).alloc (.cells #[.string T.nm, .int .u8 (T.k : Int), .string T.d, .slice none 0 0] 25) := ⟨_, rfl⟩
  have hs0 : W.heap.size = w.heap.size + 3 := by rw [hW]; simp
  rw [← hW] at N0 Z0 O0 hB0
  have hN1 : Ft.Fd W (· < w.heap.size) T a cap := hN.under hB0
  go_enter Tryz.func14, Tryz.ntmps14
  go_wp2_with fail
  rw [← hW]
  clear hW
  go_loopw [16] (fun iv wr => ∃ (i : Nat) (v : Value), i ≤ T.kids.length ∧ iv = .int .i64 (i : Int) ∧ Hid (Ft.FRow wr (w.heap.size + 3) v (T.kids.take i)) ∧ Hid (wr.heap[w.heap.size + 2]? = some (.cells #[.string T.nm, .int .u8 (T.k : Int), .string T.d, v] 25)) ∧ Hid (Ft.FileAt wr (w.heap.size + 1) Ft.zF none 0) ∧ Hid (Ft.Fd wr (· < w.heap.size) T a cap) ∧ Hid (Below w.heap.size w wr) ∧ w.heap.size + 3 ≤ wr.heap.size) (fun iv _ => T.kids.length - (intOf iv).toNat)
  case atStart => exact ⟨0, _, by omega, rfl, Ft.FRow.empty _ _, O0, Z0, hN1, hB0, by omega⟩
  case round =>
    obtain ⟨i, v, hi, rfl, NR, NO, ZA, ND, HB, hsz⟩ := hrel
    clear N0 Z0 O0 hB0 hN1 hs0
    have o3 : wr.cell? ⟨w.heap.size + 2, 3, none⟩ = some v := by rw [cell_of_row wr _ _ _ _ _ NO.out]; rfl
    by_cases hlt : i < T.kids.length
    · obtain ⟨b, off, a', cap', rfl, hbB, h9, hk⟩ := ND.out.kid hlt
      obtain ⟨r0, r1, r2, r3⟩ := h9
      have hbr : b < wr.heap.size := by have := HB.out.size; omega
      have hki : (i : Int) < (T.kids.length : Int) := by omega
      have fo3 : wr.frozen? ⟨w.heap.size + 2, 3, none⟩ = false := frozen_of_row wr _ 3 _ _ NO.out
      have nO : ¬ w.heap.size + 2 = wr.heap.size := by omega
      obtain ⟨W1, hW1⟩ : ∃ W1, W1 = wr.alloc (.cells #[.string (T.kids[i]).nm, .int .u8 ((T.kids[i]).k : Int), .string (T.kids[i]).d, .slice a' (T.kids[i]).kids.length cap'] 25) := ⟨_, rfl⟩
      have hA : Below wr.heap.size wr W1 := by rw [hW1]; exact (Below.refl _ _).alloc (Nat.le_refl _) _
      have hsA : W1.heap.size = wr.heap.size + 1 := by rw [hW1]; simp
      have K1 : Ft.FileAt W1 wr.heap.size (T.kids[i]) a' cap' := by rw [hW1]; exact Ft.file_new wr (T.kids[i]) a' cap'
      have HIH : Hid (∀ V, Below W1.heap.size W1 V → Calls Tryz.prog 14 #[.agg #[.string (T.kids[i]).nm, .int .u8 ((T.kids[i]).k : Int), .string (T.kids[i]).d, .slice a' (T.kids[i]).kids.length cap']] V fun e w2 => ∃ a2 cap2, e = .returned (.agg #[.string (T.kids[i]).nm, .int .u8 ((T.kids[i]).k : Int), .string (T.kids[i]).d, .slice a2 (T.kids[i]).kids.length cap2]) ∧ Ft.Fd w2 (fun b => W1.heap.size ≤ b ∧ b < w2.heap.size) (T.kids[i]) a2 cap2 ∧ Below W1.heap.size W1 w2) := fun V hV => by
        have hsV := hV.size
        refine (IH.out i hlt a' cap' V (hk.same (fun b (h : b < _) => ?_) (fun b (h : b < _) => ?_))).mono ?_
        · exact (hV.block b (by have := HB.out.size; omega)).trans (hA.block b (by have := HB.out.size; omega))
        · have := HB.out.size; omega
        · rintro e w2 ⟨a2, cap2, he, h2, h3⟩
          exact ⟨a2, cap2, he, h2.mono (fun b hb => ⟨by omega, hb.2⟩), hV.trans (h3.mono hsV)⟩
      have NR1 := NR.out.below hA
      have hO1 : W1.heap[w.heap.size + 2]? = some (.cells #[.string T.nm, .int .u8 (T.k : Int), .string T.d, v] 25) := (hA.block _ (by omega)).trans NO.out
      have HF : Hid (∀ w2, Below W1.heap.size W1 w2 → w2.heap[w.heap.size + 2]? = some (.cells #[.string T.nm, .int .u8 (T.k : Int), .string T.d, v] 25) ∧ Ft.FRow w2 (w.heap.size + 3) v (T.kids.take i)) := fun w2 hb => ⟨(hb.block _ (by omega)).trans hO1, NR1.below hb⟩
      have q3 : W1.cell? ⟨w.heap.size + 2, 3, none⟩ = some v := by rw [cell_of_row W1 _ _ _ _ _ hO1]; rfl
      obtain ⟨k0, k1, k2, k3⟩ := K1.four
      have HA : Hid _ := hA
      have HTk : Hid _ := List.take_succ_eq_append_getElem (l := T.kids) (i := i) hlt
      have HR0 : Hid (∀ (w2 : World) (a2 : Option Addr) (cap2 : Nat) (L : List (Ft.FT × Option Addr × Nat)), Below W1.heap.size W1 w2 → Ft.Fd w2 (fun b => W1.heap.size ≤ b ∧ b < w2.heap.size) (T.kids[i]) a2 cap2 → L.map (·.1) = T.kids.take i → w2.ownsRow (w.heap.size + 3) 25 4 v L.length (Ft.fcells L) → (∀ x ∈ L, Ft.Fd w2 (fun b => w.heap.size + 3 ≤ b ∧ b < w2.heap.size ∧ some b ≠ v.ownBlock) x.1 x.2.1 x.2.2) → ∀ (g c : Nat) (w3 : World), w3.ownsRow (w.heap.size + 3) 25 4 (.slice (some ⟨g, 0, none⟩) (L.length + 1) c) (L.length + 1) (Ft.fcells L ++ Ft.fourL (T.kids[i], a2, cap2)) → (w2.alloc (.cells #[.string (T.kids[i]).nm, .int .u8 ((T.kids[i]).k : Int), .string (T.kids[i]).d, .slice a2 (T.kids[i]).kids.length cap2] 25)).grownBy w3 v.ownBlock → (v.ownBlock = some g ∨ g = w2.heap.size + 1) →
          w3.heap[w.heap.size + 2]? = some (.cells #[.string T.nm, .int .u8 (T.k : Int), .string T.d, v] 25) ∧ Ft.FRow (w3.setCell ⟨w.heap.size + 2, 3, none⟩ (.slice (some ⟨g, 0, none⟩) (L.length + 1) c)) (w.heap.size + 3) (.slice (some ⟨g, 0, none⟩) (L.length + 1) c) (T.kids.take (i + 1)) ∧ (w3.setCell ⟨w.heap.size + 2, 3, none⟩ (.slice (some ⟨g, 0, none⟩) (L.length + 1) c)).heap[w.heap.size + 2]? = some (.cells #[.string T.nm, .int .u8 (T.k : Int), .string T.d, (.slice (some ⟨g, 0, none⟩) (L.length + 1) c)] 25) ∧ Ft.FileAt (w3.setCell ⟨w.heap.size + 2, 3, none⟩ (.slice (some ⟨g, 0, none⟩) (L.length + 1) c)) (w.heap.size + 1) Ft.zF none 0 ∧ Ft.Fd (w3.setCell ⟨w.heap.size + 2, 3, none⟩ (.slice (some ⟨g, 0, none⟩) (L.length + 1) c)) (· < w.heap.size) T (some ⟨b, off, none⟩) cap ∧ Below w.heap.size w (w3.setCell ⟨w.heap.size + 2, 3, none⟩ (.slice (some ⟨g, 0, none⟩) (L.length + 1) c)) ∧ w.heap.size + 3 ≤ (w3.setCell ⟨w.heap.size + 2, 3, none⟩ (.slice (some ⟨g, 0, none⟩) (L.length + 1) c)).heap.size) := by
        intro w2 a2 cap2 L hb2 hn2 hL ox ex g c w3 ho hg hat
        have hs2 := hb2.size
        have hs3 := hg.size
        simp at hs3
        have hvn : ∀ k, v.ownBlock = some k → w.heap.size + 3 ≤ k ∧ k < wr.heap.size := by
          obtain ⟨L0, _, ox0, _⟩ := NR.out
          exact fun k hk => ox0.lt k hk
        have hB3 : Below (w.heap.size + 3) W1 w3 := by
          refine (hb2.mono (by omega)).trans ?_
          exact ((Below.refl _ _).alloc (by omega) _).grown hg (by simp; omega) (fun k hk => (hvn k hk).1)
        have hB1 : Below (w.heap.size + 3) wr W1 := HA.out.mono (by omega)
        have p3 : w3.heap[w.heap.size + 2]? = some (.cells #[.string T.nm, .int .u8 (T.k : Int), .string T.d, v] 25) := (hB3.block _ (by omega)).trans ((hB1.block _ (by omega)).trans NO.out)
        have hy := (Below.refl (w.heap.size + 2) w3).setCell (p := ⟨w.heap.size + 2, 3, none⟩) (Nat.le_refl _) (.slice (some ⟨g, 0, none⟩) (L.length + 1) c)
        have hx2 : Ft.Fd w2 (fun b => w.heap.size + 3 ≤ b ∧ b < w2.heap.size ∧ some b ≠ v.ownBlock) (T.kids[i]) a2 cap2 := hn2.mono (fun b hb => ⟨by omega, hb.2, fun e => by have := (hvn b e.symm).2; omega⟩)
        have N3 := Ft.frow_snoc (m := w2.heap.size + 1) ex hx2 ho hg (by rcases hat with e | e; exact .inl e.symm; exact .inr (by rw [e]; rfl)) (by omega)
        obtain ⟨L4, h41, h42, h43⟩ := N3
        refine ⟨p3, ⟨L4, ?_, ?_, ?_⟩, heap_setCell_same w3 _ 3 _ _ _ p3, ?_, ?_, ?_, ?_⟩
        · rw [h41, hL, HTk.out]
        · exact ownsRow_setCell_below h42 (Nat.lt_succ_self (w.heap.size + 2)) _
        · intro x hx
          refine (h43 x hx).same (fun k hk => heap_setCell_other w3 ⟨w.heap.size + 2, 3, none⟩ k _ (show k ≠ w.heap.size + 2 by omega)) (fun k hk => ⟨hk.1, Nat.lt_of_lt_of_le hk.2.1 hy.size, hk.2.2⟩)
        · exact Ft.FileAt.below (Ft.FileAt.below (Ft.FileAt.below ZA.out hB1 (by omega)) hB3 (by omega)) hy (by omega)
        · exact ND.out.same (fun b (h : b < _) => ((hy.block b (by omega)).trans ((hB3.block b (by omega)).trans (hB1.block b (by omega))))) (fun _ h => h)
        · exact ((HB.out.trans (hB1.mono (by omega))).trans (hB3.mono (by omega))).trans (hy.mono (by omega))
        · have := hy.size; omega
      go_wp2_with fail
      rw [← hW1]
      clear hW1 hk NR1 hO1 K1 hA o3 fo3 r0 r1 r2 r3
      go_region_law (first
        | (go_simp; go_at_call 14; refine Calls.mono (HIH.out _ (Below.refl _ W1).drew) ?_; rintro e w2 ⟨a2, cap2, rfl, hn2, hb2⟩; (obtain ⟨hO2, L, hL, ox, ex⟩ := HF.out w2 hb2); (have x3 : w2.cell? ⟨w.heap.size + 2, 3, none⟩ = some v := by rw [cell_of_row w2 _ _ _ _ _ hO2]; rfl); (have OX : Hid _ := ox); (have HLn : Hid (L.length = i) := by (have := congrArg List.length hL; simp at this; show _ = _; omega)); (have hs2 := hb2.size); (have hob2 : w.heap.size + 2 < w2.heap.size := by omega); (have nob2 : ¬ w.heap.size + 2 = w2.heap.size := by omega); (have HR3 : Hid _ := HR0.out w2 a2 cap2 L hb2 hn2 hL ox ex); (clear hn2 hb2 hL ox ex hO2))
        | (refine step_append_lies _ rfl (.tmp 21) (.tmp 24) 23 rfl (w.heap.size + 3) 25 i0 _ 4 64 Tryz.underlying23 hi0 hz0 hz1 hz2 rfl (by decide) v L.length (Ft.fcells L) (by simp [Act.eval]) (World.ownsRow.alloc OX.out _) ⟨w2.heap.size, 0, none⟩ 1 1 (Ft.fourL (T.kids[i], a2, cap2)) (by simp [Act.eval]) rfl (Ft.four_new w2 (T.kids[i]) a2 cap2) (Ft.four_one _) (by decide) (by have := HLn.out; unfold maxLen; omega) (by have := HLn.out; omega) (by simp; omega) _ rfl ?_; intro g c w3 ho hg hat hlt3; (have R3 : Hid _ := HR3.out g c w3 ho hg (by simpa using hat)); (have p3 := R3.out.1); (have e3 : w3.cell? ⟨w.heap.size + 2, 3, none⟩ = some v := by rw [cell_of_row w3 _ _ _ _ _ p3]; rfl); (have f3 : w3.frozen? ⟨w.heap.size + 2, 3, none⟩ = false := frozen_of_row w3 _ 3 _ _ p3); (clear ho hg hat p3)))
      all_goals
        go_wp2_with fail
        go_roundw
        case rel => exact ⟨i + 1, _, by omega, by go_num, R3.out.2.1, R3.out.2.2.1, R3.out.2.2.2.1, R3.out.2.2.2.2.1, R3.out.2.2.2.2.2.1, R3.out.2.2.2.2.2.2⟩
        case measure => simp [intOf]; omega
    · obtain rfl : i = T.kids.length := by omega
      have hki : ¬ (T.kids.length : Int) < (T.kids.length : Int) := by omega
      obtain ⟨K, hK⟩ : ∃ K, K = T.kids := ⟨_, rfl⟩
      have hkl : Hid (K.length = T.kids.length) := by show _ = _; rw [hK]
      have NR' : Ft.FRow wr (w.heap.size + 3) v K := by have := NR.out; rw [List.take_of_length_le (Nat.le_refl _)] at this; rw [hK]; exact this
      have HQ' : Hid (T = .mk T.nm T.k T.d K) := by show _ = _; rw [hK]; exact Ft.FT.eta T
      obtain ⟨a3, cap3, hv3, hn3⟩ := Ft.FRow.nd (T := .mk T.nm T.k T.d K) NR' (by have := hkl.out; show K.length ≤ _; omega)
      have hv3 : v = .slice a3 K.length cap3 := hv3
      subst hv3
      have NOF : Ft.FileAt wr (w.heap.size + 2) (.mk T.nm T.k T.d K) a3 cap3 := NO.out
      clear hK
      obtain ⟨c0, c1, c2, c3⟩ := NOF.four
      obtain ⟨z0, z1, z2, z3⟩ := ZA.out.four
      have g0 := ZA.out.frozen 0
      have g1 := ZA.out.frozen 1
      have g2 := ZA.out.frozen 2
      have g3 := ZA.out.frozen 3
      have HN3 : Hid _ := hn3
      have hlr : w.heap.size + 2 < wr.heap.size := by omega
      clear NR' hn3 NOF
      go_wp2_with fail
      refine bodyPost_ret (results_cell_row rfl _ _ (w.heap.size + 1) _ _ _ _ rfl (Ft.FileAt.putF ZA.out (.mk T.nm T.k T.d K) a3 cap3) Tryz.underlying25 rfl (by kernel_rfl)) rfl ?_
      rw [HQ'.out]
      have hB5 : Below w.heap.size w (Ft.putF wr (w.heap.size + 1) (.mk T.nm T.k T.d K) a3 cap3) := Ft.putF_below HB.out (by omega)
      have hz5 : wr.heap.size ≤ (Ft.putF wr (w.heap.size + 1) (.mk T.nm T.k T.d K) a3 cap3).heap.size := (Ft.putF_below (Below.refl 0 wr) (Nat.zero_le _)).size
      exact ⟨a3, cap3, rfl, HN3.out.same (fun b hb => Ft.putF_other (by omega)) (fun b hb => ⟨by omega, Nat.lt_of_lt_of_le hb.2 hz5⟩), hB5⟩
end Go.Proofs.YtfbhofomcenabaaGreatDoor
namespace Go.Proofs.YtfbhofomcenabaaGreatDoor
open Go.RowKit

namespace Ft
/-- What Get answers. -/
def getR (T : FT) (p : List ByteArray) : Sum Nat FT := if rightT T = true then lookR T p else .inl 30
def GetE (w : World) (r : Sum Nat FT) (e : Ending) (w' : World) : Prop := ∃ U a c code, e = .returned (.tuple #[fdV U a c, .int .i64 code]) ∧ Hid (FindIs r U code ∧ Fd w' (fun b => w.heap.size ≤ b ∧ b < w'.heap.size) U a c ∧ Below w.heap.size w w')
theorem Fd.grew {w w' : World} {B : Nat} {T : FT} {a : Option Addr} {cap : Nat} (h : Fd w (· < B) T a cap) (hb : Below B w w') (hB : B ≤ w'.heap.size) : Fd w' (· < w'.heap.size) T a cap := (h.under hb).mono (fun b (q : b < B) => by omega)
end Ft

set_option maxRecDepth 100000 in
set_option maxHeartbeats 4000000 in
theorem rget_any (T : Ft.FT) (p : List ByteArray) (a ap : Option Addr) (cap cp : Nat) (w : World) (hN : Ft.Fd w (· < w.heap.size) T a cap) (hz : Ft.szT T = true) (hP : Strs w ap cp p) :
    Calls Tryz.prog 60 #[Ft.fdV T a cap, .slice ap p.length cp] w (Ft.GetE w (Ft.getR T p)) := by
  obtain ⟨W, hW⟩ : ∃ W, W = (w.alloc (.cells (Ft.fdA T a cap) 25)).alloc (.cells #[.string ⟨#[]⟩, .int .u8 0, .string ⟨#[]⟩, .slice none 0 0] 25) := ⟨_, rfl⟩
  have hB : Below w.heap.size w W := by rw [hW]; exact ((Below.refl _ _).alloc (Nat.le_refl _) _).alloc (by simp) _
  have hF : Ft.FnAt w T a cap W := by
    refine ⟨?_, hN.under hB, ?_, hB⟩
    · rw [hW]; exact (Ft.file_new w T a cap).alloc _
    · rw [hW]
      have := Ft.file_zero (w.alloc (.cells (Ft.fdA T a cap) 25))
      simpa using this
  have HW : Hid (W = (w.alloc (.cells (Ft.fdA T a cap) 25)).alloc (.cells #[.string ⟨#[]⟩, .int .u8 0, .string ⟨#[]⟩, .slice none 0 0] 25)) := hW
  have HF : Hid (Ft.FnAt w T a cap W ∧ Strs w ap cp p ∧ Ft.Fd w (· < w.heap.size) T a cap) := ⟨hF, hP, hN⟩
  have C1 := rright_any T a cap W (hN.grew hB hB.size) hz
  have hpl := hP.len
  have hTl := hN.room.1
  clear hW hB hF hN hP
  simp only [Ft.fdA] at HW
  simp only [Ft.fdV, Ft.fdA] at C1 ⊢
  go_enter Tryz.func60, Tryz.ntmps60
  go_wp2_with fail
  rw [← HW.out]
  clear HW
  refine C1.mono ?_
  rintro e w1 ⟨rfl, b1⟩
  have hq1 : W.heap.size ≤ w1.heap.size := b1.size
  have hqW : w.heap.size + 1 < W.heap.size := HF.out.1.2.2.1.lt
  have hF1 : Ft.FnAt w T a cap w1 := ⟨HF.out.1.1.under b1, HF.out.1.2.1.under (b1.mono (by omega)), HF.out.1.2.2.1.under b1, HF.out.1.2.2.2.trans (b1.mono (by omega))⟩
  have HF1 : Hid (Ft.FnAt w T a cap w1 ∧ Strs w ap cp p) := ⟨hF1, HF.out.2.1⟩
  obtain ⟨q0, q1, q2, q3⟩ := hF1.1.four
  have z0 : w1.cell? ⟨w.heap.size + 1, 0, none⟩ = some (.string ⟨#[]⟩) := hF1.2.2.1.four.c0
  have z1 : w1.cell? ⟨w.heap.size + 1, 1, none⟩ = some (.int .u8 0) := hF1.2.2.1.four.c1
  have z2 : w1.cell? ⟨w.heap.size + 1, 2, none⟩ = some (.string ⟨#[]⟩) := hF1.2.2.1.four.c2
  have z3 : w1.cell? ⟨w.heap.size + 1, 3, none⟩ = some (.slice none 0 0) := hF1.2.2.1.four.c3
  have zf := hF1.2.2.1.frozen
  clear hF1 HF b1 C1
  cases hr : Ft.rightT T
  · have HE : Hid (Ft.getR T p = .inl 30) := by show _ = _; unfold Ft.getR; rw [hr]; rfl
    go_wp2_with fail
    have K := Ft.fn_end HF1.out.1 (Ft.fd_zero w1 _)
    refine bodyPost_ret (Ft.results_fil rfl _ _ (w.heap.size + 1) Ft.zF none 0 rfl K.1) rfl ?_
    rw [HE.out]
    exact ⟨Ft.zF, none, 0, 30, rfl, ⟨⟨rfl, rfl⟩, Ft.fd_zero _ _, K.2.2⟩⟩
  · have HG : Hid (Ft.getR T p = Ft.lookR T p) := by show _ = _; unfold Ft.getR; rw [hr]; rfl
    have C2 := rfind_any T p a ap cap cp w1 (HF1.out.1.2.1.mono (fun b (q : b < w.heap.size) => by omega)) (HF1.out.2.below HF1.out.1.2.2.2)
    simp only [Ft.fdV, Ft.fdA] at C2
    clear hr z0 z1 z2 z3 zf
    go_wp2_with fail
    refine C2.mono ?_
    rintro e w2 ⟨U, b, c, code, rfl, K2⟩
    simp only [Ft.fdV, Ft.fdA]
    have hq2 := K2.out.2.2.size
    obtain ⟨w3, hw3⟩ : ∃ w3, w3 = w2.alloc (.cells (Ft.fdA U b c) 25) := ⟨_, rfl⟩
    have HW3 : Hid (w3 = w2.alloc (.cells (Ft.fdA U b c) 25)) := hw3
    have b3 : Below w1.heap.size w1 w3 := by rw [hw3]; exact K2.out.2.2.alloc hq2 _
    have hF3 : Ft.FnAt w T a cap w3 := ⟨HF1.out.1.1.under b3, HF1.out.1.2.1.under (b3.mono (by omega)), HF1.out.1.2.2.1.under b3, HF1.out.1.2.2.2.trans (b3.mono (by omega))⟩
    have hU3 : Ft.FileAt w3 w2.heap.size U b c := by rw [hw3]; exact Ft.file_new w2 U b c
    have hq3 : w2.heap.size < w3.heap.size := hU3.lt
    have hD3 : Ft.Fd w3 (· < w3.heap.size) U b c := by
      rw [hw3]
      exact (K2.out.2.1.under ((Below.refl _ _).alloc hq2 _)).mono (fun x (q : x < w1.heap.size) => by simp; omega)
    have C3 := rcopy_any U b c w3 hD3
    obtain ⟨k0, k1, k2, k3⟩ := hU3.four
    have z0 : w3.cell? ⟨w.heap.size + 1, 0, none⟩ = some (.string ⟨#[]⟩) := hF3.2.2.1.four.c0
    have z1 : w3.cell? ⟨w.heap.size + 1, 1, none⟩ = some (.int .u8 0) := hF3.2.2.1.four.c1
    have z2 : w3.cell? ⟨w.heap.size + 1, 2, none⟩ = some (.string ⟨#[]⟩) := hF3.2.2.1.four.c2
    have z3 : w3.cell? ⟨w.heap.size + 1, 3, none⟩ = some (.slice none 0 0) := hF3.2.2.1.four.c3
    have zf := hF3.2.2.1.frozen
    have HF3 : Hid (Ft.FnAt w T a cap w3 ∧ Ft.FindIs (Ft.lookR T p) U code) := ⟨hF3, K2.out.1⟩
    have hUl := hD3.room.1
    clear hw3 b3 hF3 hU3 hD3 K2 C2 HF1 q0 q1 q2 q3
    simp only [Ft.fdA] at HW3
    simp only [Ft.fdV, Ft.fdA] at C3
    go_upto_region 4 with fail
    rw [← HW3.out]
    clear HW3
    cases hc : (code != 0)
    · have hc0 : code = 0 := by simpa using hc
      subst hc0
      clear hc z0 z1 z2 z3 zf
      go_wp2_with fail
      refine C3.mono ?_
      rintro e w4 ⟨b', c', rfl, hd4, b4⟩
      simp only
      have hq4 := b4.size
      have hF4 : Ft.FnAt w T a cap w4 := ⟨HF3.out.1.1.under b4, HF3.out.1.2.1.under (b4.mono (by omega)), HF3.out.1.2.2.1.under b4, HF3.out.1.2.2.2.trans (b4.mono (by omega))⟩
      have z0 : w4.cell? ⟨w.heap.size + 1, 0, none⟩ = some (.string ⟨#[]⟩) := hF4.2.2.1.four.c0
      have z1 : w4.cell? ⟨w.heap.size + 1, 1, none⟩ = some (.int .u8 0) := hF4.2.2.1.four.c1
      have z2 : w4.cell? ⟨w.heap.size + 1, 2, none⟩ = some (.string ⟨#[]⟩) := hF4.2.2.1.four.c2
      have z3 : w4.cell? ⟨w.heap.size + 1, 3, none⟩ = some (.slice none 0 0) := hF4.2.2.1.four.c3
      have zf := hF4.2.2.1.frozen
      have HF4 : Hid (Ft.FnAt w T a cap w4 ∧ Ft.Fd w4 (fun x => w3.heap.size ≤ x ∧ x < w4.heap.size) U b' c') := ⟨hF4, hd4⟩
      clear hF4 hd4 b4 C3 k0 k1 k2 k3
      go_wp2_with fail
      have y0 := HF4.out.1.2.2.1.putF U b' c'
      have y1 : Below w.heap.size w (Ft.putF w4 (w.heap.size + 1) U b' c') := Ft.putF_below HF4.out.1.2.2.2 (by omega)
      refine bodyPost_ret (Ft.results_fil rfl _ _ (w.heap.size + 1) U b' c' rfl y0) rfl ?_
      rw [HG.out]
      refine ⟨U, b', c', 0, rfl, ⟨HF3.out.2, ?_, y1⟩⟩
      exact HF4.out.2.same (fun x hx => Ft.putF_other (by omega)) (fun x hx => ⟨by omega, by simp; omega⟩)
    · have hc0 : code ≠ 0 := by simpa using hc
      have HZ : Hid (U = Ft.zF) := by
        have h := HF3.out.2
        show _ = _
        cases hl : Ft.lookR T p with
        | inl n => rw [hl] at h; exact h.1
        | inr V => rw [hl] at h; exact absurd h.2 hc0
      clear k0 k1 k2 k3 C3
      go_wp2_with fail
      have K := Ft.fn_end HF3.out.1 (Ft.fd_zero w3 _)
      refine bodyPost_ret (Ft.results_fil rfl _ _ (w.heap.size + 1) Ft.zF none 0 rfl K.1) rfl ?_
      rw [HG.out]
      exact ⟨Ft.zF, none, 0, code, rfl, ⟨by rw [← HZ.out]; exact HF3.out.2, Ft.fd_zero _ _, K.2.2⟩⟩
end Go.Proofs.YtfbhofomcenabaaGreatDoor
