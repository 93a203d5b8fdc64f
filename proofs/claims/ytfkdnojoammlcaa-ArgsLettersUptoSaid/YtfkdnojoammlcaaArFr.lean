/- What the reference's Read answers: the loop over the options. -/
import Derived.Test.YtfkdnojoammlcaaArFg
import Derived.Test.YtfkdnojoammlcaaArRe
import Derived.Test.YtfkdnojoammlcaaArRp
import Derived.Deep.LoopGhost
import Derived.Deep.DeepCutAuto
import Derived.Deep.RegionLaw
import Derived.Deep.CutBlock
namespace Go.Proofs.Ytfkdnojoammlcaa
open Go.RowKit

namespace Ar
/-- The options so far: so many rounds at most are to come; or an argument was at fault. -/
def RrI (L : List ByteArray) (Y : Bool × Nat × Av) (n a1 : Nat) (b1 : Int) (x1 : Av) : Prop := (b1 = -1 ∧ L.length ≤ a1 + n ∧ a1 ≤ L.length ∧ x1.sc.length ≤ a1 ∧ Y = optsF L n a1 x1) ∨ (Y.1 = false ∧ b1 = (Y.2.1 : Int))
/-- Behind the options. -/
def RrE (Y : Bool × Nat × Av) (a2 : Nat) (b2 : Int) (x2 : Av) : Prop := (Y.1 = true ∧ a2 = Y.2.1 ∧ b2 = -1 ∧ x2 = Y.2.2) ∨ (Y.1 = false ∧ b2 = (Y.2.1 : Int))
/-- Behind an option the round goes on, or ends. -/
theorem RrI.next {L : List ByteArray} {Y Z : Bool × Nat × Av} {m a1 a2 : Nat} {b2 : Int} {x1 x2 : Av} (hn : L.length ≤ a1 + (m + 1)) (hsc : x1.sc.length ≤ a1) (hf : Fine L a1 x1 Z) (hY : Y = if Z.1 then optsF L m (Z.2.1 + 1) Z.2.2 else (false, Z.2.1, Z.2.2)) (ha : Aft Z a2 b2 x2) : RrI L Y m a2 b2 x2 := by
  obtain ⟨f1, f2, _, f4⟩ := hf
  rcases ha with ⟨h1, rfl, rfl, rfl⟩ | ⟨h1, rfl⟩
  · rw [if_pos h1] at hY
    exact .inl ⟨rfl, by omega, f4 h1, by omega, hY⟩
  · rw [if_neg (by rw [h1]; decide)] at hY
    exact .inr ⟨by rw [hY], by rw [hY]⟩
end Ar
/-- The loop's memory. -/
def RrM (w0 : World) (g : Nat) (al : Option Addr) (cl : Nat) (L : List ByteArray) (Y : Bool × Nat × Ar.Av) (W : World) : Prop := ∃ a2 b2 x2 vs2, RfM w0 g g al cl L a2 b2 x2 vs2 (.slice none 0 0) W ∧ Ar.RrE Y a2 b2 x2

/-- Behind the script. -/
def RrN (w0 : World) (g : Nat) (al : Option Addr) (cl : Nat) (L : List ByteArray) (a2 : Nat) (x2 : Ar.Av) (W : World) : Prop := ∃ a3 x3 vs3, RfM w0 g g al cl L a3 (-1) x3 vs3 (.slice none 0 0) W ∧ x3.nm = [] ∧ a3 ≤ L.length ∧ Ar.operF L a2 x2 = (true, a3, { x3 with nm := L.drop a3 })

set_option maxRecDepth 100000 in
set_option maxHeartbeats 8000000 in
theorem rread_any (L : List ByteArray) (al : Option Addr) (cl : Nat) (w : World) (hL : Strs w al cl L) (haf : ∀ ad : Addr, al = some ad → ad.block < w.heap.size) (hz : ∀ i (hi : i < L.length), (L[i]'hi).size ≤ 1048576) :
    Calls Try.prog 11 #[.slice al L.length cl] w (ReadIs L w) := by
  have hlen := hL.len
  by_cases hbig : 65536 < L.length
  · have hd : (65536 : Int) < (L.length : Int) := by omega
    have HY : Hid (Ar.readF L = (Ar.av0', 3, 0)) := by show _ = _; unfold Ar.readF; rw [if_pos hbig]
    have HP : Hid (ReadIs L w (.returned (.tuple #[.agg (avA Ar.av0' none 0 none 0), .int .i64 3, .int .i64 0])) (w.alloc (.cells #[.bool false, .bool false, .bool false, .bool false, .string ⟨#[]⟩, .slice none 0 0, .slice none 0 0] 28))) := ⟨none, 0, none, 0, by rw [HY.out]; rfl, by rw [HY.out]; exact cop_nil _ _, alloc_below _ _⟩
    go_enter Try.func11, Try.ntmps11
    go_wp2_with fail
    exact bodyPost_ret (results_cell_two (p := 2) (u := 3) (v := 4) rfl _ _ w.heap.size _ _ _ _ rfl (heap_alloc_new w _) Try.underlying28 rfl (by kernel_rfl)) rfl HP.out
  · have hd : ¬ (65536 : Int) < (L.length : Int) := by omega
    obtain ⟨w0, hw0⟩ : ∃ w0, w0 = w.alloc (.cells #[.bool false, .bool false, .bool false, .bool false, .string ⟨#[]⟩, .slice none 0 0, .slice none 0 0] 28) := ⟨_, rfl⟩
    have hs0 : w0.heap.size = w.heap.size + 1 := by rw [hw0]; simp
    have HB0 : Hid (Below w.heap.size w w0) := by rw [hw0]; exact alloc_below _ _
    have HBx : Hid (w0.heap[w.heap.size]? = some (.cells #[.bool false, .bool false, .bool false, .bool false, .string ⟨#[]⟩, .slice none 0 0, .slice none 0 0] 28)) := by show _ = _; rw [hw0]; exact heap_alloc_new _ _
    have er : (#[.slice al L.length cl, .int .i64 0, .int .i64 (-1), .bool false, .bool false, .bool false, .bool false, .string ⟨#[]⟩, .slice none 0 0, .slice none 0 0] : Array Value) = rfA al L.length cl 0 (-1) Ar.av0' (.slice none 0 0) (.slice none 0 0) := rfl
    have hrd : (w0.alloc (.cells #[.slice al L.length cl, .int .i64 0, .int .i64 (-1), .bool false, .bool false, .bool false, .bool false, .string ⟨#[]⟩, .slice none 0 0, .slice none 0 0] 57)).heap[w.heap.size + 1]? = some (.cells (rfA al L.length cl 0 (-1) Ar.av0' (.slice none 0 0) (.slice none 0 0)) 57) := by
      rw [er, ← hs0]; exact heap_alloc_new _ _
    have HI : Hid (RfM w0 (w.heap.size + 1) (w.heap.size + 1) al cl L 0 (-1) Ar.av0' (.slice none 0 0) (.slice none 0 0) ((w.alloc (.cells #[.bool false, .bool false, .bool false, .bool false, .string ⟨#[]⟩, .slice none 0 0, .slice none 0 0] 28)).alloc (.cells #[.slice al L.length cl, .int .i64 0, .int .i64 (-1), .bool false, .bool false, .bool false, .bool false, .string ⟨#[]⟩, .slice none 0 0, .slice none 0 0] 57))) := by
      rw [← hw0]
      exact ⟨by rw [← hs0]; exact alloc_below _ _, Nat.le_refl _, hrd, World.ownsRow_nil _ _ _ _, World.ownsRow_nil _ _ _ _, fun k e => (by cases e), (hL.below HB0.out).below (alloc_below _ _), fun ad e => by have := haf ad e; omega, by omega, by omega⟩
    clear hrd er hw0 hL haf
    obtain ⟨f1, f2, f3⟩ := Ar.opts_fine L L.length 0 Ar.av0' (Nat.zero_le _) (Nat.zero_le _) rfl
    have HYd : Hid (Ar.readF L = if (Ar.optsF L L.length 0 Ar.av0').1 then (if (Ar.operF L (Ar.optsF L L.length 0 Ar.av0').2.1 (Ar.optsF L L.length 0 Ar.av0').2.2).1 then ((Ar.operF L (Ar.optsF L L.length 0 Ar.av0').2.1 (Ar.optsF L L.length 0 Ar.av0').2.2).2.2, 0, 0) else (Ar.av0', 260, (Ar.operF L (Ar.optsF L L.length 0 Ar.av0').2.1 (Ar.optsF L L.length 0 Ar.av0').2.2).2.1)) else (Ar.av0', 260, (Ar.optsF L L.length 0 Ar.av0').2.1)) := by
      show _ = _
      unfold Ar.readF
      rw [if_neg hbig]
    obtain ⟨Y, hY⟩ : ∃ Y, Y = Ar.optsF L L.length 0 Ar.av0' := ⟨_, rfl⟩
    rw [← hY] at HYd f1 f2 f3
    have HY : Hid _ := hY
    have HF1 : Hid (Y.2.2.sc.length ≤ L.length) := f1
    have HF2 : Hid (Y.2.2.nm = []) := f2
    have HF3 : Hid (Y.1 = true → Y.2.1 ≤ L.length) := f3
    have HZ : Hid _ := hz
    have HS0 : Hid _ := hs0
    have hLl : L.length ≤ 65536 := by omega
    clear f1 f2 f3 hY hz hs0 hbig
    go_enter Try.func11, Try.ntmps11
    go_upto_block 0 with fail
    go_cut [] (fun wx => Hid (RrM w0 (w.heap.size + 1) al cl L Y wx))
    case first =>
      go_wp2_with fail
      go_loopg [6] L.length (fun n _ wr => ∃ (a1 : Nat) (b1 : Int) (x1 : Ar.Av) (vs1 : Value), Hid (Ar.RrI L Y n a1 b1 x1) ∧ Hid (RfM w0 (w.heap.size + 1) (w.heap.size + 1) al cl L a1 b1 x1 vs1 (.slice none 0 0) wr))
      case atStart => exact ⟨0, -1, Ar.av0', .slice none 0 0, .inl ⟨rfl, by omega, Nat.zero_le _, Nat.zero_le _, HY.out⟩, HI.out⟩
      case round =>
        clear HI HY
        obtain ⟨a1, b1, x1, vs1, HE, HR⟩ := hrel
        have g1 : wr.cell? ⟨w.heap.size + 1, 1, none⟩ = some (.int .i64 (a1 : Int)) := HR.out.cell 1
        have g2 : wr.cell? ⟨w.heap.size + 1, 2, none⟩ = some (.int .i64 b1) := HR.out.cell 2
        rcases HE.out with ⟨rfl, hn, ha, hsc, hy⟩ | ⟨hy1, hy2⟩
        · have HE1 : Hid _ := hy
          clear hy HE
          by_cases hlt : a1 < L.length
          · have hd2 : (a1 : Int) < (L.length : Int) := by omega
            obtain ⟨m, rfl⟩ : ∃ m, gk = m + 1 := ⟨gk - 1, by omega⟩
            obtain ⟨bb, off, rfl, hbb, d0⟩ := HR.out.ar.cells a1 hlt
            have hlz := HZ.out a1 hlt
            have HV : Hid (L.getD a1 (Ar.bs []) = L[a1]'hlt) := by show _ = _; rw [List.getD_eq_getElem?_getD, List.getElem?_eq_getElem hlt]; rfl
            generalize L[a1]'hlt = v at *
            have HE2 : Hid (Y = if v.data.toList = [45, 45] then (true, a1 + 1, x1) else if v.data.toList.head? ≠ some 45 ∨ v.data.toList = [45] then (true, a1, x1) else if (Ar.optionF L (v.data.toList.drop 1) a1 x1).1 then Ar.optsF L m ((Ar.optionF L (v.data.toList.drop 1) a1 x1).2.1 + 1) (Ar.optionF L (v.data.toList.drop 1) a1 x1).2.2 else (false, (Ar.optionF L (v.data.toList.drop 1) a1 x1).2.1, (Ar.optionF L (v.data.toList.drop 1) a1 x1).2.2)) := by
              show _ = _
              rw [HE1.out, Ar.optsF, if_neg (by omega)]
              dsimp only
              rw [HV.out]
            clear HE1 HV
            have hw : IntKind.i64.wrap ((a1 : Int) + 1) = (a1 : Int) + 1 := by rw [IntKind.wrap_i64]; omega
            by_cases q1 : v.data.toList = [45, 45]
            · have hq : (v.toList == [45, 45]) = true := by rw [Lib.toList_data, q1]; rfl
              have HY2 : Hid (Y = (true, a1 + 1, x1)) := by show _ = _; rw [HE2.out, if_pos q1]
              have fr1 := HR.out.free 1
              have HR2 : Hid (RfM w0 (w.heap.size + 1) (w.heap.size + 1) (some ⟨bb, off, none⟩) cl L (a1 + 1) (-1) x1 vs1 (.slice none 0 0) (wr.setCell ⟨w.heap.size + 1, 1, none⟩ (.int .i64 ((a1 : Int) + 1)))) := HR.out.set 1 _ (at2 := a1 + 1) rfl rfl rfl
              clear HE2 q1 HR
              go_wp2_with fail
              go_meet
              case rel => exact ⟨_, _, _, _, HR2.out, .inl ⟨by rw [HY2.out], by rw [HY2.out], rfl, by rw [HY2.out]⟩⟩
            · have hq : (v.toList == [45, 45]) = false := by rw [Lib.toList_data, beq_eq_false_iff_ne]; exact q1
              cases hv : v.data.toList with
              | nil =>
                have h1 : (v.toList == [45]) = false := by rw [Lib.toList_data, hv]; rfl
                have h2 : v.toList.isEmpty = true := by rw [Lib.toList_data, hv]; rfl
                have HY2 : Hid (Y = (true, a1, x1)) := by show _ = _; rw [HE2.out, if_neg q1, if_pos (.inl (by rw [hv]; decide))]
                clear HE2 hv q1
                go_wp2_with fail
                go_meet
                case rel => exact ⟨_, _, _, _, HR.out, .inl ⟨by rw [HY2.out], by rw [HY2.out], rfl, by rw [HY2.out]⟩⟩
              | cons c t =>
                have hv0 : 0 < v.size := by rw [← Ar.szL, hv]; simp
                have hc0 : v[0] = c := by
                  have : v.data.toList[0]'(by rw [Ar.szL]; exact hv0) = c := by simp [hv]
                  exact this
                have h2 : v.toList.isEmpty = false := by rw [Lib.toList_data, hv]; rfl
                by_cases hc : c = 45
                · cases ht : t with
                  | nil =>
                    have h1 : (v.toList == [45]) = true := by rw [Lib.toList_data, hv, hc, ht]; rfl
                    have HY2 : Hid (Y = (true, a1, x1)) := by show _ = _; rw [HE2.out, if_neg q1, if_pos (.inr (by rw [hv, hc, ht]))]
                    clear HE2 hv q1 hc0
                    go_wp2_with fail
                    go_meet
                    case rel => exact ⟨_, _, _, _, HR.out, .inl ⟨by rw [HY2.out], by rw [HY2.out], rfl, by rw [HY2.out]⟩⟩
                  | cons c2 r =>
                    have hv' : v.data.toList = 45 :: c2 :: r := by rw [hv, hc, ht]
                    have h1 : (v.toList == [45]) = false := by rw [Lib.toList_data, hv', beq_eq_false_iff_ne]; simp
                    have h3 : ((v[0].toNat : Int) == 45) = true := by rw [hc0, hc]; rfl
                    have hv1 : 1 < v.size := by rw [← Ar.szL, hv']; simp
                    have hc1 : v[1] = c2 := by
                      have : v.data.toList[1]'(by rw [Ar.szL]; exact hv1) = c2 := by simp [hv']
                      exact this
                    have HE3 : Hid (Y = if (Ar.optionF L (c2 :: r) a1 x1).1 then Ar.optsF L m ((Ar.optionF L (c2 :: r) a1 x1).2.1 + 1) (Ar.optionF L (c2 :: r) a1 x1).2.2 else (false, (Ar.optionF L (c2 :: r) a1 x1).2.1, (Ar.optionF L (c2 :: r) a1 x1).2.2)) := by
                      show _ = _
                      rw [HE2.out, if_neg q1, if_neg (by rw [hv']; simp), hv']
                      rfl
                    have HFn : Hid _ := Ar.option_fine L (c2 :: r) a1 x1 hlt
                    have HN : Hid (∀ (a2 : Nat) (b2 : Int) (x2 : Ar.Av), Ar.Aft (Ar.optionF L (c2 :: r) a1 x1) a2 b2 x2 → Ar.RrI L Y m a2 b2 x2) := fun a2 b2 x2 hA => Ar.RrI.next hn hsc HFn.out HE3.out hA
                    clear HE2 HE3 HFn hv ht hc hc0
                    by_cases hc2 : c2 = 45
                    · have h4 : ((v[1].toNat : Int) == 45) = true := by rw [hc1, hc2]; rfl
                      have HC : Hid (Calls Try.prog 27 #[.pointer (some ⟨w.heap.size + 1, 0, none⟩), .string v] wr _) := rlong_any HR.out v hlz r (by rw [hv', hc2]) hlt (by omega)
                      have HO : Hid (Ar.optionF L (c2 :: r) a1 x1 = Ar.longF r a1 x1) := by show _ = _; unfold Ar.optionF; rw [if_pos (by rw [hc2]; rfl)]; rfl
                      clear hv' hc1 hc2 q1
                      rw [HO.out] at HN
                      go_wp2_with fail
                      refine Calls.mono HC.out ?_
                      rintro e w2 ⟨rfl, a2, b2, x2, vs2, hr2, hA⟩
                      have HR2 : Hid _ := hr2
                      have HA : Hid _ := HN.out a2 b2 x2 hA
                      clear hr2 hA HN HC HR
                      go_wp2_with fail
                      go_roundg m
                      case measure => omega
                      case rel => exact ⟨a2, b2, x2, vs2, HA, HR2⟩
                    · have h4 : ((v[1].toNat : Int) == 45) = false := by rw [hc1]; exact Ar.byte_no hc2
                      have HC : Hid (Calls Try.prog 28 #[.pointer (some ⟨w.heap.size + 1, 0, none⟩), .string v] wr _) := rletters_any HR.out v hlz (by omega) hlt (by omega)
                      have HO : Hid (Ar.optionF L (c2 :: r) a1 x1 = Ar.lettersF L (v.data.toList.drop 1) a1 x1) := by show _ = _; rw [hv']; unfold Ar.optionF; rw [if_neg (by simp [hc2])]; rfl
                      clear hv' hc1 hc2 q1
                      rw [HO.out] at HN
                      go_wp2_with fail
                      refine Calls.mono HC.out ?_
                      rintro e w2 ⟨rfl, a2, b2, x2, vs2, hr2, hA⟩
                      have HR2 : Hid _ := hr2
                      have HA : Hid _ := HN.out a2 b2 x2 hA
                      clear hr2 hA HN HC HR
                      go_wp2_with fail
                      go_roundg m
                      case measure => omega
                      case rel => exact ⟨a2, b2, x2, vs2, HA, HR2⟩
                · have h1 : (v.toList == [45]) = false := by rw [Lib.toList_data, hv, beq_eq_false_iff_ne]; intro e; exact hc (List.cons.inj e).1
                  have h3 : ((v[0].toNat : Int) == 45) = false := by rw [hc0]; exact Ar.byte_no hc
                  have HY2 : Hid (Y = (true, a1, x1)) := by show _ = _; rw [HE2.out, if_neg q1, if_pos (.inl (by rw [hv]; simp [hc]))]
                  clear HE2 hv q1 hc0
                  go_wp2_with fail
                  go_meet
                  case rel => exact ⟨_, _, _, _, HR.out, .inl ⟨by rw [HY2.out], by rw [HY2.out], rfl, by rw [HY2.out]⟩⟩
          · have hd2 : ¬ (a1 : Int) < (L.length : Int) := by omega
            have HY2 : Hid (Y = (true, a1, x1)) := by
              show _ = _
              rw [HE1.out]
              cases gk with
              | zero => rfl
              | succ m => rw [Ar.optsF, if_pos (by omega)]
            clear HE1
            go_wp2_with fail
            go_meet
            case rel => exact ⟨_, _, _, _, HR.out, .inl ⟨by rw [HY2.out], by rw [HY2.out], rfl, by rw [HY2.out]⟩⟩
        · have HY1 : Hid _ := hy1
          have HY2 : Hid _ := hy2
          have hneg : ¬ (b1 < 0) := by omega
          clear hy1 hy2 HE
          by_cases hd2 : (a1 : Int) < (L.length : Int)
          · go_wp2_with fail
            go_meet
            case rel => exact ⟨_, _, _, _, HR.out, .inr ⟨HY1.out, HY2.out⟩⟩
          · go_wp2_with fail
            go_meet
            case rel => exact ⟨_, _, _, _, HR.out, .inr ⟨HY1.out, HY2.out⟩⟩
    case rest =>
      obtain ⟨a2, b2, x2, vs2, hr, hE⟩ := hcut.out
      clear hcut HI HY
      rename World => wc
      have HR : Hid _ := hr
      have HBw : Hid (Below w.heap.size w wc) := HB0.out.trans (hr.below.mono (by omega))
      have hb9 : wc.heap[w.heap.size]? = some (.cells #[.bool false, .bool false, .bool false, .bool false, .string ⟨#[]⟩, .slice none 0 0, .slice none 0 0] 28) := (hr.below.block _ (by omega)).trans HBx.out
      clear hr
      obtain ⟨yb, ya, yx⟩ := Y
      dsimp only at *
      have q1 : ¬ (w.heap.size + 1 = w.heap.size) := by omega
      have q2 : ¬ (w.heap.size = w.heap.size + 1) := by omega
      rcases hE with ⟨hy1, hE2, rfl, hE3⟩ | ⟨hy1, rfl⟩
      · dsimp only at hy1 hE2 hE3
        subst hy1 hE2 hE3
        have f1 := HF1.out
        have hnm := HF2.out
        have ha := HF3.out rfl
        have HY3 : Hid (Ar.readF L = if (Ar.operF L a2 x2).1 then ((Ar.operF L a2 x2).2.2, 0, 0) else (Ar.av0', 260, (Ar.operF L a2 x2).2.1)) := HYd.out
        obtain ⟨sa, sc, rfl⟩ := own_slice HR.out.rs
        have g1 : wc.cell? ⟨w.heap.size + 1, 1, none⟩ = some (.int .i64 (a2 : Int)) := HR.out.cell 1
        have g2 : wc.cell? ⟨w.heap.size + 1, 2, none⟩ = some (.int .i64 (-1)) := HR.out.cell 2
        have g8 : wc.cell? ⟨w.heap.size + 1, 8, none⟩ = some (.slice sa x2.sc.length sc) := HR.out.cell 8
        have HB9 : Hid _ := hb9
        have HNM : Hid _ := hnm
        clear HYd HF1 HF2 HF3 hb9 hnm
        by_cases hgood : x2.sc = [] ∧ ¬ a2 < L.length
        · obtain ⟨hsc, hlt⟩ := hgood
          have hl0 : ((x2.sc.length : Int) == 0) = true := by rw [hsc]; rfl
          have hd2 : (L.length : Int) ≤ (a2 : Int) := by omega
          have haL : a2 = L.length := by omega
          have HY2 : Hid (Ar.readF L = (Ar.av0', 260, L.length)) := by show _ = _; rw [HY3.out, show Ar.operF L a2 x2 = (false, a2, x2) by rw [Ar.operF, if_pos hsc, if_neg hlt], haL]; rfl
          have HQ : Hid (∀ W, Below w.heap.size w W → ReadIs L w (.returned (.tuple #[.agg (avA Ar.av0' none 0 none 0), .int .i64 260, .int .i64 (L.length : Int)])) W) := fun W hb => ⟨none, 0, none, 0, by rw [HY2.out], by rw [HY2.out]; exact cop_nil _ _, hb⟩
          have fz : ∀ j, wc.frozen? ⟨w.heap.size, j, none⟩ = false := fun j => free_row HB9.out j
          have k0 : wc.cell? ⟨w.heap.size, 0, none⟩ = some (.bool false) := cell_of_row _ _ _ _ _ _ HB9.out
          have f00 := fz 0
          have k1 : wc.cell? ⟨w.heap.size, 1, none⟩ = some (.bool false) := cell_of_row _ _ _ _ _ _ HB9.out
          have f10 := fz 1
          have k2 : wc.cell? ⟨w.heap.size, 2, none⟩ = some (.bool false) := cell_of_row _ _ _ _ _ _ HB9.out
          have f20 := fz 2
          have k3 : wc.cell? ⟨w.heap.size, 3, none⟩ = some (.bool false) := cell_of_row _ _ _ _ _ _ HB9.out
          have f30 := fz 3
          have k4 : wc.cell? ⟨w.heap.size, 4, none⟩ = some (.string ⟨#[]⟩) := cell_of_row _ _ _ _ _ _ HB9.out
          have f40 := fz 4
          have k5 : wc.cell? ⟨w.heap.size, 5, none⟩ = some (.slice none 0 0) := cell_of_row _ _ _ _ _ _ HB9.out
          have f50 := fz 5
          have k6 : wc.cell? ⟨w.heap.size, 6, none⟩ = some (.slice none 0 0) := cell_of_row _ _ _ _ _ _ HB9.out
          have f60 := fz 6
          have HPX : Hid ((((((((wc.setCell ⟨w.heap.size, 0, none⟩ (.bool false)).setCell ⟨w.heap.size, 1, none⟩ (.bool false)).setCell ⟨w.heap.size, 2, none⟩ (.bool false)).setCell ⟨w.heap.size, 3, none⟩ (.bool false)).setCell ⟨w.heap.size, 4, none⟩ (.string ⟨#[]⟩)).setCell ⟨w.heap.size, 5, none⟩ (.slice none 0 0)).setCell ⟨w.heap.size, 6, none⟩ (.slice none 0 0)).heap[w.heap.size]? = some (.cells #[.bool false, .bool false, .bool false, .bool false, .string ⟨#[]⟩, .slice none 0 0, .slice none 0 0] 28)) := put7 HB9.out (.bool false) (.bool false) (.bool false) (.bool false) (.string ⟨#[]⟩) (.slice none 0 0) (.slice none 0 0)
          clear fz hsc haL HY3 HR
          go_wp2_with fail
          exact bodyPost_ret (results_cell_two (p := 2) (u := 3) (v := 4) rfl _ _ w.heap.size _ _ _ _ rfl HPX.out Try.underlying28 rfl (by kernel_rfl)) rfl (HQ.out _ (((((((HBw.out.setCell (p := ⟨w.heap.size, 0, none⟩) (Nat.le_refl _) _).setCell (p := ⟨w.heap.size, 1, none⟩) (Nat.le_refl _) _).setCell (p := ⟨w.heap.size, 2, none⟩) (Nat.le_refl _) _).setCell (p := ⟨w.heap.size, 3, none⟩) (Nat.le_refl _) _).setCell (p := ⟨w.heap.size, 4, none⟩) (Nat.le_refl _) _).setCell (p := ⟨w.heap.size, 5, none⟩) (Nat.le_refl _) _).setCell (p := ⟨w.heap.size, 6, none⟩) (Nat.le_refl _) _))
        go_upto_if 81 with fail
        go_cut [] (fun wx => Hid (RrN w0 (w.heap.size + 1) al cl L a2 x2 wx))
        case first =>
          by_cases hsc : x2.sc = []
          · have hl0 : ((x2.sc.length : Int) == 0) = true := by rw [hsc]; rfl
            by_cases hlt : a2 < L.length
            · have hd2 : ¬ (L.length : Int) ≤ (a2 : Int) := by omega
              have hd3 : (a2 : Int) < (L.length : Int) := by omega
              have hw : IntKind.i64.wrap ((a2 : Int) + 1) = (a2 : Int) + 1 := by rw [IntKind.wrap_i64]; omega
              obtain ⟨bb, off, rfl, hbb, d0⟩ := HR.out.ar.cells a2 hlt
              have HO : Hid (Ar.operF L a2 x2 = (true, a2 + 1, { ({ x2 with sc := x2.sc ++ [(false, L[a2]'hlt)] } : Ar.Av) with nm := L.drop (a2 + 1) })) := by
                show _ = _
                rw [Ar.operF, if_pos hsc, if_pos hlt, List.getD_eq_getElem?_getD, List.getElem?_eq_getElem hlt, hsc]; rfl
              generalize L[a2]'hlt = v at *
              have HC : Hid (Calls Try.prog 29 #[.pointer (some ⟨w.heap.size + 1, 0, none⟩), .bool false, .string v] wc _) := rpiece_any HR.out false v (by omega)
              clear hsc HR
              go_wp2_with fail
              refine Calls.mono HC.out ?_
              rintro e w2 ⟨rfl, vs3, hr2⟩
              have g1 : w2.cell? ⟨w.heap.size + 1, 1, none⟩ = some (.int .i64 (a2 : Int)) := hr2.cell 1
              have fr1 := hr2.free 1
              have HR2 : Hid (RfM w0 (w.heap.size + 1) (w.heap.size + 1) (some ⟨bb, off, none⟩) cl L (a2 + 1) (-1) { x2 with sc := x2.sc ++ [(false, v)] } vs3 (.slice none 0 0) (w2.setCell ⟨w.heap.size + 1, 1, none⟩ (.int .i64 ((a2 : Int) + 1)))) := hr2.set 1 _ (at2 := a2 + 1) rfl rfl rfl
              clear hr2 HC
              go_wp2_with fail
              go_meet
              case rel => exact ⟨_, _, _, HR2.out, HNM.out, hlt, HO.out⟩
            · exact absurd ⟨hsc, hlt⟩ hgood
          · have hl0 : ((x2.sc.length : Int) == 0) = false := by
              rw [beq_eq_false_iff_ne]
              intro e
              exact hsc (List.length_eq_zero_iff.1 (by omega))
            have HO : Hid (Ar.operF L a2 x2 = (true, a2, { x2 with nm := L.drop a2 })) := by show _ = _; rw [Ar.operF, if_neg hsc]
            clear hsc
            go_wp2_with fail
            go_meet
            case rel => exact ⟨_, _, _, HR.out, HNM.out, ha, HO.out⟩
        case rest =>
          obtain ⟨a3, x3, vs3, hr3, hnm3, ha3, ho3⟩ := hcut.out
          clear hcut HR HNM g1 g2 g8 HB9 HBw
          rename World => wd
          have HY2 : Hid (Ar.readF L = ({ x3 with nm := L.drop a3 }, 0, 0)) := by show _ = _; rw [HY3.out, ho3]; rfl
          have HR3 : Hid (RfM w0 (w.heap.size + 1) (w.heap.size + 1) al cl L a3 (-1) { x3 with nm := (L.drop a3).take (a3 - a3) } vs3 (.slice none 0 0) wd) := by
            rw [Nat.sub_self, List.take_zero, show ({ x3 with nm := [] } : Ar.Av) = x3 by rw [← hnm3]]
            exact hr3
          have g1 : wd.cell? ⟨w.heap.size + 1, 1, none⟩ = some (.int .i64 (a3 : Int)) := hr3.cell 1
          obtain ⟨i0, hi0, hz0, hz1, hz2⟩ := info_parts Try.infoStr
          clear hr3 HY3 hnm3 ho3
          go_wp2_with fail
          go_loopw [7] (fun iv wr => ∃ (k : Nat) (vn3 : Value), iv = .int .i64 (k : Int) ∧ a3 ≤ k ∧ k ≤ L.length ∧ Hid (RfM w0 (w.heap.size + 1) (w.heap.size + 1) al cl L a3 (-1) { x3 with nm := (L.drop a3).take (k - a3) } vs3 vn3 wr)) (fun iv _ => L.length - (intOf iv).toNat)
          case atStart => exact ⟨a3, _, rfl, Nat.le_refl _, ha3, HR3⟩
          case round =>
            clear HR3 g1
            obtain ⟨k, vn3, rfl, hak, hkL, HR4⟩ := hrel
            by_cases hk : k < L.length
            · have hk2 : (k : Int) < (L.length : Int) := by omega
              have hwk : IntKind.i64.wrap ((k : Int) + 1) = (k : Int) + 1 := by rw [IntKind.wrap_i64]; omega
              have hTk : Hid ((L.drop a3).take (k - a3) ++ [L[k]'hk] = (L.drop a3).take (k + 1 - a3)) := by
                show _ = _
                rw [show k + 1 - a3 = (k - a3) + 1 by omega, List.take_succ_eq_append_getElem (by rw [List.length_drop]; omega)]
                congr 2
                rw [List.getElem_drop]
                congr 1
                omega
              obtain ⟨bb, off, rfl, hbb, d0⟩ := HR4.out.ar.cells k hk
              have hlz := HZ.out k hk
              generalize L[k]'hk = v at *
              obtain ⟨NM2, hNM2⟩ : ∃ NM2, NM2 = (L.drop a3).take (k + 1 - a3) := ⟨_, rfl⟩
              rw [← hNM2] at hTk
              have HN2 : Hid _ := hNM2
              clear hNM2
              have hnl : ((L.drop a3).take (k - a3)).length ≤ 65536 := by rw [List.length_take, List.length_drop]; omega
              generalize (L.drop a3).take (k - a3) = NM at *
              have g9 : wr.cell? ⟨w.heap.size + 1, 9, none⟩ = some vn3 := HR4.out.cell 9
              have fr9 := HR4.out.free 9
              have hlt4 : w.heap.size + 1 < wr.heap.size := HR4.out.lt
              have Hb : Hid (∀ (o : Obj) (w3 : World) (q c3 : Nat), (wr.drew.alloc o).grownBy w3 vn3.ownBlock → w3.ownsRow (w.heap.size + 1 + 1) 9 1 (.slice (some ⟨q, 0, none⟩) (NM.length + 1) c3) (NM.length + 1) (NM.map Value.string ++ [.string v]) → (vn3.ownBlock = some q ∨ q = wr.heap.size + 1) → RfM w0 (w.heap.size + 1) (w.heap.size + 1) (some ⟨bb, off, none⟩) cl L a3 (-1) { x3 with nm := NM2 } vs3 (.slice (some ⟨q, 0, none⟩) (NM.length + 1) c3) (w3.setCell ⟨w.heap.size + 1, 9, none⟩ (.slice (some ⟨q, 0, none⟩) (NM.length + 1) c3)) ∧ w3.cell? ⟨w.heap.size + 1, 9, none⟩ = some vn3 ∧ w3.frozen? ⟨w.heap.size + 1, 9, none⟩ = false) := fun o w3 q c3 hgr ho hat => by
                have hs3 := hgr.size
                have hg2 : wr.grownBy w3 vn3.ownBlock := ⟨hgr.os, hgr.tape, hgr.output, by simp at hs3; omega, fun j hj hn => (hgr.block j (by simp; omega) hn).trans (heap_alloc_old wr.drew o hj)⟩
                have h3 : w3.heap[w.heap.size + 1]? = _ := (hg2.block _ hlt4 (fun e => by have := (World.ownsRow.lt HR4.out.rn _ e.symm).1; omega)).trans HR4.out.rd
                have hgn := HR4.out.grownN (l := [v]) hg2 ho (fun k' e => by
                  cases e
                  rcases hat with q' | q'
                  · exact .inl q'
                  · right; show wr.heap.size ≤ q; omega)
                rw [← hTk.out]
                exact ⟨hgn, cell_of_row _ _ _ _ _ _ h3, free_row h3 9⟩
              go_wp2_with fail
              go_region_law (refine step_append_lies _ rfl (.tmp 123) (.tmp 128) 22 rfl (w.heap.size + 1 + 1) 9 i0 (.string ⟨#[]⟩) 1 16 Try.underlying22 hi0 hz0 hz1 hz2 rfl (by decide) vn3 NM.length (NM.map Value.string) (by simp [Act.eval]) (HR4.out.rn.drew.alloc _) ⟨wr.drew.heap.size, 0, none⟩ 1 1 [.string v] (by simp [Act.eval]) rfl (strs_one wr.drew v 9 (by omega)).news (one_string v) (by decide) (by unfold maxLen; omega) (by omega) (by have := HR4.out.lt; simp; omega) _ rfl ?_; intro q c3 w3 ho hgr hat hlt3; obtain ⟨c3', s2, g2⟩ := Hb.out _ w3 q _ hgr ho (by simpa using hat); have HC3 : Hid _ := c3'; clear c3' ho hgr hat)
              all_goals
                go_wp2_with fail
                go_roundw
                case rel =>
                  refine ⟨k + 1, .slice (some ⟨q, 0, none⟩) (NM.length + 1) c3, by simp, by omega, by omega, ?_⟩
                  rw [← HN2.out]
                  exact HC3
                case measure => simp only [intOf]; omega
            · have hk2 : ¬ (k : Int) < (L.length : Int) := by omega
              have hTk : (L.drop a3).take (k - a3) = L.drop a3 := List.take_of_length_le (by rw [List.length_drop]; omega)
              rw [hTk] at HR4
              obtain ⟨x4, hx4⟩ : ∃ x4, x4 = ({ x3 with nm := L.drop a3 } : Ar.Av) := ⟨_, rfl⟩
              rw [← hx4] at HR4 HY2
              have HBw : Hid (Below w.heap.size w wr) := HB0.out.trans (HR4.out.below.mono (by omega))
              have HB9 : Hid (wr.heap[w.heap.size]? = some (.cells #[.bool false, .bool false, .bool false, .bool false, .string ⟨#[]⟩, .slice none 0 0, .slice none 0 0] 28)) := (HR4.out.below.block _ (by omega)).trans HBx.out
              clear hTk hx4
              obtain ⟨sa, sc, rfl⟩ := own_slice HR4.out.rs
              obtain ⟨na, nc, rfl⟩ := own_slice HR4.out.rn
              have hrs := HR4.out.rs
              have hrn := HR4.out.rn
              have r0 : wr.cell? ⟨w.heap.size + 1, 3, none⟩ = some (.bool x4.q) := HR4.out.cell 3
              have r1 : wr.cell? ⟨w.heap.size + 1, 4, none⟩ = some (.bool x4.e) := HR4.out.cell 4
              have r2 : wr.cell? ⟨w.heap.size + 1, 5, none⟩ = some (.bool x4.s) := HR4.out.cell 5
              have r3 : wr.cell? ⟨w.heap.size + 1, 6, none⟩ = some (.bool x4.i) := HR4.out.cell 6
              have r4 : wr.cell? ⟨w.heap.size + 1, 7, none⟩ = some (.string x4.sf) := HR4.out.cell 7
              have r5 : wr.cell? ⟨w.heap.size + 1, 8, none⟩ = some (.slice sa x4.sc.length sc) := HR4.out.cell 8
              have r6 : wr.cell? ⟨w.heap.size + 1, 9, none⟩ = some (.slice na x4.nm.length nc) := HR4.out.cell 9
              have fz : ∀ j, wr.frozen? ⟨w.heap.size, j, none⟩ = false := fun j => free_row HB9.out j
              have k0 : wr.cell? ⟨w.heap.size, 0, none⟩ = some (.bool false) := cell_of_row _ _ _ _ _ _ HB9.out
              have f00 := fz 0
              have k1 : wr.cell? ⟨w.heap.size, 1, none⟩ = some (.bool false) := cell_of_row _ _ _ _ _ _ HB9.out
              have f10 := fz 1
              have k2 : wr.cell? ⟨w.heap.size, 2, none⟩ = some (.bool false) := cell_of_row _ _ _ _ _ _ HB9.out
              have f20 := fz 2
              have k3 : wr.cell? ⟨w.heap.size, 3, none⟩ = some (.bool false) := cell_of_row _ _ _ _ _ _ HB9.out
              have f30 := fz 3
              have k4 : wr.cell? ⟨w.heap.size, 4, none⟩ = some (.string ⟨#[]⟩) := cell_of_row _ _ _ _ _ _ HB9.out
              have f40 := fz 4
              have k5 : wr.cell? ⟨w.heap.size, 5, none⟩ = some (.slice none 0 0) := cell_of_row _ _ _ _ _ _ HB9.out
              have f50 := fz 5
              have k6 : wr.cell? ⟨w.heap.size, 6, none⟩ = some (.slice none 0 0) := cell_of_row _ _ _ _ _ _ HB9.out
              have f60 := fz 6
              have HPX : Hid ((((((((wr.setCell ⟨w.heap.size, 0, none⟩ (.bool x4.q)).setCell ⟨w.heap.size, 1, none⟩ (.bool x4.e)).setCell ⟨w.heap.size, 2, none⟩ (.bool x4.s)).setCell ⟨w.heap.size, 3, none⟩ (.bool x4.i)).setCell ⟨w.heap.size, 4, none⟩ (.string x4.sf)).setCell ⟨w.heap.size, 5, none⟩ (.slice sa x4.sc.length sc)).setCell ⟨w.heap.size, 6, none⟩ (.slice na x4.nm.length nc)).heap[w.heap.size]? = some (.cells #[.bool x4.q, .bool x4.e, .bool x4.s, .bool x4.i, .string x4.sf, .slice sa x4.sc.length sc, .slice na x4.nm.length nc] 28)) := put7 HB9.out (.bool x4.q) (.bool x4.e) (.bool x4.s) (.bool x4.i) (.string x4.sf) (.slice sa x4.sc.length sc) (.slice na x4.nm.length nc)
              have HQ : Hid (ReadIs L w (.returned (.tuple #[.agg (avA x4 sa sc na nc), .int .i64 0, .int .i64 0])) (((((((wr.setCell ⟨w.heap.size, 0, none⟩ (.bool x4.q)).setCell ⟨w.heap.size, 1, none⟩ (.bool x4.e)).setCell ⟨w.heap.size, 2, none⟩ (.bool x4.s)).setCell ⟨w.heap.size, 3, none⟩ (.bool x4.i)).setCell ⟨w.heap.size, 4, none⟩ (.string x4.sf)).setCell ⟨w.heap.size, 5, none⟩ (.slice sa x4.sc.length sc)).setCell ⟨w.heap.size, 6, none⟩ (.slice na x4.nm.length nc))) := by
                have key : ∀ (e : TypeId) (sz : Nat) (v : Value) (n : Nat) (xs : List Value), wr.ownsRow (w.heap.size + 1 + 1) e sz v n xs → (((((((wr.setCell ⟨w.heap.size, 0, none⟩ (.bool x4.q)).setCell ⟨w.heap.size, 1, none⟩ (.bool x4.e)).setCell ⟨w.heap.size, 2, none⟩ (.bool x4.s)).setCell ⟨w.heap.size, 3, none⟩ (.bool x4.i)).setCell ⟨w.heap.size, 4, none⟩ (.string x4.sf)).setCell ⟨w.heap.size, 5, none⟩ (.slice sa x4.sc.length sc)).setCell ⟨w.heap.size, 6, none⟩ (.slice na x4.nm.length nc)).ownsRow w.heap.size e sz v n xs := fun e sz v n xs ho => by
                  have hne : blk v ≠ some w.heap.size := fun q => by have := (ho.lt _ q).1; omega
                  exact own_lo (own_set (own_set (own_set (own_set (own_set (own_set (own_set ho _ _ _ hne) _ _ _ hne) _ _ _ hne) _ _ _ hne) _ _ _ hne) _ _ _ hne) _ _ _ hne) (by omega)
                refine ⟨sa, sc, na, nc, by rw [HY2.out]; rfl, ?_, (((((((HBw.out.setCell (p := ⟨w.heap.size, 0, none⟩) (Nat.le_refl _) _).setCell (p := ⟨w.heap.size, 1, none⟩) (Nat.le_refl _) _).setCell (p := ⟨w.heap.size, 2, none⟩) (Nat.le_refl _) _).setCell (p := ⟨w.heap.size, 3, none⟩) (Nat.le_refl _) _).setCell (p := ⟨w.heap.size, 4, none⟩) (Nat.le_refl _) _).setCell (p := ⟨w.heap.size, 5, none⟩) (Nat.le_refl _) _).setCell (p := ⟨w.heap.size, 6, none⟩) (Nat.le_refl _) _)⟩
                rw [HY2.out]
                exact ⟨(key _ _ _ _ _ hrs), (key _ _ _ _ _ hrn), HR4.out.ne⟩
              clear fz hrs hrn HY2 HR4 HBw
              go_wp2_with fail
              all_goals
                exact bodyPost_ret (results_cell_two (p := 2) (u := 3) (v := 4) rfl _ _ w.heap.size _ _ _ _ rfl HPX.out Try.underlying28 rfl (by kernel_rfl)) rfl HQ.out
      · dsimp only at hy1
        subst hy1
        have HY2 : Hid (Ar.readF L = (Ar.av0', 260, ya)) := HYd.out
        have g2 : wc.cell? ⟨w.heap.size + 1, 2, none⟩ = some (.int .i64 (ya : Int)) := HR.out.cell 2
        have HQ : Hid (∀ W, Below w.heap.size w W → ReadIs L w (.returned (.tuple #[.agg (avA Ar.av0' none 0 none 0), .int .i64 260, .int .i64 (ya : Int)])) W) := fun W hb => ⟨none, 0, none, 0, by rw [HY2.out], by rw [HY2.out]; exact cop_nil _ _, hb⟩
        have HB9 : Hid _ := hb9
        have fz : ∀ j, wc.frozen? ⟨w.heap.size, j, none⟩ = false := fun j => free_row hb9 j
        have k0 : wc.cell? ⟨w.heap.size, 0, none⟩ = some (.bool false) := cell_of_row _ _ _ _ _ _ hb9
        have f00 := fz 0
        have k1 : wc.cell? ⟨w.heap.size, 1, none⟩ = some (.bool false) := cell_of_row _ _ _ _ _ _ hb9
        have f10 := fz 1
        have k2 : wc.cell? ⟨w.heap.size, 2, none⟩ = some (.bool false) := cell_of_row _ _ _ _ _ _ hb9
        have f20 := fz 2
        have k3 : wc.cell? ⟨w.heap.size, 3, none⟩ = some (.bool false) := cell_of_row _ _ _ _ _ _ hb9
        have f30 := fz 3
        have k4 : wc.cell? ⟨w.heap.size, 4, none⟩ = some (.string ⟨#[]⟩) := cell_of_row _ _ _ _ _ _ hb9
        have f40 := fz 4
        have k5 : wc.cell? ⟨w.heap.size, 5, none⟩ = some (.slice none 0 0) := cell_of_row _ _ _ _ _ _ hb9
        have f50 := fz 5
        have k6 : wc.cell? ⟨w.heap.size, 6, none⟩ = some (.slice none 0 0) := cell_of_row _ _ _ _ _ _ hb9
        have f60 := fz 6
        have HPX : Hid ((((((((wc.setCell ⟨w.heap.size, 0, none⟩ (.bool false)).setCell ⟨w.heap.size, 1, none⟩ (.bool false)).setCell ⟨w.heap.size, 2, none⟩ (.bool false)).setCell ⟨w.heap.size, 3, none⟩ (.bool false)).setCell ⟨w.heap.size, 4, none⟩ (.string ⟨#[]⟩)).setCell ⟨w.heap.size, 5, none⟩ (.slice none 0 0)).setCell ⟨w.heap.size, 6, none⟩ (.slice none 0 0)).drew.heap[w.heap.size]? = some (.cells #[.bool false, .bool false, .bool false, .bool false, .string ⟨#[]⟩, .slice none 0 0, .slice none 0 0] 28)) := put7d HB9.out (.bool false) (.bool false) (.bool false) (.bool false) (.string ⟨#[]⟩) (.slice none 0 0) (.slice none 0 0)
        clear hb9 HYd fz HF1 HF2 HF3 HR
        go_wp2_with fail
        go_region
        go_wp2_with fail
        all_goals
          exact bodyPost_ret (results_cell_two (p := 2) (u := 3) (v := 4) rfl _ _ w.heap.size _ _ _ _ rfl HPX.out Try.underlying28 rfl (by kernel_rfl)) rfl (HQ.out _ (((((((HBw.out.setCell (p := ⟨w.heap.size, 0, none⟩) (Nat.le_refl _) _).setCell (p := ⟨w.heap.size, 1, none⟩) (Nat.le_refl _) _).setCell (p := ⟨w.heap.size, 2, none⟩) (Nat.le_refl _) _).setCell (p := ⟨w.heap.size, 3, none⟩) (Nat.le_refl _) _).setCell (p := ⟨w.heap.size, 4, none⟩) (Nat.le_refl _) _).setCell (p := ⟨w.heap.size, 5, none⟩) (Nat.le_refl _) _).setCell (p := ⟨w.heap.size, 6, none⟩) (Nat.le_refl _) _).drew)
end Go.Proofs.Ytfkdnojoammlcaa
