/- What args.Read answers. -/
import Derived.Test.YtklcfjakhabbgaaArOr
namespace Go.Proofs.Ytklcfjakhabbgaa
open Go.RowKit

theorem results_cell_two {P : Program} {fn : Func} {p u v : Tmp} {ty : TypeId} (h : fn.results = #[.cell p ty, .tmp u, .tmp v]) (tmps : Array Value) (w : World) (g : Nat) (t : TypeId) (cs : Array Value) (fr : Nat × Nat) (d : TypeDesc)
    (hp : tmps.getD p undef = .pointer (some ⟨g, 0, none⟩)) (hg : w.heap[g]? = some (.cells cs t fr))
    (hu : P.underlying ty = some d) (hd : (match d with | .struct _ | .array _ _ => true | _ => false) = true) (hi : (P.info? ty).map (·.size) = some cs.size) :
    (results fn tmps).run P w = .ok (.tuple #[.agg cs, tmps.getD u undef, tmps.getD v undef]) w := by
  have hp' : tmps[p]?.getD undef = .pointer (some ⟨g, 0, none⟩) := by simpa using hp
  simp [results, h, hp', asAddr, run_loadVar_row w g t ty cs fr d hg hu hd hi]

/-- What args.Read answers. -/
theorem drew_heap (w : World) : w.drew.heap = w.heap := rfl
theorem put7d {w : World} {g : Nat} {t : TypeId} {x0 x1 x2 x3 x4 x5 x6 : Value} (h : w.heap[g]? = some (.cells #[x0, x1, x2, x3, x4, x5, x6] t (0, 0))) (y0 y1 y2 y3 y4 y5 y6 : Value) :
    (((((((w.setCell ⟨g, 0, none⟩ y0).setCell ⟨g, 1, none⟩ y1).setCell ⟨g, 2, none⟩ y2).setCell ⟨g, 3, none⟩ y3).setCell ⟨g, 4, none⟩ y4).setCell ⟨g, 5, none⟩ y5).setCell ⟨g, 6, none⟩ y6).drew.heap[g]? = some (.cells #[y0, y1, y2, y3, y4, y5, y6] t (0, 0)) := by
  rw [drew_heap]
  exact put7 h y0 y1 y2 y3 y4 y5 y6
def ReadIs (L : List ByteArray) (w : World) : Ending → World → Prop := fun e w' => ∃ a c b d, e = .returned (.tuple #[.agg (avA (Ar.readF L).1 a c b d), .int .i64 (Ar.readF L).2.1, .int .i64 (Ar.readF L).2.2]) ∧ Cop w.heap.size (Ar.readF L).1 a c b d w' ∧ Below w.heap.size w w'
theorem cop_nil (n : Nat) (w : World) : Cop n Ar.av0' none 0 none 0 w := ⟨World.ownsRow_nil _ _ _ _, World.ownsRow_nil _ _ _ _, fun g e => by cases e⟩
set_option maxRecDepth 100000 in
set_option maxHeartbeats 2000000 in
theorem read_any (L : List ByteArray) (al : Option Addr) (cl : Nat) (w : World) (hL : Strs w al cl L) (haf : ∀ ad : Addr, al = some ad → ad.block < w.heap.size) (hz : ∀ i (hi : i < L.length), (L[i]'hi).size ≤ 2097152) (hm : ∃ m, w.cell? ⟨0, 0, none⟩ = some (.int .i64 m)) (hg0 : 0 < w.heap.size) :
    Calls Try.prog 10 #[.slice al L.length cl] w (ReadIs L w) := by
  have hlen := hL.len
  by_cases hbig : 65536 < L.length
  · have hd : (65536 : Int) < (L.length : Int) := by omega
    have HY : Hid (Ar.readF L = (Ar.av0', 3, 0)) := by show _ = _; unfold Ar.readF; rw [if_pos hbig]
    have HP : Hid (ReadIs L w (.returned (.tuple #[.agg (avA Ar.av0' none 0 none 0), .int .i64 3, .int .i64 0])) (w.alloc (.cells #[.bool false, .bool false, .bool false, .bool false, .string ⟨#[]⟩, .slice none 0 0, .slice none 0 0] 28))) := ⟨none, 0, none, 0, by rw [HY.out]; rfl, by rw [HY.out]; exact cop_nil _ _, alloc_below _ _⟩
    go_enter Try.func10, Try.ntmps10
    go_wp2_with fail
    exact bodyPost_ret (results_cell_two (p := 2) (u := 3) (v := 4) rfl _ _ w.heap.size _ _ _ _ rfl (heap_alloc_new w _) Try.underlying28 rfl (by kernel_rfl)) rfl HP.out
  · have hd : ¬ (65536 : Int) < (L.length : Int) := by omega
    obtain ⟨w0, hw0⟩ : ∃ w0, w0 = w.alloc (.cells #[.bool false, .bool false, .bool false, .bool false, .string ⟨#[]⟩, .slice none 0 0, .slice none 0 0] 28) := ⟨_, rfl⟩
    have HBx : Hid (w0.heap[w.heap.size]? = some (.cells #[.bool false, .bool false, .bool false, .bool false, .string ⟨#[]⟩, .slice none 0 0, .slice none 0 0] 28)) := by show _ = _; rw [hw0]; exact heap_alloc_new _ _
    have HS0 : Hid (w0.heap.size = w.heap.size + 1) := by show _ = _; rw [hw0]; simp
    have HB0 : Hid (Below w.heap.size w w0) := by rw [hw0]; exact alloc_below _ _
    have HL0 : Hid (Strs w0 al cl L) := hL.below HB0.out
    have HO : Hid _ := options_any w0
    have HW0 : Hid _ := hw0
    rw [hw0] at HO
    clear hw0 hL
    -- the reading as it begins
    have er : (#[.slice al L.length cl, .int .i64 0, .slice (some ⟨w0.heap.size + 11, 0, none⟩) 6 6, .bool false, .bool false, .bool false, .bool false, .string ⟨#[]⟩, .slice none 0 0, .slice none 0 0] : Array Value) = rdA al L.length cl (w0.heap.size + 11) 0 Ar.av0' (.slice none 0 0) (.slice none 0 0) := rfl
    have HI : Hid (∀ w1, KT w0.heap.size w1 → w1.heap.size = w0.heap.size + 12 → Below w0.heap.size w0 w1 → RdM w0 w0.heap.size (w0.heap.size + 12) w0.heap.size al cl L 0 Ar.av0' (.slice none 0 0) (.slice none 0 0) (w1.alloc (.cells #[.slice al L.length cl, .int .i64 0, .slice (some ⟨w0.heap.size + 11, 0, none⟩) 6 6, .bool false, .bool false, .bool false, .bool false, .string ⟨#[]⟩, .slice none 0 0, .slice none 0 0] 52))) := fun w1 hk h1 hb => by
      rw [er]
      have hb2 := hb.alloc (by omega) (.cells (rdA al L.length cl (w0.heap.size + 11) 0 Ar.av0' (.slice none 0 0) (.slice none 0 0)) 52)
      refine ⟨hb2, Nat.le_refl _, Nat.le_refl _, by rw [← h1]; exact heap_alloc_new _ _, hk.below (alloc_below _ _), World.ownsRow_nil _ _ _ _, World.ownsRow_nil _ _ _ _, fun k e => (by cases e), HL0.out.below hb2, fun ad e => by have := haf ad e; have := HS0.out; omega, Nat.le_refl _, by omega⟩
    clear er
    have HMX : Hid (∃ m, w0.cell? ⟨0, 0, none⟩ = some (.int .i64 m)) := by
      obtain ⟨m, hm⟩ := hm
      exact ⟨m, (HB0.out.cell (p := ⟨0, 0, none⟩) hg0).trans hm⟩
    have HP : Hid (∀ V W : World, Below w0.heap.size w0 W → w.heap.size ≤ w.heap.size → Below w.heap.size w W) := fun _ W hb _ => HB0.out.trans (hb.mono (by have := HS0.out; omega))
    have HGX : Hid (0 < w0.heap.size) := by show _ < _; have := HS0.out; omega
    have HZ : Hid _ := hz
    clear hz hm hg0 HB0 HL0 haf
    go_enter Try.func10, Try.ntmps10
    go_wp2_with fail
    refine Calls.mono HO.out ?_
    rw [← HW0.out]
    rintro e w1 ⟨rfl, hk1, hz1, hb1⟩
    have HR1 : Hid _ := HI.out w1 hk1 hz1 hb1
    clear hk1 hb1 HO HI HW0
    have HO2 : Hid _ := optsL_any HR1.out rfl HZ.out HMX.out HGX.out
    obtain ⟨f1, f2, f3⟩ := Ar.opts_fine L L.length 0 Ar.av0' (Nat.zero_le _) (Nat.zero_le _) rfl
    have HY : Hid (Ar.readF L = if (Ar.optsF L L.length 0 Ar.av0').1 then (if (Ar.operF L (Ar.optsF L L.length 0 Ar.av0').2.1 (Ar.optsF L L.length 0 Ar.av0').2.2).1 then ((Ar.operF L (Ar.optsF L L.length 0 Ar.av0').2.1 (Ar.optsF L L.length 0 Ar.av0').2.2).2.2, 0, 0) else (Ar.av0', 260, (Ar.operF L (Ar.optsF L L.length 0 Ar.av0').2.1 (Ar.optsF L L.length 0 Ar.av0').2.2).2.1)) else (Ar.av0', 260, (Ar.optsF L L.length 0 Ar.av0').2.1)) := by
      show _ = _
      unfold Ar.readF
      rw [if_neg hbig]
    generalize Ar.optsF L L.length 0 Ar.av0' = y at *
    obtain ⟨b, a1, x1⟩ := y
    dsimp only at *
    go_wp2_with fail
    refine Calls.mono HO2.out ?_
    rintro e w2 ⟨rfl, vs2, hr2⟩
    have HR2 : Hid _ := hr2
    clear hr2 HO2 HR1
    cases b
    · have HY2 : Hid (Ar.readF L = (Ar.av0', 260, a1)) := HY.out
      have g1 : w2.cell? ⟨w0.heap.size + 12, 1, none⟩ = some (.int .i64 (a1 : Int)) := HR2.out.cell 1
      have HQ : Hid (∀ W, Below w.heap.size w W → ReadIs L w (.returned (.tuple #[.agg (avA Ar.av0' none 0 none 0), .int .i64 260, .int .i64 (a1 : Int)])) W) := fun W hb => ⟨none, 0, none, 0, by rw [HY2.out], by rw [HY2.out]; exact cop_nil _ _, hb⟩
      have hb9 : w2.heap[w.heap.size]? = some (.cells #[.bool false, .bool false, .bool false, .bool false, .string ⟨#[]⟩, .slice none 0 0, .slice none 0 0] 28) := (HR2.out.below.block _ (by have := HS0.out; omega)).trans HBx.out
      have HBw : Hid (Below w.heap.size w w2) := HP.out w2 w2 HR2.out.below (Nat.le_refl _)
      have HB9 : Hid _ := hb9
      have fz : ∀ j, w2.frozen? ⟨w.heap.size, j, none⟩ = false := fun j => free_row hb9 j
      have k0 : w2.cell? ⟨w.heap.size, 0, none⟩ = some (.bool false) := cell_of_row _ _ _ _ _ _ hb9
      have f00 := fz 0
      have k1 : w2.cell? ⟨w.heap.size, 1, none⟩ = some (.bool false) := cell_of_row _ _ _ _ _ _ hb9
      have f10 := fz 1
      have k2 : w2.cell? ⟨w.heap.size, 2, none⟩ = some (.bool false) := cell_of_row _ _ _ _ _ _ hb9
      have f20 := fz 2
      have k3 : w2.cell? ⟨w.heap.size, 3, none⟩ = some (.bool false) := cell_of_row _ _ _ _ _ _ hb9
      have f30 := fz 3
      have k4 : w2.cell? ⟨w.heap.size, 4, none⟩ = some (.string ⟨#[]⟩) := cell_of_row _ _ _ _ _ _ hb9
      have f40 := fz 4
      have k5 : w2.cell? ⟨w.heap.size, 5, none⟩ = some (.slice none 0 0) := cell_of_row _ _ _ _ _ _ hb9
      have f50 := fz 5
      have k6 : w2.cell? ⟨w.heap.size, 6, none⟩ = some (.slice none 0 0) := cell_of_row _ _ _ _ _ _ hb9
      have f60 := fz 6
      have q1 : ¬ (w0.heap.size + 12 = w.heap.size) := by have := HS0.out; omega
      have q2 : ¬ (w.heap.size = w0.heap.size + 12) := by have := HS0.out; omega
      have HPX : Hid ((((((((w2.setCell ⟨w.heap.size, 0, none⟩ (.bool false)).setCell ⟨w.heap.size, 1, none⟩ (.bool false)).setCell ⟨w.heap.size, 2, none⟩ (.bool false)).setCell ⟨w.heap.size, 3, none⟩ (.bool false)).setCell ⟨w.heap.size, 4, none⟩ (.string ⟨#[]⟩)).setCell ⟨w.heap.size, 5, none⟩ (.slice none 0 0)).setCell ⟨w.heap.size, 6, none⟩ (.slice none 0 0)).drew.heap[w.heap.size]? = some (.cells #[.bool false, .bool false, .bool false, .bool false, .string ⟨#[]⟩, .slice none 0 0, .slice none 0 0] 28)) := put7d HB9.out (.bool false) (.bool false) (.bool false) (.bool false) (.string ⟨#[]⟩) (.slice none 0 0) (.slice none 0 0)
      clear hb9 HY HP HBx fz
      go_wp2_with fail
      go_region
      go_wp2_with fail
      all_goals
        exact bodyPost_ret (results_cell_two (p := 2) (u := 3) (v := 4) rfl _ _ w.heap.size _ _ _ _ rfl HPX.out Try.underlying28 rfl (by kernel_rfl)) rfl (HQ.out _ (((((((HBw.out.setCell (p := ⟨w.heap.size, 0, none⟩) (Nat.le_refl _) _).setCell (p := ⟨w.heap.size, 1, none⟩) (Nat.le_refl _) _).setCell (p := ⟨w.heap.size, 2, none⟩) (Nat.le_refl _) _).setCell (p := ⟨w.heap.size, 3, none⟩) (Nat.le_refl _) _).setCell (p := ⟨w.heap.size, 4, none⟩) (Nat.le_refl _) _).setCell (p := ⟨w.heap.size, 5, none⟩) (Nat.le_refl _) _).setCell (p := ⟨w.heap.size, 6, none⟩) (Nat.le_refl _) _).drew)
    · have HO3 : Hid _ := oper_any HR2.out (f3 rfl) f1 f2
      have HY3 : Hid (Ar.readF L = if (Ar.operF L a1 x1).1 then ((Ar.operF L a1 x1).2.2, 0, 0) else (Ar.av0', 260, (Ar.operF L a1 x1).2.1)) := HY.out
      clear HY f1 f2 f3 HR2
      generalize Ar.operF L a1 x1 = z at *
      obtain ⟨b2, a2, x2⟩ := z
      dsimp only at *
      have HY : Hid _ := HY3.out
      clear HY3
      go_wp2_with fail
      refine Calls.mono HO3.out ?_
      rintro e w3 ⟨rfl, vs3, vn3, hr3⟩
      have HR3 : Hid _ := hr3
      clear hr3 HO3
      cases b2
      · have HY2 : Hid (Ar.readF L = (Ar.av0', 260, a2)) := HY.out
        have g1 : w3.cell? ⟨w0.heap.size + 12, 1, none⟩ = some (.int .i64 (a2 : Int)) := HR3.out.cell 1
        have HQ : Hid (∀ W, Below w.heap.size w W → ReadIs L w (.returned (.tuple #[.agg (avA Ar.av0' none 0 none 0), .int .i64 260, .int .i64 (a2 : Int)])) W) := fun W hb => ⟨none, 0, none, 0, by rw [HY2.out], by rw [HY2.out]; exact cop_nil _ _, hb⟩
        have hb9 : w3.heap[w.heap.size]? = some (.cells #[.bool false, .bool false, .bool false, .bool false, .string ⟨#[]⟩, .slice none 0 0, .slice none 0 0] 28) := (HR3.out.below.block _ (by have := HS0.out; omega)).trans HBx.out
        have HBw : Hid (Below w.heap.size w w3) := HP.out w3 w3 HR3.out.below (Nat.le_refl _)
        have HB9 : Hid _ := hb9
        have fz : ∀ j, w3.frozen? ⟨w.heap.size, j, none⟩ = false := fun j => free_row hb9 j
        have k0 : w3.cell? ⟨w.heap.size, 0, none⟩ = some (.bool false) := cell_of_row _ _ _ _ _ _ hb9
        have f00 := fz 0
        have k1 : w3.cell? ⟨w.heap.size, 1, none⟩ = some (.bool false) := cell_of_row _ _ _ _ _ _ hb9
        have f10 := fz 1
        have k2 : w3.cell? ⟨w.heap.size, 2, none⟩ = some (.bool false) := cell_of_row _ _ _ _ _ _ hb9
        have f20 := fz 2
        have k3 : w3.cell? ⟨w.heap.size, 3, none⟩ = some (.bool false) := cell_of_row _ _ _ _ _ _ hb9
        have f30 := fz 3
        have k4 : w3.cell? ⟨w.heap.size, 4, none⟩ = some (.string ⟨#[]⟩) := cell_of_row _ _ _ _ _ _ hb9
        have f40 := fz 4
        have k5 : w3.cell? ⟨w.heap.size, 5, none⟩ = some (.slice none 0 0) := cell_of_row _ _ _ _ _ _ hb9
        have f50 := fz 5
        have k6 : w3.cell? ⟨w.heap.size, 6, none⟩ = some (.slice none 0 0) := cell_of_row _ _ _ _ _ _ hb9
        have f60 := fz 6
        have q1 : ¬ (w0.heap.size + 12 = w.heap.size) := by have := HS0.out; omega
        have q2 : ¬ (w.heap.size = w0.heap.size + 12) := by have := HS0.out; omega
        have HPX : Hid ((((((((w3.setCell ⟨w.heap.size, 0, none⟩ (.bool false)).setCell ⟨w.heap.size, 1, none⟩ (.bool false)).setCell ⟨w.heap.size, 2, none⟩ (.bool false)).setCell ⟨w.heap.size, 3, none⟩ (.bool false)).setCell ⟨w.heap.size, 4, none⟩ (.string ⟨#[]⟩)).setCell ⟨w.heap.size, 5, none⟩ (.slice none 0 0)).setCell ⟨w.heap.size, 6, none⟩ (.slice none 0 0)).drew.heap[w.heap.size]? = some (.cells #[.bool false, .bool false, .bool false, .bool false, .string ⟨#[]⟩, .slice none 0 0, .slice none 0 0] 28)) := put7d HB9.out (.bool false) (.bool false) (.bool false) (.bool false) (.string ⟨#[]⟩) (.slice none 0 0) (.slice none 0 0)
        clear hb9 HY HP HBx fz
        go_wp2_with fail
        go_region
        go_wp2_with fail
        all_goals
          exact bodyPost_ret (results_cell_two (p := 2) (u := 3) (v := 4) rfl _ _ w.heap.size _ _ _ _ rfl HPX.out Try.underlying28 rfl (by kernel_rfl)) rfl (HQ.out _ (((((((HBw.out.setCell (p := ⟨w.heap.size, 0, none⟩) (Nat.le_refl _) _).setCell (p := ⟨w.heap.size, 1, none⟩) (Nat.le_refl _) _).setCell (p := ⟨w.heap.size, 2, none⟩) (Nat.le_refl _) _).setCell (p := ⟨w.heap.size, 3, none⟩) (Nat.le_refl _) _).setCell (p := ⟨w.heap.size, 4, none⟩) (Nat.le_refl _) _).setCell (p := ⟨w.heap.size, 5, none⟩) (Nat.le_refl _) _).setCell (p := ⟨w.heap.size, 6, none⟩) (Nat.le_refl _) _).drew)
      · have HY2 : Hid (Ar.readF L = (x2, 0, 0)) := HY.out
        obtain ⟨sa, sc, rfl⟩ := own_slice HR3.out.rs
        obtain ⟨na, nc, rfl⟩ := own_slice HR3.out.rn
        have hrs := HR3.out.rs
        have hrn := HR3.out.rn
        have r0 : w3.cell? ⟨w0.heap.size + 12, 3, none⟩ = some (.bool x2.q) := HR3.out.cell 3
        have r1 : w3.cell? ⟨w0.heap.size + 12, 4, none⟩ = some (.bool x2.e) := HR3.out.cell 4
        have r2 : w3.cell? ⟨w0.heap.size + 12, 5, none⟩ = some (.bool x2.s) := HR3.out.cell 5
        have r3 : w3.cell? ⟨w0.heap.size + 12, 6, none⟩ = some (.bool x2.i) := HR3.out.cell 6
        have r4 : w3.cell? ⟨w0.heap.size + 12, 7, none⟩ = some (.string x2.sf) := HR3.out.cell 7
        have r5 : w3.cell? ⟨w0.heap.size + 12, 8, none⟩ = some (.slice sa x2.sc.length sc) := HR3.out.cell 8
        have r6 : w3.cell? ⟨w0.heap.size + 12, 9, none⟩ = some (.slice na x2.nm.length nc) := HR3.out.cell 9
        have hb9 : w3.heap[w.heap.size]? = some (.cells #[.bool false, .bool false, .bool false, .bool false, .string ⟨#[]⟩, .slice none 0 0, .slice none 0 0] 28) := (HR3.out.below.block _ (by have := HS0.out; omega)).trans HBx.out
        have HBw : Hid (Below w.heap.size w w3) := HP.out w3 w3 HR3.out.below (Nat.le_refl _)
        have HB9 : Hid _ := hb9
        have fz : ∀ j, w3.frozen? ⟨w.heap.size, j, none⟩ = false := fun j => free_row hb9 j
        have k0 : w3.cell? ⟨w.heap.size, 0, none⟩ = some (.bool false) := cell_of_row _ _ _ _ _ _ hb9
        have f00 := fz 0
        have k1 : w3.cell? ⟨w.heap.size, 1, none⟩ = some (.bool false) := cell_of_row _ _ _ _ _ _ hb9
        have f10 := fz 1
        have k2 : w3.cell? ⟨w.heap.size, 2, none⟩ = some (.bool false) := cell_of_row _ _ _ _ _ _ hb9
        have f20 := fz 2
        have k3 : w3.cell? ⟨w.heap.size, 3, none⟩ = some (.bool false) := cell_of_row _ _ _ _ _ _ hb9
        have f30 := fz 3
        have k4 : w3.cell? ⟨w.heap.size, 4, none⟩ = some (.string ⟨#[]⟩) := cell_of_row _ _ _ _ _ _ hb9
        have f40 := fz 4
        have k5 : w3.cell? ⟨w.heap.size, 5, none⟩ = some (.slice none 0 0) := cell_of_row _ _ _ _ _ _ hb9
        have f50 := fz 5
        have k6 : w3.cell? ⟨w.heap.size, 6, none⟩ = some (.slice none 0 0) := cell_of_row _ _ _ _ _ _ hb9
        have f60 := fz 6
        have q1 : ¬ (w0.heap.size + 12 = w.heap.size) := by have := HS0.out; omega
        have q2 : ¬ (w.heap.size = w0.heap.size + 12) := by have := HS0.out; omega
        have HPX : Hid ((((((((w3.setCell ⟨w.heap.size, 0, none⟩ (.bool x2.q)).setCell ⟨w.heap.size, 1, none⟩ (.bool x2.e)).setCell ⟨w.heap.size, 2, none⟩ (.bool x2.s)).setCell ⟨w.heap.size, 3, none⟩ (.bool x2.i)).setCell ⟨w.heap.size, 4, none⟩ (.string x2.sf)).setCell ⟨w.heap.size, 5, none⟩ (.slice sa x2.sc.length sc)).setCell ⟨w.heap.size, 6, none⟩ (.slice na x2.nm.length nc)).heap[w.heap.size]? = some (.cells #[.bool x2.q, .bool x2.e, .bool x2.s, .bool x2.i, .string x2.sf, .slice sa x2.sc.length sc, .slice na x2.nm.length nc] 28)) := put7 HB9.out (.bool x2.q) (.bool x2.e) (.bool x2.s) (.bool x2.i) (.string x2.sf) (.slice sa x2.sc.length sc) (.slice na x2.nm.length nc)
        have HQ : Hid (ReadIs L w (.returned (.tuple #[.agg (avA x2 sa sc na nc), .int .i64 0, .int .i64 0])) (((((((w3.setCell ⟨w.heap.size, 0, none⟩ (.bool x2.q)).setCell ⟨w.heap.size, 1, none⟩ (.bool x2.e)).setCell ⟨w.heap.size, 2, none⟩ (.bool x2.s)).setCell ⟨w.heap.size, 3, none⟩ (.bool x2.i)).setCell ⟨w.heap.size, 4, none⟩ (.string x2.sf)).setCell ⟨w.heap.size, 5, none⟩ (.slice sa x2.sc.length sc)).setCell ⟨w.heap.size, 6, none⟩ (.slice na x2.nm.length nc))) := by
          have key : ∀ (e : TypeId) (sz : Nat) (v : Value) (n : Nat) (xs : List Value), w3.ownsRow (w0.heap.size + 12 + 1) e sz v n xs → (((((((w3.setCell ⟨w.heap.size, 0, none⟩ (.bool x2.q)).setCell ⟨w.heap.size, 1, none⟩ (.bool x2.e)).setCell ⟨w.heap.size, 2, none⟩ (.bool x2.s)).setCell ⟨w.heap.size, 3, none⟩ (.bool x2.i)).setCell ⟨w.heap.size, 4, none⟩ (.string x2.sf)).setCell ⟨w.heap.size, 5, none⟩ (.slice sa x2.sc.length sc)).setCell ⟨w.heap.size, 6, none⟩ (.slice na x2.nm.length nc)).ownsRow w.heap.size e sz v n xs := fun e sz v n xs ho => by
            have hne : blk v ≠ some w.heap.size := fun q => by have := (ho.lt _ q).1; have := HS0.out; omega
            exact own_lo (own_set (own_set (own_set (own_set (own_set (own_set (own_set ho _ _ _ hne) _ _ _ hne) _ _ _ hne) _ _ _ hne) _ _ _ hne) _ _ _ hne) _ _ _ hne) (by have := HS0.out; omega)
          refine ⟨sa, sc, na, nc, by rw [HY2.out]; rfl, ?_, (((((((HBw.out.setCell (p := ⟨w.heap.size, 0, none⟩) (Nat.le_refl _) _).setCell (p := ⟨w.heap.size, 1, none⟩) (Nat.le_refl _) _).setCell (p := ⟨w.heap.size, 2, none⟩) (Nat.le_refl _) _).setCell (p := ⟨w.heap.size, 3, none⟩) (Nat.le_refl _) _).setCell (p := ⟨w.heap.size, 4, none⟩) (Nat.le_refl _) _).setCell (p := ⟨w.heap.size, 5, none⟩) (Nat.le_refl _) _).setCell (p := ⟨w.heap.size, 6, none⟩) (Nat.le_refl _) _)⟩
          rw [HY2.out]
          exact ⟨(key _ _ _ _ _ hrs), (key _ _ _ _ _ hrn), HR3.out.ne⟩
        clear hb9 HY HP HBx fz hrs hrn
        go_wp2_with fail
        all_goals
          exact bodyPost_ret (results_cell_two (p := 2) (u := 3) (v := 4) rfl _ _ w.heap.size _ _ _ _ rfl HPX.out Try.underlying28 rfl (by kernel_rfl)) rfl HQ.out
end Go.Proofs.Ytklcfjakhabbgaa
