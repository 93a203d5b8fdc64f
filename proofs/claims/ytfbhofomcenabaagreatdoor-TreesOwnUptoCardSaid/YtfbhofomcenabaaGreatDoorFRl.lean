/- What trees.readLine answers. -/
import Derived.Test.YtfbhofomcenabaaGreatDoorTO
import Derived.Test.YtfbhofomcenabaaGreatDoorTB
import Derived.Laws.ResultCell
import Derived.BigRegion
import Derived.BigQuiet
import Derived.Deep.QuietTactic
namespace Go.Proofs.YtfbhofomcenabaaGreatDoor
open Go.RowKit

namespace Ft
/-- What readLine leaves: a file as it is told, its path in memory of the call's own, and the rule. -/
def LineE (w : World) (R : Td × Nat) (e : Ending) (w' : World) : Prop :=
  (∃ a c, e = .returned (.tuple #[tdV R.1 a c, .int .i64 (R.2 : Int)]) ∧ Strs w' a c R.1.1 ∧ ∀ ad, a = some ad → w.heap.size ≤ ad.block) ∧ Below w.heap.size w w'
theorem td3_at {w : World} {g : Nat} {t : TypeId} {x0 x1 x2 y0 y1 y2 : Value} (h : w.heap[g]? = some (.cells #[x0, x1, x2] t (0, 0))) : (((w.setCell ⟨g, 0, none⟩ y0).setCell ⟨g, 1, none⟩ y1).setCell ⟨g, 2, none⟩ y2).heap[g]? = some (.cells #[y0, y1, y2] t (0, 0)) := by
  have h0 : (w.setCell ⟨g, 0, none⟩ y0).heap[g]? = some (.cells #[y0, x1, x2] t (0, 0)) := heap_setCell_same _ g 0 _ _ y0 h
  have h1 : ((w.setCell ⟨g, 0, none⟩ y0).setCell ⟨g, 1, none⟩ y1).heap[g]? = some (.cells #[y0, y1, x2] t (0, 0)) := heap_setCell_same _ g 1 _ _ y1 h0
  exact heap_setCell_same _ g 2 _ _ y2 h1
theorem td3_below {a0 w : World} {g B : Nat} {y0 y1 y2 : Value} (h : Below B a0 w) (hB : B ≤ g) : Below B a0 (((w.setCell ⟨g, 0, none⟩ y0).setCell ⟨g, 1, none⟩ y1).setCell ⟨g, 2, none⟩ y2) :=
  ((h.setCell (p := ⟨g, 0, none⟩) hB _).setCell (p := ⟨g, 1, none⟩) hB _).setCell (p := ⟨g, 2, none⟩) hB _
theorem td3_other {w : World} {g b : Nat} {y0 y1 y2 : Value} (hne : b ≠ g) : (((w.setCell ⟨g, 0, none⟩ y0).setCell ⟨g, 1, none⟩ y1).setCell ⟨g, 2, none⟩ y2).heap[b]? = w.heap[b]? := by
  rw [heap_setCell_other _ ⟨g, 2, none⟩ b _ hne, heap_setCell_other _ ⟨g, 1, none⟩ b _ hne, heap_setCell_other _ ⟨g, 0, none⟩ b _ hne]
theorem trim_len (t p : List UInt8) : (Lib.trimPrefix t p).length ≤ t.length := by
  unfold Lib.trimPrefix
  split
  · rw [List.length_drop]; omega
  · omega
theorem quo_len (r : List UInt8) (k : Nat) (y : List UInt8 × List UInt8) (h : quoR r k = some y) : y.1.length ≤ r.length ∧ y.2.length ≤ r.length := by
  have h1 := unq_le (Ln.bs r)
  rw [Ln.bs_size] at h1
  unfold quoR at h
  simp only at h
  split at h
  · split at h
    · split at h
      · cases h; exact ⟨h1.2, by simp⟩
      · cases h
    · split at h
      · split at h
        · cases h
          have h2 := unq_le (Ln.bs (Lib.trimPrefix (r.drop (Ln.unqP (Ln.bs r)).2.1) [32]))
          rw [Ln.bs_size] at h2
          have h3 := trim_len (r.drop (Ln.unqP (Ln.bs r)).2.1) [32]
          rw [List.length_drop] at h3
          exact ⟨h1.2, by have := h2.2; show (Ln.unqP (Ln.bs _)).1.length ≤ _; omega⟩
        · cases h
      · cases h
  · cases h
def QuoO (Q : Option (List UInt8 × List UInt8)) (p d : ByteArray) (b : Bool) : Prop :=
  match Q with
  | none => b = false
  | some y => b = true ∧ p = Ln.bs y.1 ∧ d = Ln.bs y.2
theorem strs_other {A C : World} {g c : Nat} {l : List ByteArray} (h : Strs A (some ⟨g, 0, none⟩) c l) (hb : C.heap[g]? = A.heap[g]?) (hs : A.heap.size ≤ C.heap.size) : Strs C (some ⟨g, 0, none⟩) c l := by
  refine ⟨h.len, h.nil, h.room, h.most, h.size, fun i hi => ?_⟩
  obtain ⟨b, off, e, hlt, hc⟩ := h.cells i hi
  cases e
  exact ⟨g, 0, rfl, Nat.lt_of_lt_of_le hlt hs, (World.cell?_of_block hb).trans hc⟩
/-- What lies in memory while a line is read. -/
structure Rl (w V : World) (x : Td) (a : Option Addr) (c : Nat) : Prop where
  td : TdAt V w.heap.size x a c
  zd : TdAt V (w.heap.size + 1) td0 none 0
  below : Below w.heap.size w V
  size : w.heap.size + 2 ≤ V.heap.size
  tab : TxT V
  str : Strs V a c x.1
theorem Rl.under {w V V' : World} {x : Td} {a : Option Addr} {c : Nat} (h : Rl w V x a c) (hb : Below V.heap.size V V') : Rl w V' x a c :=
  ⟨h.td.under hb, h.zd.under hb, h.below.trans (hb.mono h.below.size), Nat.le_trans h.size hb.size, h.tab.under hb, h.str.below hb⟩
end Ft
/-- The results: a struct in a cell, a number in a slot. -/
theorem results_cell_tmp_at {fn : Func} {p u : Tmp} {ty : TypeId} (h : fn.results = #[.cell p ty, .tmp u]) (tmps : Array Value) (w : World) (g : Nat) (t : TypeId) (cs : Array Value) (fr : Nat × Nat) (fs : Array Field)
    (hp : tmps.getD p undef = .pointer (some ⟨g, 0, none⟩)) (hg : w.heap[g]? = some (.cells cs t fr))
    (hu : Tryz.prog.underlying ty = some (.struct fs)) (hi : (Tryz.prog.info? ty).map (·.size) = some cs.size) {v : Value} (hv : tmps.getD u undef = v) :
    (results fn tmps).run Tryz.prog w = .ok (.tuple #[.agg cs, v]) w := by
  have hp' : tmps[p]?.getD undef = .pointer (some ⟨g, 0, none⟩) := by simpa using hp
  have hv' : tmps[u]?.getD undef = v := by simpa using hv
  rw [results_cell_tmp h]
  simp [hp', hv', asAddr, run_loadVar_row w g t ty cs fr _ hg hu rfl hi, Result.andThen]

set_option maxRecDepth 100000 in
set_option maxHeartbeats 4000000 in
theorem readLine_any (s : ByteArray) (x : Ft.Td) (a : Option Addr) (c : Nat) (w : World) (T : TxT w) (hs : s.size ≤ 16777216) (hX : Strs w a c x.1) :
    Calls Tryz.prog 44 #[.string s, Ft.tdV x a c] w (Ft.LineE w (Ft.lineR s.data.toList x)) := by
  obtain ⟨R, hR⟩ : ∃ R, R = Ft.lineR s.data.toList x := ⟨_, rfl⟩
  rw [← hR]
  unfold Ft.lineR at hR
  obtain ⟨W, hW⟩ : ∃ W, W = (w.alloc (.cells (Ft.tdA x a c) 83)).alloc (.cells (Ft.tdA Ft.td0 none 0) 83) := ⟨_, rfl⟩
  have hB : Below w.heap.size w W := by rw [hW]; exact ((Below.refl _ _).alloc (Nat.le_refl _) _).alloc (by simp) _
  have hT : Ft.TdAt W w.heap.size x a c := by rw [hW]; exact (Ft.td_new w x a c).under ((Below.refl _ _).alloc (Nat.le_refl _) _)
  have hZ : Ft.TdAt W (w.heap.size + 1) Ft.td0 none 0 := by
    rw [hW]
    have h := Ft.td_new (w.alloc (.cells (Ft.tdA x a c) 83)) Ft.td0 none 0
    rwa [World.size_alloc] at h
  have hC := Ft.cutB_len s.data.toList
  rw [Ln.szL] at hC
  have C1 := fcut_any s W (T.under hB) (by omega)
  obtain ⟨Y, hY⟩ : ∃ Y, Y = Ft.cutB s.data.toList := ⟨_, rfl⟩
  rw [← hY] at C1 hC hR
  clear hY
  obtain ⟨word, rest, blank⟩ := Y
  simp only at C1 hC hR
  have HR : Hid _ := hR
  have HK0 : Hid (Ft.Rl w W x a c) := ⟨hT, hZ, hB, by rw [hW]; simp, T.under hB, hX.below hB⟩
  have HW : Hid (W = (w.alloc (.cells #[.slice a x.1.length c, .int .u8 (x.2.1 : Int), .string x.2.2] 83)).alloc (.cells #[.slice none 0 0, .int .u8 0, .string ⟨#[]⟩] 83)) := hW
  clear hR T hX hB hT hZ hW
  simp only [Ft.tdV, Ft.tdA]
  go_enter Tryz.func44, Tryz.ntmps44
  go_wp2_with fail
  rw [← HW.out]
  refine C1.mono ?_
  rintro e w1 ⟨rfl, b1⟩
  have HK1 : Hid (Ft.Rl w w1 x a c) := HK0.out.under b1
  clear b1 C1 HW HK0
  have C2 := kindOf_any (Ln.bs word) w1 HK1.out.tab.wds
  have hkw : (Ln.bs word).data.toList = word := rfl
  rw [hkw] at C2
  clear hkw
  obtain ⟨k, hk⟩ : ∃ k, k = Ft.kindW word := ⟨_, rfl⟩
  rw [← hk] at C2
  have HR1 : Hid _ := HR.out
  rw [← hk] at HR1
  clear hk HR
  go_wp2_with fail
  refine C2.mono ?_
  rintro e w2 ⟨rfl, rfl⟩
  clear C2
  have hz := HK1.out.zd
  have z0 : w1.cell? ⟨w.heap.size + 1, 0, none⟩ = some (.slice none 0 0) := hz.c0
  have z1 : w1.cell? ⟨w.heap.size + 1, 1, none⟩ = some (.int .u8 0) := hz.c1
  have z2 : w1.cell? ⟨w.heap.size + 1, 2, none⟩ = some (.string ⟨#[]⟩) := hz.c2
  have f0 := hz.frozen 0
  have f1 := hz.frozen 1
  have f2 := hz.frozen 2
  clear hz
  cases blank
  case false =>
    have HE : Hid (R = (Ft.td0, 1)) := by show _ = _; rw [HR1.out]; simp
    clear HR1
    go_wp2_with fail
    refine bodyPost_ret (results_cell_tmp_at rfl _ _ (w.heap.size + 1) _ _ _ _ rfl (Ft.td3_at HK1.out.zd) Tryz.underlying83 (by kernel_rfl) rfl) rfl ?_
    rw [HE.out]
    exact ⟨⟨none, 0, rfl, Strs.empty _, fun _ e => by cases e⟩, Ft.td3_below HK1.out.below (by omega)⟩
  case true =>
  by_cases hk0 : k = 0
  · have HE : Hid (R = (Ft.td0, 1)) := by show _ = _; rw [HR1.out, if_pos (.inr hk0)]
    have k0 : ((k : Int) == 0) = true := by rw [hk0]; rfl
    clear HR1 hk0
    go_wp2_with fail
    refine bodyPost_ret (results_cell_tmp_at rfl _ _ (w.heap.size + 1) _ _ _ _ rfl (Ft.td3_at HK1.out.zd) Tryz.underlying83 (by kernel_rfl) rfl) rfl ?_
    rw [HE.out]
    exact ⟨⟨none, 0, rfl, Strs.empty _, fun _ e => by cases e⟩, Ft.td3_below HK1.out.below (by omega)⟩
  have k0 : ((k : Int) == 0) = false := by rw [beq_eq_false_iff_ne]; omega
  have hR2 := HR1.out
  rw [if_neg (by simp [hk0])] at hR2
  obtain ⟨Q, hQ⟩ : ∃ Q, Q = Ft.quoR rest k := ⟨_, rfl⟩
  have HQI : Hid (∀ p d b, Ft.QuoIs rest k p d b → Ft.QuoO Q p d b) := fun p d b h => by rw [hQ]; exact h
  rw [← hQ] at hR2
  have HR2 : Hid _ := hR2
  have C3 := readQ_any (Ln.bs rest) k w1 HK1.out.tab (by rw [Ln.bs_size]; omega)
  have hQl : ∀ y, Q = some y → y.1.length ≤ 16777216 ∧ y.2.length ≤ 16777216 := fun y hy => by
    have h := Ft.quo_len rest k y (hQ.symm.trans hy)
    omega
  clear HR1 hR2 hk0 z0 z1 z2 f0 f1 f2 hQ hC
  go_wp2_with fail
  refine C3.mono ?_
  rintro e w2 ⟨⟨p, d, b, rfl, hq⟩, b2⟩
  have hq2 := HQI.out p d b hq
  have HK2 : Hid (Ft.Rl w w2 x a c) := HK1.out.under b2
  clear C3 HQI hq b2 k0 HK1
  have hz := HK2.out.zd
  have z0 : w2.cell? ⟨w.heap.size + 1, 0, none⟩ = some (.slice none 0 0) := hz.c0
  have z1 : w2.cell? ⟨w.heap.size + 1, 1, none⟩ = some (.int .u8 0) := hz.c1
  have z2 : w2.cell? ⟨w.heap.size + 1, 2, none⟩ = some (.string ⟨#[]⟩) := hz.c2
  have f0 := hz.frozen 0
  have f1 := hz.frozen 1
  have f2 := hz.frozen 2
  clear hz
  cases Q with
  | none =>
    have hq2 : b = false := hq2
    subst hq2
    have HE : Hid (R = (Ft.td0, 2)) := HR2.out
    clear HR2 hQl
    go_wp2_with fail
    refine bodyPost_ret (results_cell_tmp_at rfl _ _ (w.heap.size + 1) _ _ _ _ rfl (Ft.td3_at HK2.out.zd) Tryz.underlying83 (by kernel_rfl) rfl) rfl ?_
    rw [HE.out]
    exact ⟨⟨none, 0, rfl, Strs.empty _, fun _ e => by cases e⟩, Ft.td3_below HK2.out.below (by omega)⟩
  | some y =>
  obtain ⟨rfl, rfl, rfl⟩ : b = true ∧ p = Ln.bs y.1 ∧ d = Ln.bs y.2 := hq2
  have hyl := hQl y rfl
  have C4 := readN_any (Ln.bs y.1) w2 HK2.out.tab (by rw [Ln.bs_size]; omega)
  have hy1 : (Ln.bs y.1).data.toList = y.1 := rfl
  rw [hy1] at C4
  have hR3 := HR2.out
  simp only at hR3
  obtain ⟨N, hN⟩ : ∃ N, N = Ft.namR y.1 := ⟨_, rfl⟩
  rw [← hN] at C4 hR3
  have HR3 : Hid _ := hR3
  clear HR2 hR3 hN hy1 hQl z0 z1 z2 f0 f1 f2
  go_wp2_with fail
  refine C4.mono ?_
  rintro e w3 ⟨he, b3⟩
  have HK3 : Hid (Ft.Rl w w3 x a c) := HK2.out.under b3
  have hsz2 := HK2.out.size
  clear C4 b3 HK2
  have hz := HK3.out.zd
  have z0 : w3.cell? ⟨w.heap.size + 1, 0, none⟩ = some (.slice none 0 0) := hz.c0
  have z1 : w3.cell? ⟨w.heap.size + 1, 1, none⟩ = some (.int .u8 0) := hz.c1
  have z2 : w3.cell? ⟨w.heap.size + 1, 2, none⟩ = some (.string ⟨#[]⟩) := hz.c2
  have f0 := hz.frozen 0
  have f1 := hz.frozen 1
  have f2 := hz.frozen 2
  clear hz
  cases N with
  | none =>
    obtain rfl : e = .returned (.tuple #[.slice none 0 0, .bool false]) := he
    have HE : Hid (R = (Ft.td0, 3)) := HR3.out
    clear HR3
    go_wp2_with fail
    refine bodyPost_ret (results_cell_tmp_at rfl _ _ (w.heap.size + 1) _ _ _ _ rfl (Ft.td3_at HK3.out.zd) Tryz.underlying83 (by kernel_rfl) rfl) rfl ?_
    rw [HE.out]
    exact ⟨⟨none, 0, rfl, Strs.empty _, fun _ e => by cases e⟩, Ft.td3_below HK3.out.below (by omega)⟩
  | some P =>
  obtain ⟨g, cp, rfl, hg, hS, hne, hl64, hall⟩ := he
  have C5 := compare_any a (some ⟨g, 0, none⟩) c cp x.1 P w3 HK3.out.str hS
  have hR4 := HR3.out
  simp only at hR4
  have t0 : w3.cell? ⟨w.heap.size, 0, none⟩ = some (.slice a x.1.length c) := HK3.out.td.c0
  have t1 : w3.cell? ⟨w.heap.size, 1, none⟩ = some (.int .u8 (x.2.1 : Int)) := HK3.out.td.c1
  have t2 : w3.cell? ⟨w.heap.size, 2, none⟩ = some (.string x.2.2) := HK3.out.td.c2
  have hcap := hS.room
  have HS : Hid (Strs w3 (some ⟨g, 0, none⟩) cp P ∧ w2.heap.size ≤ g) := ⟨hS, hg⟩
  have hP1 : 1 ≤ P.length := List.length_pos_iff.2 hne
  clear HR3 hS hne hall hg
  obtain ⟨z, hz⟩ : ∃ z, z = Pl.cmpP x.1 P := ⟨_, rfl⟩
  rw [← hz] at C5 hR4
  clear hz
  by_cases hc : 0 ≤ z
  · have HE : Hid (R = (Ft.td0, 4)) := by show _ = _; rw [hR4, if_pos hc]
    have i1 : decide (0 ≤ z) = true := decide_eq_true hc
    clear hR4 t1 t2
    go_wp2_with fail
    refine C5.mono ?_
    rintro e w4 ⟨rfl, rfl⟩
    go_wp2_with fail
    refine bodyPost_ret (results_cell_tmp_at rfl _ _ (w.heap.size + 1) _ _ _ _ rfl (Ft.td3_at HK3.out.zd) Tryz.underlying83 (by kernel_rfl) rfl) rfl ?_
    rw [HE.out]
    exact ⟨⟨none, 0, rfl, Strs.empty _, fun _ e => by cases e⟩, Ft.td3_below HK3.out.below (by omega)⟩
  have i1 : decide (0 ≤ z) = false := decide_eq_false hc
  rw [if_neg hc] at hR4
  have HR4 : Hid _ := hR4
  clear hR4 hc
  go_wp2_with fail
  refine C5.mono ?_
  rintro e w4 ⟨rfl, rfl⟩
  clear C5
  obtain ⟨D, hD⟩ : ∃ D, D = P.dropLast := ⟨_, rfl⟩
  have hDl : D.length = P.length - 1 := by rw [hD, List.length_dropLast]
  have hDt : P.take (P.length - 1) = D := by rw [hD, List.dropLast_eq_take]
  have HR5 : Hid _ := HR4.out
  rw [← hD] at HR5
  have HC6 : Hid (∀ V : World, Below w3.heap.size w3 V → Calls Tryz.prog 85 #[.agg #[.slice a x.1.length c, .int .u8 (x.2.1 : Int), .string x.2.2], .slice (some ⟨g, 0, none⟩) (P.length - 1) cp] V fun e w' => e = .returned (.bool (Ft.opnB x D)) ∧ Below w3.heap.size w3 w') := by
    intro V hV
    have h := opens_any x a (some ⟨g, 0, none⟩) c cp D V (HK3.out.str.below hV) (by rw [← hDt]; exact (HS.out.1.take _).below hV)
    rw [hDl] at h
    refine Calls.mono h ?_
    rintro e w' ⟨he, hb⟩
    exact ⟨he, hV.trans (hb.mono hV.size)⟩
  have HD : Hid (D = P.dropLast ∧ D.length = P.length - 1) := ⟨hD, hDl⟩
  clear HR4 hD hDl hDt
  go_wp2_with fail
  have hw1 : IntKind.i64.wrap ((P.length : Int) - 1) = ((P.length - 1 : Nat) : Int) := by rw [IntKind.wrap_i64]; omega
  have hn1 : P.length - 1 ≤ cp := by omega
  go_region_with (go_at_call 85; refine Calls.mono (HC6.out _ (below_drewN (Below.refl _ _) _)) ?_; rintro e w5 ⟨rfl, b5⟩)
  have HB5 : Hid (Below w3.heap.size w3 w5) := b5
  have HK5 : Hid (Ft.Rl w w5 x a c) := HK3.out.under b5
  clear b5 HC6 hw1 hn1 t0 t1 t2 z0 z1 z2 f0 f1 f2 HK3
  have hz := HK5.out.zd
  have z0 : w5.cell? ⟨w.heap.size + 1, 0, none⟩ = some (.slice none 0 0) := hz.c0
  have z1 : w5.cell? ⟨w.heap.size + 1, 1, none⟩ = some (.int .u8 0) := hz.c1
  have z2 : w5.cell? ⟨w.heap.size + 1, 2, none⟩ = some (.string ⟨#[]⟩) := hz.c2
  have f0 := hz.frozen 0
  have f1 := hz.frozen 1
  have f2 := hz.frozen 2
  clear hz
  obtain ⟨o, ho⟩ : ∃ o, o = Ft.opnB x D := ⟨_, rfl⟩
  have HR6 := HR5.out
  rw [← ho] at HR6 ⊢
  clear HR5 ho
  cases o
  case false =>
    have HE : Hid (R = (Ft.td0, 5)) := by show _ = _; rw [HR6, if_pos rfl]
    clear HR6
    go_wp2_with fail
    refine bodyPost_ret (results_cell_tmp_at rfl _ _ (w.heap.size + 1) _ _ _ _ rfl (Ft.td3_at HK5.out.zd) Tryz.underlying83 (by kernel_rfl) rfl) rfl ?_
    rw [HE.out]
    exact ⟨⟨none, 0, rfl, Strs.empty _, fun _ e => by cases e⟩, Ft.td3_below HK5.out.below (by omega)⟩
  case true =>
  rw [if_neg (by simp)] at HR6
  have hsd : (Ln.bs y.2).size ≤ 16777216 := by rw [Ln.bs_size]; omega
  obtain ⟨d, hd⟩ : ∃ d, d = Ln.bs y.2 := ⟨_, rfl⟩
  rw [← hd] at HR6 hsd ⊢
  clear hd hyl
  by_cases hk3 : k = 3
  · have k3 : ((k : Int) == 3) = true := by rw [hk3]; rfl
    have C7 := maylead_any d w5
    obtain ⟨q, hq⟩ : ∃ q, q = Ft.tgtB d := ⟨_, rfl⟩
    rw [← hq] at C7 HR6
    clear hq
    cases q
    · have HE : Hid (R = (Ft.td0, 6)) := by show _ = _; rw [HR6, if_pos ⟨hk3, rfl⟩]
      clear HR6 hk3
      go_wp2_with (go_at_call 86; refine C7.mono ?_; rintro e w6 ⟨rfl, rfl⟩)
      refine bodyPost_ret (results_cell_tmp_at rfl _ _ (w.heap.size + 1) _ _ _ _ rfl (Ft.td3_at HK5.out.zd) Tryz.underlying83 (by kernel_rfl) rfl) rfl ?_
      rw [HE.out]
      exact ⟨⟨none, 0, rfl, Strs.empty _, fun _ e => by cases e⟩, Ft.td3_below HK5.out.below (by omega)⟩
    · have HE : Hid (R = ((P, k, d), 0)) := by show _ = _; rw [HR6, if_neg (by simp)]
      clear HR6 hk3
      go_wp2_with (go_at_call 86; refine C7.mono ?_; rintro e w6 ⟨rfl, rfl⟩)
      refine bodyPost_ret (results_cell_tmp_at rfl _ _ (w.heap.size + 1) _ _ _ _ rfl (Ft.td3_at HK5.out.zd) Tryz.underlying83 (by kernel_rfl) rfl) rfl ?_
      rw [HE.out]
      refine ⟨⟨some ⟨g, 0, none⟩, cp, rfl, ?_, fun ad e => by cases e; show w.heap.size ≤ g; have := HS.out.2; omega⟩, Ft.td3_below HK5.out.below (by omega)⟩
      exact Ft.strs_other (HS.out.1.below HB5.out) (Ft.td3_other (by have := HS.out.2; omega)) (Nat.le_of_eq (by simp))
  · have k3 : ((k : Int) == 3) = false := by rw [beq_eq_false_iff_ne]; omega
    have HE : Hid (R = ((P, k, d), 0)) := by show _ = _; rw [HR6, if_neg (by simp [hk3])]
    clear HR6 hk3
    go_wp2_with fail
    refine bodyPost_ret (results_cell_tmp_at rfl _ _ (w.heap.size + 1) _ _ _ _ rfl (Ft.td3_at HK5.out.zd) Tryz.underlying83 (by kernel_rfl) rfl) rfl ?_
    rw [HE.out]
    refine ⟨⟨some ⟨g, 0, none⟩, cp, rfl, ?_, fun ad e => by cases e; show w.heap.size ≤ g; have := HS.out.2; omega⟩, Ft.td3_below HK5.out.below (by omega)⟩
    exact Ft.strs_other (HS.out.1.below HB5.out) (Ft.td3_other (by have := HS.out.2; omega)) (Nat.le_of_eq (by simp))
end Go.Proofs.YtfbhofomcenabaaGreatDoor
