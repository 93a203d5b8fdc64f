/- What trees.build answers. -/
import Derived.Test.YtfbhofomcenabaaGreatDoorFRl
import Derived.Test.YtfbhofomcenabaaGreatDoorTE
import Derived.Test.YtfbhofomcenabaaGreatDoorFSl
import Derived.BigRegion
namespace Go.Proofs.YtfbhofomcenabaaGreatDoor
open Go.RowKit

namespace Ft
/-- A slice reads as files as they are told. -/
structure Tds (w : World) (a : Option Addr) (cap : Nat) (l : List Td) : Prop where
  len : l.length ≤ 1048576
  nil : a = none → cap = 0
  room : l.length ≤ cap
  most : cap ≤ maxLen
  cells : ∀ i (h : i < l.length), ∃ b off x c, a = some ⟨b, off, none⟩ ∧ b < w.heap.size ∧ w.cell? ⟨b, off + i * 3, none⟩ = some (.slice x (l[i]).1.length c) ∧ w.cell? ⟨b, off + i * 3 + 1, none⟩ = some (.int .u8 ((l[i]).2.1 : Int)) ∧ w.cell? ⟨b, off + i * 3 + 2, none⟩ = some (.string (l[i]).2.2) ∧ Strs w x c (l[i]).1
theorem Tds.below {w w' : World} {a : Option Addr} {cap : Nat} {l : List Td} (h : Tds w a cap l) (hb : Below w.heap.size w w') : Tds w' a cap l := by
  refine ⟨h.len, h.nil, h.room, h.most, fun i hi => ?_⟩
  obtain ⟨b, off, x, c, e, hlt, k0, k1, k2, k3⟩ := h.cells i hi
  have key : ∀ j, w'.cell? ⟨b, j, none⟩ = w.cell? ⟨b, j, none⟩ := fun j => World.cell?_of_block (w := w) (hb.block b hlt)
  exact ⟨b, off, x, c, e, Nat.lt_of_lt_of_le hlt hb.size, (key _).trans k0, (key _).trans k1, (key _).trans k2, k3.below hb⟩
/-- What is behind the first one. -/
theorem Tds.tail {w : World} {b off cap : Nat} {x : Td} {r : List Td} (h : Tds w (some ⟨b, off, none⟩) cap (x :: r)) : Tds w (some (if cap = 1 then ⟨b, off, none⟩ else ⟨b, off + 3, none⟩)) (cap - 1) r := by
  have hl := h.len
  have hr := h.room
  have hm := h.most
  simp only [List.length_cons] at hl hr
  refine ⟨by omega, fun e => (by cases e), by omega, by omega, fun i hi => ?_⟩
  obtain ⟨b', off', y, c, e, hlt, k0, k1, k2, k3⟩ := h.cells (i + 1) (by simp only [List.length_cons]; omega)
  cases e
  rw [if_neg (by omega)]
  have e0 : off + 3 + i * 3 = off + (i + 1) * 3 := by omega
  refine ⟨b, off + 3, y, c, rfl, hlt, ?_, ?_, ?_, ?_⟩
  · rw [e0]; exact k0
  · rw [e0]; exact k1
  · rw [e0]; exact k2
  · exact k3
theorem Tds.none {w : World} {cap : Nat} {l : List Td} (h : Tds w Option.none cap l) : l = [] := by
  cases l with
  | nil => rfl
  | cons x r => obtain ⟨b, off, y, c, e, _⟩ := h.cells 0 (by simp); cases e
def lenV : Value → Nat
  | .slice _ n _ => n
  | _ => 0
end Ft

set_option maxRecDepth 100000 in
set_option maxHeartbeats 4000000 in
theorem build_any (W0 : World) : ∀ (m : Nat) (l : List Ft.Td) (n : Nat) (a : Option Addr) (cap : Nat) (w : World), l.length ≤ m → n ≤ 64 → (∀ x ∈ l, x.1.length ≤ 64) → Ft.Tds W0 a cap l → Below W0.heap.size W0 w →
    Calls Tryz.prog 45 #[.slice a l.length cap, .int .i64 (n : Int)] w fun e w' => ∃ v a2 c2, e = .returned (.tuple #[v, .slice a2 (Ft.bldT n l).2.length c2]) ∧ Ft.FRow w' w.heap.size v (Ft.bldT n l).1 ∧ Ft.Tds W0 a2 c2 (Ft.bldT n l).2 ∧ (∀ x ∈ (Ft.bldT n l).2, x.1.length ≤ 64) ∧ Below w.heap.size w w' := by
  intro m
  induction m using Nat.strongRecOn with
  | ind m ih =>
  intro l n a cap w hm hn hp hT hW0
  have IH : Hid _ := ih
  have HW0 : Hid _ := hW0
  obtain ⟨i0, hi0, hz0, hz1, hz2⟩ := info_parts Tryz.infoFile
  have hlm := hT.len
  clear ih hW0
  go_enter Tryz.func45, Tryz.ntmps45
  go_wp2_with fail
  go_loopw [0, 6] (fun v0 v6 wr => ∃ (L : List Ft.Td) (F : List Ft.FT) (a' : Option Addr) (cap' : Nat), v0 = .slice a' L.length cap' ∧ Ft.Tds W0 a' cap' L ∧ Ft.FRow wr w.heap.size v6 F ∧ L.length ≤ l.length ∧ F.length + L.length ≤ l.length ∧ (∀ x ∈ L, x.1.length ≤ 64) ∧ Hid (Ft.bldT n l = (F ++ (Ft.bldT n L).1, (Ft.bldT n L).2)) ∧ Below w.heap.size w wr) (fun v0 _ _ => Ft.lenV v0)
  case atStart => exact ⟨l, [], a, cap, rfl, hT, Ft.FRow.empty _ _, Nat.le_refl _, by simp, hp, by simp [Hid], Below.refl _ _⟩
  case round =>
    clear hT hp
    obtain ⟨L, F, a', cap', rfl, hT, hF, hL, hFL, hp, HE, hB⟩ := hrel
    have hW0 : Below W0.heap.size W0 wr := HW0.out.trans (hB.mono HW0.out.size)
    cases L with
    | nil =>
      have HT : Hid _ := hT
      have HF : Hid _ := hF
      have HB : Hid _ := hB
      clear hT hF hB hp hW0
      go_wp2_with fail
      go_ret2
      rw [HE.out]
      exact ⟨u6, a', cap', rfl, (by rw [Ft.bldT_nil, List.append_nil]; exact HF.out), HT.out, fun x hx => (by rw [Ft.bldT_nil] at hx; cases hx), HB.out⟩
    | cons x r =>
      obtain ⟨b, off, xa, xc, rfl, hb, k0, k1, k2, k3⟩ := (hT.below hW0).cells 0 (by simp)
      simp only [List.getElem_cons_zero, Nat.zero_mul, Nat.add_zero] at k0 k1 k2 k3
      have hx := hp x (by simp)
      have i1 : (0 : Int) < ((x :: r).length : Int) := by simp only [List.length_cons]; omega
      have i1' : decide ((0 : Int) < ((x :: r).length : Int)) = true := decide_eq_true i1
      have HT : Hid _ := hT
      have HF : Hid _ := hF
      have HB : Hid _ := hB
      have HP : Hid _ := hp
      have HW1 : Hid _ := hW0
      have hsB := hB.size
      clear hT hF hB hp hW0
      by_cases hlt : n < x.1.length
      · obtain ⟨b2, off2, rfl, hb2, kn⟩ := k3.cells n hlt
        have j1 : (n : Int) < (x.1.length : Int) := by omega
        have j1' : decide ((n : Int) < (x.1.length : Int)) = true := decide_eq_true j1
        obtain ⟨nm, hnm⟩ : ∃ nm, nm = x.1[n] := ⟨_, rfl⟩
        rw [← hnm] at kn
        have HE2 : Hid (Ft.bldT n l = (F ++ .mk nm x.2.1 x.2.2 (Ft.bldT (n + 1) r).1 :: (Ft.bldT n (Ft.bldT (n + 1) r).2).1, (Ft.bldT n (Ft.bldT (n + 1) r).2).2)) := by show _ = _; rw [HE.out, Ft.bldT_go hlt, hnm]
        clear hnm HE
        obtain ⟨A, hA⟩ : ∃ A : Addr, A = (if cap' = 1 then ⟨b, off, none⟩ else ⟨b, off + 3, none⟩) := ⟨_, rfl⟩
        have hs1 : ∀ wx, (Instr.slice 81 (.slice (some ⟨b, off, none⟩) (r.length + 1) cap') (some (.int .i64 1)) none none).run Tryz.prog wx = .ok (.slice (some A) r.length (cap' - 1)) wx := fun wx => by
          rw [slice_td b off (r.length + 1) cap' (by simp) HT.out.room wx, hA]; rfl
        have HTl : Hid (Ft.Tds W0 (some A) (cap' - 1) r) := by rw [hA]; exact HT.out.tail
        have HIH : Hid _ := IH.out (m - 1) (by simp only [List.length_cons] at hL; omega) r (n + 1) (some A) (cap' - 1)
        have hbl := Ft.bldT_len (n + 1) r
        obtain ⟨K, hK⟩ : ∃ K, K = (Ft.bldT (n + 1) r).1 := ⟨_, rfl⟩
        obtain ⟨R, hR⟩ : ∃ R, R = (Ft.bldT (n + 1) r).2 := ⟨_, rfl⟩
        rw [← hK, ← hR] at hbl HIH HE2
        clear hA HT hK hR
        go_wp2_with fail
        go_region
        obtain ⟨W2, hW2⟩ : ∃ W2, W2 = ((wr.alloc (.cells #[.slice (some ⟨b2, off2, none⟩) x.1.length xc, .int .u8 (x.2.1 : Int), .string x.2.2] 83)).alloc (.cells #[.string nm, .int .u8 (x.2.1 : Int), .string x.2.2, .slice none 0 0] 25)).drew := ⟨_, rfl⟩
        have hB2 : Below wr.heap.size wr W2 := by rw [hW2]; exact (((Below.refl _ _).alloc (Nat.le_refl _) _).alloc (by simp) _).drew
        have hs2 : W2.heap.size = wr.heap.size + 2 := by rw [hW2]; simp [World.drew]
        have hF2 : Ft.FileAt W2 (wr.heap.size + 1) (.mk nm x.2.1 x.2.2 []) none 0 := by
          rw [hW2]
          have h := Ft.file_new (wr.alloc (.cells #[.slice (some ⟨b2, off2, none⟩) x.1.length xc, .int .u8 (x.2.1 : Int), .string x.2.2] 83)) (.mk nm x.2.1 x.2.2 []) none 0
          rw [World.size_alloc] at h
          exact h
        rw [← hW2]
        clear hW2
        have HB2 : Hid _ := hB2
        have HF2 : Hid _ := hF2
        have C := HIH.out W2 (by simp only [List.length_cons] at hL; omega) (by omega) (fun y hy => HP.out y (List.mem_cons_of_mem _ hy)) HTl.out (HW1.out.trans (hB2.mono HW1.out.size))
        rw [show ((n + 1 : Nat) : Int) = (n : Int) + 1 by omega] at C
        have HC : Hid _ := C
        clear hB2 hF2 C HIH HTl HP HW1
        go_wp2_with fail
        refine Calls.mono HC.out ?_
        rintro e w3 ⟨v, a3, c3, rfl, hFr, hTd, hRp, b3⟩
        obtain ⟨a5, cap5, hv, hn5⟩ := Ft.FRow.nd (T := .mk nm x.2.1 x.2.2 K) hFr (by show K.length ≤ _; simp only [List.length_cons] at hL; omega)
        have hv : v = .slice a5 K.length cap5 := hv
        subst hv
        have hF3 := Ft.FileAt.under HF2.out b3
        have hs3 := b3.size
        obtain ⟨c0, c1, c2, c3'⟩ := hF3.four
        have g3 := hF3.frozen 3
        obtain ⟨e0, e1, e2, e3⟩ := (hF3.putK K a5 cap5).four
        have HF3 : Hid _ := hF3
        have HTd : Hid (Ft.Tds W0 a3 c3 R ∧ ∀ x ∈ R, x.1.length ≤ 64) := ⟨hTd, hRp⟩
        have HN5 : Hid _ := hn5
        have HB3 : Hid (Below wr.heap.size wr w3) := HB2.out.trans (b3.mono (by omega))
        clear hFr hTd hRp b3 hF3 hn5 HC HF2 HB2
        have hB4 : Below wr.heap.size wr (w3.setCell ⟨wr.heap.size + 1, 3, none⟩ (.slice a5 K.length cap5)) := HB3.out.setCell (p := ⟨wr.heap.size + 1, 3, none⟩) (by simp) _
        have hs4 : (w3.setCell ⟨wr.heap.size + 1, 3, none⟩ (.slice a5 K.length cap5)).heap.size = w3.heap.size := by simp
        have hro : ∀ k, u6.ownBlock = some k → k < wr.heap.size := by
          obtain ⟨L, _, ox, _⟩ := HF.out
          exact fun k hk => (ox.lt k hk).2
        obtain ⟨L, hL4, ox, ex⟩ := Ft.FRow.below HF.out hB4
        have hLn : L.length = F.length := by rw [← hL4]; simp
        have hx5 : Ft.Fd (w3.setCell ⟨wr.heap.size + 1, 3, none⟩ (.slice a5 K.length cap5)) (fun b => w.heap.size ≤ b ∧ b < (w3.setCell ⟨wr.heap.size + 1, 3, none⟩ (.slice a5 K.length cap5)).heap.size ∧ some b ≠ u6.ownBlock) (.mk nm x.2.1 x.2.2 K) a5 cap5 :=
          HN5.out.same (fun b hb => heap_setCell_other w3 ⟨wr.heap.size + 1, 3, none⟩ b _ (show b ≠ wr.heap.size + 1 by omega)) (fun b hb => ⟨by omega, by rw [hs4]; exact hb.2, fun e => by have := hro b e.symm; omega⟩)
        have HHB : Hid _ := hB4
        have hLc : F.length + 1 ≤ 1048576 := by simp only [List.length_cons] at hFL; omega
        clear hB4 HN5 HB3
        go_wp2_with (at_builtin; refine Ft.wpList_append_far _ rfl _ _ 23 rfl w.heap.size 25 i0 (.agg #[.string ⟨#[]⟩, .int .u8 0, .string ⟨#[]⟩, .slice none 0 0]) 4 64 Tryz.underlying23 hi0 hz0 hz1 hz2 rfl (by decide) _ _ _ rfl (ox.alloc _) ⟨w3.heap.size, 0, none⟩ 1 1 (Ft.fourL (.mk nm x.2.1 x.2.2 K, a5, cap5)) rfl rfl ?c1 ?c2 ?c3 ?c4 ?c5 ?_)
        case c1 => rw [← hs4]; exact Ft.four_new (w3.setCell ⟨wr.heap.size + 1, 3, none⟩ (.slice a5 K.length cap5)) (.mk nm x.2.1 x.2.2 K) a5 cap5
        case c2 => exact Ft.four_one _
        case c3 => unfold maxLen; omega
        case c4 => omega
        case c5 => simp; omega
        intro v5 w5 hown5 hgr5 _ hat5
        have hB5 : Below w.heap.size (w3.setCell ⟨wr.heap.size + 1, 3, none⟩ (.slice a5 K.length cap5)) w5 := ((Below.refl _ _).alloc (by omega) _).grown hgr5 (by simp; omega) (fun g hg => (ox.lt g hg).1)
        rw [show F.length + 1 = L.length + 1 by omega] at hown5
        have NR5 := Ft.frow_snoc ex hx5 hown5 hgr5 hat5 (by rw [hs4]; omega)
        rw [hL4] at NR5
        have hBw5 : Below w.heap.size w w5 := (HB.out.trans (HHB.out.mono hsB)).trans hB5
        clear hgr5 hown5 hat5 hB5 ex ox hx5 HF HB HHB
        go_wp2_with fail
        refine ⟨⟨R, F ++ [.mk nm x.2.1 x.2.2 K], a3, c3, rfl, HTd.out.1, NR5, by simp only [List.length_cons] at hL; omega, by simp only [List.length_append, List.length_cons, List.length_nil] at hFL ⊢; omega, HTd.out.2, ?_, hBw5⟩, ?_⟩
        · show _ = _
          rw [HE2.out]
          simp
        · show R.length < r.length + 1
          omega
      · have j1 : ¬ (n : Int) < (x.1.length : Int) := by omega
        have j1' : decide ((n : Int) < (x.1.length : Int)) = false := decide_eq_false j1
        have HE2 : Hid (Ft.bldT n l = (F, x :: r)) := by show _ = _; rw [HE.out, Ft.bldT_stop hlt]; simp
        clear HE
        go_wp2_with fail
        go_ret2
        rw [HE2.out]
        exact ⟨u6, some ⟨b, off, none⟩, cap', rfl, HF.out, HT.out, fun y0 y1 y2 hy => HP.out (y0, y1, y2) hy, HB.out⟩
end Go.Proofs.YtfbhofomcenabaaGreatDoor
