/- What trees.Put answers. What trees.Drop answers. -/
import Derived.Test.YtfbhofomcenabaaGreatDoorTX
import Derived.Test.YtfbhofomcenabaaGreatDoorFWithC
import Derived.Test.YtfbhofomcenabaaGreatDoorUC
import Derived.Test.YtfbhofomcenabaaGreatDoorTS
import Derived.Deep.DeepCutAuto
namespace Go.Proofs.YtfbhofomcenabaaGreatDoor
open Go Go.RowKit

namespace Ft
/-- The blocks of Put: its tree, its file, its answer. -/
structure PutW (w : World) (T : FT) (a : Option Addr) (cap : Nat) (f : FT) (fa : Option Addr) (fc : Nat) (V : World) : Prop where
  t : FileAt V w.heap.size T a cap
  g : FileAt V (w.heap.size + 1) f fa fc
  z : FileAt V (w.heap.size + 2) zF none 0
  ft : Fd V (· < w.heap.size) T a cap
  ff : Fd V (· < w.heap.size) f fa fc
  bel : Below w.heap.size w V
theorem PutW.under {w V V' : World} {T f : FT} {a fa : Option Addr} {cap fc : Nat} (h : PutW w T a cap f fa fc V) (hb : Below V.heap.size V V') : PutW w T a cap f fa fc V' :=
  ⟨h.t.under hb, h.g.under hb, h.z.under hb, h.ft.under (hb.mono h.bel.size), h.ff.under (hb.mono h.bel.size), h.bel.trans (hb.mono h.bel.size)⟩
theorem look_code : ∀ (p : List ByteArray) (T : FT) (n : Nat), lookR T p = .inl n → n ≠ 0
  | [], T, n, h => by rw [lookR] at h; cases h
  | x :: r, T, n, h => by
    rw [lookR] at h
    split at h
    · split at h
      · cases h; omega
      · rename_i V _
        exact look_code r V n h
    · cases h; omega
theorem hold_code {T : FT} {p : List ByteArray} {n : Nat} (h : holdR T p = .inl n) : n ≠ 0 := by
  unfold holdR at h
  split at h
  · split at h
    · cases h; omega
    · exact look_code _ _ _ h
  · cases h; omega
theorem fnd_inl {r : Sum Nat FT} {U : FT} {code : Int} (h : FindIs r U code) (hc : code ≠ 0) : ∃ n : Nat, r = .inl n ∧ code = n ∧ U = zF := by
  cases r with
  | inl n => exact ⟨n, rfl, h.2, h.1⟩
  | inr V => exact absurd h.2 hc
theorem fnd_inr {r : Sum Nat FT} {U : FT} (h : FindIs r U 0) (hr : ∀ n, r = .inl n → n ≠ 0) : r = .inr U := by
  cases r with
  | inl n => have h1 := h.2; have h2 := hr n rfl; omega
  | inr V => rw [h.1]
theorem Fd.ren {w : World} {P : Nat → Prop} {f : FT} {a : Option Addr} {c : Nat} (h : Fd w P f a c) (x : ByteArray) : Fd w P (renT f x) a c := by
  cases h with
  | mk vs len nil room most lies sub => exact .mk vs len nil room most lies sub
/-- What Put holds behind its tree's being made: the block n. -/
def PutM (w : World) (T : FT) (a : Option Addr) (cap : Nat) (f : FT) (fa : Option Addr) (fc : Nat) (O : FT) (n : Nat) (V : World) : Prop :=
  ∃ a5 c5, PutW w T a cap f fa fc V ∧ FileAt V n O a5 c5 ∧ Fd V (· < V.heap.size) O a5 c5 ∧ w.heap.size + 2 < n
theorem FileAt.cellsQ {w : World} {g : Nat} {T : FT} {a : Option Addr} {c : Nat} (h : FileAt w g T a c) : w.cell? ⟨g, 0, none⟩ = some (.string T.nm) ∧ w.cell? ⟨g, 1, none⟩ = some (.int .u8 (T.k : Int)) ∧ w.cell? ⟨g, 2, none⟩ = some (.string T.d) ∧ w.cell? ⟨g, 3, none⟩ = some (.slice a T.kids.length c) := by
  obtain ⟨h0, h1, h2, h3⟩ := h.four
  rw [Nat.zero_add] at h1 h2 h3
  exact ⟨h0, h1, h2, h3⟩
theorem bel_of_look : ∀ (p : List ByteArray) (T D : FT) (q : List ByteArray), belT T q = none → lookR T p = .inr D → ∃ q', belT D q' = none
  | [], T, D, q, hb, h => by rw [lookR] at h; cases h; exact ⟨q, hb⟩
  | x :: r, T, D, q, hb, h => by
    obtain ⟨_, V, hV, hD⟩ := look_kid h
    obtain ⟨i, hi, e⟩ := kid_mem hV
    exact bel_of_look r V D _ (e ▸ (bel_kid hb hi).2) hD
theorem FdL.newZ {V : World} {x : FS} (h : Hid (FdL V (fun k => k < V.heap.size ∧ ¬ False) x)) (o : Obj) : Hid (FdL (V.alloc o) (fun k => k < (V.alloc o).heap.size ∧ ¬ k = V.heap.size) x) :=
  Fd.same h (fun k hk => Below.heap_alloc _ _ _ hk.1) (fun k hk => ⟨by have := hk.1; simp; omega, by have := hk.1; omega⟩)
theorem Fd.newZ {V : World} {T : FT} {a : Option Addr} {c : Nat} (h : Hid (Fd V (fun k => k < V.heap.size ∧ ¬ False) T a c)) (o : Obj) : Hid (Fd (V.alloc o) (fun k => k < (V.alloc o).heap.size ∧ ¬ k = V.heap.size) T a c) :=
  Fd.same h (fun k hk => Below.heap_alloc _ _ _ hk.1) (fun k hk => ⟨by have := hk.1; simp; omega, by have := hk.1; omega⟩)
theorem last_at {p : List ByteArray} {m : Nat} (h : p.length = m + 1) (hm : m < p.length) : lastN p = p[m] := by
  unfold lastN
  rw [List.getD_eq_getElem?_getD, show p.length - 1 = m by omega, List.getElem?_eq_getElem hm]
  rfl
end Ft

set_option maxRecDepth 100000 in
set_option maxHeartbeats 4000000 in
theorem tputx_any (T f : Ft.FT) (p : List ByteArray) (a ap fa : Option Addr) (cap cp fc : Nat) (w : World) (hN : Ft.Fd w (· < w.heap.size) T a cap) (hz : Ft.szT T = true) (hP : Strs w ap cp p) (hf : Ft.Fd w (· < w.heap.size) f fa fc) (hzf : Ft.szT f = true) (hfd : f.d.size ≤ 1048576) (hpz : ∀ s ∈ p, s.size ≤ 1048576) (hc : Ft.cntT T < 1048576) :
    Calls Tryz.prog 15 #[Ft.fdV T a cap, .slice ap p.length cp, Ft.fdV f fa fc] w (Ft.GetX w (Ft.putR T p f)) := by
  obtain ⟨W, hW⟩ : ∃ W, W = ((w.alloc (.cells (Ft.fdA T a cap) 25)).alloc (.cells (Ft.fdA f fa fc) 25)).alloc (.cells #[.string ⟨#[]⟩, .int .u8 0, .string ⟨#[]⟩, .slice none 0 0] 25) := ⟨_, rfl⟩
  have hB : Below w.heap.size w W := by rw [hW]; exact (((Below.refl _ _).alloc (Nat.le_refl _) _).alloc (by simp) _).alloc (by simp; omega) _
  have hF : Ft.PutW w T a cap f fa fc W := by
    refine ⟨?_, ?_, ?_, hN.under hB, hf.under hB, hB⟩
    · rw [hW]; exact ((Ft.file_new w T a cap).alloc _).alloc _
    · rw [hW]
      have := (Ft.file_new (w.alloc (.cells (Ft.fdA T a cap) 25)) f fa fc).alloc (.cells #[.string ⟨#[]⟩, .int .u8 0, .string ⟨#[]⟩, .slice none 0 0] 25)
      simpa using this
    · rw [hW]
      have := Ft.file_zero ((w.alloc (.cells (Ft.fdA T a cap) 25)).alloc (.cells (Ft.fdA f fa fc) 25))
      simpa using this
  have HW : Hid (W = ((w.alloc (.cells #[.string T.nm, .int .u8 (T.k : Int), .string T.d, .slice a T.kids.length cap] 25)).alloc (.cells #[.string f.nm, .int .u8 (f.k : Int), .string f.d, .slice fa f.kids.length fc] 25)).alloc (.cells #[.string ⟨#[]⟩, .int .u8 0, .string ⟨#[]⟩, .slice none 0 0] 25)) := hW
  have HF : Hid (Ft.PutW w T a cap f fa fc W ∧ Strs w ap cp p) := ⟨hF, hP⟩
  have HZ : Hid (Ft.szT T = true ∧ Ft.szT f = true ∧ f.d.size ≤ 1048576 ∧ (∀ s ∈ p, s.size ≤ 1048576) ∧ Ft.cntT T < 1048576) := ⟨hz, hzf, hfd, hpz, hc⟩
  have C1 := tholder_any (· < w.heap.size) T p a ap cap cp W (fun b (h : b < w.heap.size) => Nat.lt_of_lt_of_le h hB.size) (hN.under hB) hz (hP.below hB)
  have hpl := hP.len
  have hpr := hP.room
  have hTl := hN.room.1
  have hfl := hf.room.1
  clear hW hB hF hN hP hz hzf hfd hpz hc hf
  simp only [Ft.fdV, Ft.fdA] at C1 ⊢
  go_enter Tryz.func15, Tryz.ntmps15
  go_wp2_with fail
  rw [← HW.out]
  clear HW
  refine C1.mono ?_
  clear C1
  rintro e w1 ⟨D, b, c, code, rfl, K1⟩
  simp only
  have hqW : w.heap.size + 2 < W.heap.size := HF.out.1.z.lt
  have hq1 : W.heap.size ≤ w1.heap.size := K1.out.2.2.size
  obtain ⟨w2, hw2⟩ : ∃ w2, w2 = w1.alloc (.cells (Ft.fdA D b c) 25) := ⟨_, rfl⟩
  have HW2 : Hid (w2 = w1.alloc (.cells #[.string D.nm, .int .u8 (D.k : Int), .string D.d, .slice b D.kids.length c] 25)) := hw2
  have b2 : Below W.heap.size W w2 := by rw [hw2]; exact K1.out.2.2.alloc hq1 _
  have HP2 : Hid (Ft.PutW w T a cap f fa fc w2) := HF.out.1.under b2
  have hD2 : Ft.FileAt w2 w1.heap.size D b c := by rw [hw2]; exact Ft.file_new w1 D b c
  have HD2 : Hid (Ft.FileAt w2 w1.heap.size D b c ∧ Ft.Fd w2 (· < w.heap.size) D b c ∧ Ft.FindIs (Ft.holdR T p) D code ∧ Strs w2 ap cp p) := ⟨hD2, by
    rw [hw2]
    exact K1.out.2.1.under ((Below.refl _ _).alloc (by omega) _), K1.out.1, HF.out.2.below HP2.out.bel⟩
  have hDl := K1.out.2.1.room.1
  have HST : Hid (Strs w ap cp p) := HF.out.2
  have hq2 : w1.heap.size < w2.heap.size := hD2.lt
  clear hw2 b2 hD2 K1 HF
  go_upto_region 2 with fail
  rw [← HW2.out]
  clear HW2
  have z0 : w2.cell? ⟨w.heap.size + 2, 0, none⟩ = some (.string ⟨#[]⟩) := HP2.out.z.four.c0
  have z1 : w2.cell? ⟨w.heap.size + 2, 1, none⟩ = some (.int .u8 0) := HP2.out.z.four.c1
  have z2 : w2.cell? ⟨w.heap.size + 2, 2, none⟩ = some (.string ⟨#[]⟩) := HP2.out.z.four.c2
  have z3 : w2.cell? ⟨w.heap.size + 2, 3, none⟩ = some (.slice none 0 0) := HP2.out.z.four.c3
  have zf := HP2.out.z.frozen
  cases hc : (code != 0)
  · have hc0 : code = 0 := by simpa using hc
    subst hc0
    have HO : Hid (Ft.holdR T p = .inr D) := Ft.fnd_inr HD2.out.2.2.1 (fun n h => Ft.hold_code h)
    have hk1 : w2.cell? ⟨w1.heap.size, 1, none⟩ = some (.int .u8 (D.k : Int)) := by
      have := HD2.out.1.four.c1
      rw [Nat.zero_add] at this
      exact this
    by_cases hk : D.k = 1
    · obtain ⟨hr, hp0, hlk⟩ := Ft.hold_ok HO.out
      have hki : ¬ ((D.k : Int) ≠ 1) := by omega
      have hkb : ((D.k : Int) != 1) = false := by simp [hk]
      obtain ⟨m, hm⟩ : ∃ m : Nat, p.length = m + 1 := ⟨p.length - 1, by omega⟩
      have hmp : m < p.length := by omega
      obtain ⟨pb, po, rfl, hpb, hcell⟩ := HD2.out.2.2.2.cells m hmp
      rw [← Ft.last_at hm hmp] at hcell
      have HX : Hid (Ft.rightT T = true ∧ p.length ≠ 0 ∧ Ft.lookR T (Ft.headsN p) = .inr D ∧ D.k = 1 ∧ (Ft.headsN p).length = m ∧ (Ft.lastN p).size ≤ 1048576) := ⟨hr, hp0, hlk, hk, by unfold Ft.headsN; rw [List.length_take]; omega, by rw [Ft.last_at hm hmp]; exact HZ.out.2.2.2.1 _ (List.getElem_mem hmp)⟩
      have hmi : ((m + 1 : Nat) : Int) - 1 = (m : Int) := by omega
      have hw1 : IntKind.i64.wrap (m : Int) = (m : Int) := by rw [IntKind.wrap_i64]; omega
      have hm0 : (0 : Int) ≤ (m : Int) := by omega
      have hml : (m : Int) < ((m + 1 : Nat) : Int) := by omega
      have hmb : m + 1 ≤ 8796093022208 := by omega
      have hmc : (m : Int) ≤ (cp : Int) := by omega
      have hmn : m ≤ cp := by omega
      have hff := HP2.out.g.frozen
      have hf0 : w2.cell? ⟨w.heap.size + 1, 0, none⟩ = some (.string f.nm) := HP2.out.g.four.c0
      rw [hm]
      clear hk hr hp0 hlk hc z0 z1 z2 z3 zf hpl
      go_upto_region 8 with fail
      obtain ⟨W4, hW4⟩ : ∃ W4, W4 = w2.setCell ⟨w.heap.size + 1, 0, none⟩ (.string (Ft.lastN p)) := ⟨_, rfl⟩
      rw [← hW4]
      have hs4 : W4.heap.size = w2.heap.size := by rw [hW4]; simp
      have hBs : Below w.heap.size w2 W4 := by rw [hW4]; exact (Below.refl _ _).setCell (p := ⟨w.heap.size + 1, 0, none⟩) (by show w.heap.size ≤ w.heap.size + 1; omega) _
      have hoth : ∀ k, k ≠ w.heap.size + 1 → W4.heap[k]? = w2.heap[k]? := fun k hk => by rw [hW4]; exact heap_setCell_other w2 ⟨w.heap.size + 1, 0, none⟩ k _ hk
      have PW : Ft.PutW w T a cap (Ft.renT f (Ft.lastN p)) fa fc W4 := ⟨(hoth _ (by omega)).trans HP2.out.t, by rw [hW4]; exact heap_setCell_same w2 (w.heap.size + 1) 0 _ _ _ HP2.out.g, (hoth _ (by omega)).trans HP2.out.z, HP2.out.ft.under hBs, (HP2.out.ff.under hBs).ren _, HP2.out.bel.trans hBs⟩
      have HPW : Hid (Ft.PutW w T a cap (Ft.renT f (Ft.lastN p)) fa fc W4 ∧ Ft.FileAt W4 w1.heap.size D b c ∧ Ft.Fd W4 (· < w.heap.size) D b c ∧ Strs W4 (some ⟨pb, po, none⟩) cp p) := ⟨PW, (hoth _ (by omega)).trans HD2.out.1, HD2.out.2.1.under hBs, HST.out.below (HP2.out.bel.trans hBs)⟩
      obtain ⟨IN, hIN⟩ : ∃ IN, IN = Ft.insN D.kids (Ft.lastN p) [Ft.renT f (Ft.lastN p)] := ⟨_, rfl⟩
      obtain ⟨O, hO⟩ : ∃ O, O = Ft.withR T (Ft.headsN p) IN := ⟨_, rfl⟩
      have HO2 : Hid (IN = Ft.insN D.kids (Ft.lastN p) [Ft.renT f (Ft.lastN p)] ∧ O = Ft.withR T (Ft.headsN p) IN) := ⟨hIN, hO⟩
      have hws : w.heap.size + 2 < W4.heap.size := PW.z.lt
      have HS8 : Hid (∀ V, Below W4.heap.size W4 V → V.cell? ⟨w.heap.size, 0, none⟩ = some (.string T.nm) ∧ V.cell? ⟨w.heap.size, 1, none⟩ = some (.int .u8 (T.k : Int)) ∧ V.cell? ⟨w.heap.size, 2, none⟩ = some (.string T.d) ∧ V.cell? ⟨w.heap.size, 3, none⟩ = some (.slice a T.kids.length cap) ∧ V.cell? ⟨w1.heap.size, 3, none⟩ = some (.slice b D.kids.length c) ∧ V.cell? ⟨w.heap.size + 1, 0, none⟩ = some (.string (Ft.lastN p)) ∧ V.cell? ⟨w.heap.size + 1, 1, none⟩ = some (.int .u8 (f.k : Int)) ∧ V.cell? ⟨w.heap.size + 1, 2, none⟩ = some (.string f.d) ∧ V.cell? ⟨w.heap.size + 1, 3, none⟩ = some (.slice fa f.kids.length fc)) := fun V hV => by
        obtain ⟨u0, u1, u2, u3⟩ := (HPW.out.1.under hV).t.cellsQ
        obtain ⟨v0, v1, v2, v3⟩ := (HPW.out.1.under hV).g.cellsQ
        exact ⟨u0, u1, u2, u3, (Ft.FileAt.under HPW.out.2.1 hV).cellsQ.2.2.2, v0, v1, v2, v3⟩
      have HSw : Hid (∀ (Z : Nat → Prop) (V : World) (n : Nat), (∀ k, Z k → W4.heap.size ≤ k ∧ k < V.heap.size) → Below W4.heap.size W4 V → Ft.FileAt V n (Ft.renT f (Ft.lastN p)) fa fc → ¬ Z n → Calls Tryz.prog 56 #[.slice b D.kids.length c, .string (Ft.lastN p), .slice (some ⟨n, 0, none⟩) 1 1] V fun e w' => ∃ a4 c4, e = .returned (.slice a4 IN.length c4) ∧ Hid (Ft.FdL w' (fun k => k < w'.heap.size ∧ ¬ Z k) (IN, a4, c4)) ∧ Below V.heap.size V w') := fun Z V n hZ hV hn hnz => by
        have hsV := hV.size
        have PV := HPW.out.1.under hV
        have hold : ∀ k, k < w.heap.size → k < V.heap.size ∧ ¬ Z k := fun k hk => ⟨by omega, fun h => by have := (hZ k h).1; omega⟩
        have HD := (HPW.out.2.2.1.under (hV.mono (by omega))).mono (Q := fun k => k < V.heap.size ∧ ¬ Z k) (fun k hk => hold k hk)
        have HFf := PV.ff.mono (Q := fun k => k < V.heap.size ∧ ¬ Z k) (fun k hk => hold k hk)
        have hDk := HD.room.1
        have hDc : D.kids.length < 1048576 := by have h1 := Ft.cnt_look _ _ _ HX.out.2.2.1; have h2 := Ft.cnt_kids D; have := HZ.out.2.2.2.2; omega
        have hrD := Ft.bel_of_look _ _ _ _ (Ft.right_bel HX.out.1) HX.out.2.2.1
        refine (swap_ins D (Ft.renT f (Ft.lastN p)) (Ft.lastN p) b c fa fc n _ V (fun k h => h.1) HD (Ft.bel_ris hrD.choose_spec) hn ⟨hn.lt, hnz⟩ HFf hDc).mono ?_
        rintro e w' ⟨a4, c4, rfl, h1, h2⟩
        rw [← HO2.out.1] at h1 ⊢
        have hs' := h2.size
        exact ⟨a4, c4, rfl, h1.mono (fun k h => by
          rcases h with h | h
          · exact ⟨by omega, h.2⟩
          · exact ⟨h.2, fun q => by have := (hZ k q).2; omega⟩), h2⟩
      have HWt : Hid (∀ (Z : Nat → Prop) (V : World) (a4 : Option Addr) (c4 : Nat), (∀ k, Z k → W4.heap.size ≤ k ∧ k < V.heap.size) → Below W4.heap.size W4 V → Hid (Ft.FdL V (fun k => k < V.heap.size ∧ ¬ Z k) (IN, a4, c4)) → Calls Tryz.prog 55 #[.agg #[.string T.nm, .int .u8 (T.k : Int), .string T.d, .slice a T.kids.length cap], .slice (some ⟨pb, po, none⟩) m cp, .slice a4 IN.length c4] V fun e w' => ∃ a5 c5, e = .returned (.agg #[.string O.nm, .int .u8 (O.k : Int), .string O.d, .slice a5 O.kids.length c5]) ∧ Hid (Ft.Fd w' (fun k => k < w'.heap.size ∧ ¬ Z k) O a5 c5) ∧ Below V.heap.size V w') := fun Z V a4 c4 hZ hV hF => by
        have hsV := hV.size
        have PV := HPW.out.1.under hV
        have hold : ∀ k, k < w.heap.size → k < V.heap.size ∧ ¬ Z k := fun k hk => ⟨by omega, fun h => by have := (hZ k h).1; omega⟩
        have hS : Strs V (some ⟨pb, po, none⟩) cp (Ft.headsN p) := by
          have := (HPW.out.2.2.2.take m).below hV
          unfold Ft.headsN
          rw [show p.length - 1 = m by omega]
          exact this
        have h := twith_any (Ft.headsN p) T a (some ⟨pb, po, none⟩) cap cp (IN, a4, c4) _ V (fun k h => h.1) (PV.ft.mono (Q := fun k => k < V.heap.size ∧ ¬ Z k) (fun k hk => hold k hk)) hF hS (by rw [HX.out.2.2.2.2.1]; omega) ⟨[], Ft.right_bel HX.out.1⟩ ⟨D, HX.out.2.2.1⟩
        rw [HX.out.2.2.2.2.1] at h
        refine h.mono ?_
        rintro e w' ⟨a5, c5, rfl, h12⟩
        have h1 := h12.out.1
        have h2 := h12.out.2
        have e9 : Ft.withR T (Ft.headsN p) (IN, a4, c4).1 = O := HO2.out.2.symm
        rw [e9] at h1
        rw [e9]
        have hs' := h2.size
        exact ⟨a5, c5, rfl, h1.mono (fun k h => by
          rcases h with h | h
          · exact ⟨by omega, h.2⟩
          · exact ⟨h.2, fun q => by have := (hZ k q).2; omega⟩), h2⟩
      have HEnd : Hid (∀ (V : World) (zz : Nat) (a5 : Option Addr) (c5 : Nat), W4.heap.size ≤ zz → Below W4.heap.size W4 V → Ft.FileAt V zz Ft.zF none 0 → Ft.Fd V (fun k => k < V.heap.size ∧ ¬ k = zz) O a5 c5 → Hid (Ft.PutM w T a cap (Ft.renT f (Ft.lastN p)) fa fc O zz (Ft.putF V zz O a5 c5))) := fun V zz a5 c5 hz hV hn hF => by
        have hp : Below W4.heap.size W4 (Ft.putF V zz O a5 c5) := Ft.putF_below hV hz
        exact ⟨a5, c5, HPW.out.1.under hp, hn.putF O a5 c5, hF.same (fun k hk => Ft.putF_other hk.2) (fun k hk => by simp; exact hk.1), by omega⟩
      have hbD : Below W4.heap.size W4 W4.drew := (Below.refl _ W4).drew
      have HS0 := HS8.out _ hbD
      clear hW4 hs4 hBs hoth PW hIN hO hf0 hff hcell hk1 HP2 HD2
      go_cut [11] (fun v wx => ∃ n, v = .pointer (some ⟨n, 0, none⟩) ∧ Hid (Ft.PutM w T a cap (Ft.renT f (Ft.lastN p)) fa fc O n wx))
      case first =>
        refine wp_region_held (S := fun w' => w'.cell? ⟨w.heap.size, 0, none⟩ = some (.string T.nm) ∧ w'.cell? ⟨w.heap.size, 1, none⟩ = some (.int .u8 (T.k : Int)) ∧ w'.cell? ⟨w.heap.size, 2, none⟩ = some (.string T.d) ∧ w'.cell? ⟨w.heap.size, 3, none⟩ = some (.slice a T.kids.length cap) ∧ w'.cell? ⟨w1.heap.size, 3, none⟩ = some (.slice b D.kids.length c) ∧ w'.cell? ⟨w.heap.size + 1, 0, none⟩ = some (.string (Ft.lastN p)) ∧ w'.cell? ⟨w.heap.size + 1, 1, none⟩ = some (.int .u8 (f.k : Int)) ∧ w'.cell? ⟨w.heap.size + 1, 2, none⟩ = some (.string f.d) ∧ w'.cell? ⟨w.heap.size + 1, 3, none⟩ = some (.slice fa f.kids.length fc)) (by kernel_rfl) ?_
        change wpAnyH Tryz.prog .any _ _ _ _ _ { tmps := #[.agg #[.string T.nm, .int .u8 (T.k : Int), .string T.d, .slice a T.kids.length cap], .slice (some ⟨pb, po, none⟩) (m + 1) cp, .agg #[.string f.nm, .int .u8 (f.k : Int), .string f.d, .slice fa f.kids.length fc], .pointer (some ⟨w.heap.size, 0, none⟩), undef, .pointer (some ⟨w.heap.size + 1, 0, none⟩), .pointer (some ⟨w.heap.size + 1 + 1, 0, none⟩), .int .i64 0, .pointer (some ⟨w1.heap.size, 0, none⟩), .int .i64 0, .int .i64 (m : Int), undef, undef, undef, .tuple #[.agg #[.string D.nm, .int .u8 (D.k : Int), .string D.d, .slice b D.kids.length c], .int .i64 0], .agg #[.string T.nm, .int .u8 (T.k : Int), .string T.d, .slice a T.kids.length cap], .slice (some ⟨pb, po, none⟩) (m + 1) cp, .tuple #[.agg #[.string D.nm, .int .u8 (D.k : Int), .string D.d, .slice b D.kids.length c], .int .i64 0], .agg #[.string D.nm, .int .u8 (D.k : Int), .string D.d, .slice b D.kids.length c], .int .i64 0, .int .i64 0, .bool false, undef, undef, .pointer (some ⟨w1.heap.size, 1, none⟩), .int .u8 (D.k : Int), .bool false, undef, .slice (some ⟨pb, po, none⟩) (m + 1) cp, .int .i64 ((m : Int) + 1), .int .i64 (m : Int), .slice (some ⟨pb, po, none⟩) (m + 1) cp, .int .i64 (m : Int), .pointer (some ⟨pb, po + m, none⟩), .string (Ft.lastN p), .pointer (some ⟨w.heap.size + 1, 0, none⟩), undef, undef, undef, undef, undef, undef, undef, undef, undef, undef, undef, undef, undef, undef, undef, undef, undef, undef, undef, undef, undef, undef, undef], defers := [] } W4.drew
        refine wpAnyH_take (i := 0) (v := .agg #[.string T.nm, .int .u8 (T.k : Int), .string T.d, .slice a T.kids.length cap]) rfl (by kernel_rfl) (by kernel_rfl) (by kernel_rfl) (fun _ _ _ h => h) (Or.inl ⟨by rfl, ?_⟩) HS0 ?_
        · intro w9 hw9; obtain ⟨y0, y1, y2, y3, y4, y5, y6, y7, y8⟩ := hw9; go_simp
        change wpAnyH Tryz.prog .any _ _ _ _ _ { tmps := #[.agg #[.string T.nm, .int .u8 (T.k : Int), .string T.d, .slice a T.kids.length cap], .slice (some ⟨pb, po, none⟩) (m + 1) cp, .agg #[.string f.nm, .int .u8 (f.k : Int), .string f.d, .slice fa f.kids.length fc], .pointer (some ⟨w.heap.size, 0, none⟩), undef, .pointer (some ⟨w.heap.size + 1, 0, none⟩), .pointer (some ⟨w.heap.size + 1 + 1, 0, none⟩), .int .i64 0, .pointer (some ⟨w1.heap.size, 0, none⟩), .int .i64 0, .int .i64 (m : Int), undef, undef, undef, .tuple #[.agg #[.string D.nm, .int .u8 (D.k : Int), .string D.d, .slice b D.kids.length c], .int .i64 0], .agg #[.string T.nm, .int .u8 (T.k : Int), .string T.d, .slice a T.kids.length cap], .slice (some ⟨pb, po, none⟩) (m + 1) cp, .tuple #[.agg #[.string D.nm, .int .u8 (D.k : Int), .string D.d, .slice b D.kids.length c], .int .i64 0], .agg #[.string D.nm, .int .u8 (D.k : Int), .string D.d, .slice b D.kids.length c], .int .i64 0, .int .i64 0, .bool false, undef, undef, .pointer (some ⟨w1.heap.size, 1, none⟩), .int .u8 (D.k : Int), .bool false, undef, .slice (some ⟨pb, po, none⟩) (m + 1) cp, .int .i64 ((m : Int) + 1), .int .i64 (m : Int), .slice (some ⟨pb, po, none⟩) (m + 1) cp, .int .i64 (m : Int), .pointer (some ⟨pb, po + m, none⟩), .string (Ft.lastN p), .pointer (some ⟨w.heap.size + 1, 0, none⟩), .agg #[.string T.nm, .int .u8 (T.k : Int), .string T.d, .slice a T.kids.length cap], undef, undef, undef, undef, undef, undef, undef, undef, undef, undef, undef, undef, undef, undef, undef, undef, undef, undef, undef, undef, undef, undef], defers := [] } W4.drew
        refine wpAnyH_take (i := 1) (v := .slice (some ⟨pb, po, none⟩) (m + 1) cp) rfl (by kernel_rfl) (by kernel_rfl) (by kernel_rfl) (fun _ _ _ h => h) (Or.inl ⟨by rfl, ?_⟩) HS0 ?_
        · intro w9 hw9; obtain ⟨y0, y1, y2, y3, y4, y5, y6, y7, y8⟩ := hw9; go_simp
        change wpAnyH Tryz.prog .any _ _ _ _ _ { tmps := #[.agg #[.string T.nm, .int .u8 (T.k : Int), .string T.d, .slice a T.kids.length cap], .slice (some ⟨pb, po, none⟩) (m + 1) cp, .agg #[.string f.nm, .int .u8 (f.k : Int), .string f.d, .slice fa f.kids.length fc], .pointer (some ⟨w.heap.size, 0, none⟩), undef, .pointer (some ⟨w.heap.size + 1, 0, none⟩), .pointer (some ⟨w.heap.size + 1 + 1, 0, none⟩), .int .i64 0, .pointer (some ⟨w1.heap.size, 0, none⟩), .int .i64 0, .int .i64 (m : Int), undef, undef, undef, .tuple #[.agg #[.string D.nm, .int .u8 (D.k : Int), .string D.d, .slice b D.kids.length c], .int .i64 0], .agg #[.string T.nm, .int .u8 (T.k : Int), .string T.d, .slice a T.kids.length cap], .slice (some ⟨pb, po, none⟩) (m + 1) cp, .tuple #[.agg #[.string D.nm, .int .u8 (D.k : Int), .string D.d, .slice b D.kids.length c], .int .i64 0], .agg #[.string D.nm, .int .u8 (D.k : Int), .string D.d, .slice b D.kids.length c], .int .i64 0, .int .i64 0, .bool false, undef, undef, .pointer (some ⟨w1.heap.size, 1, none⟩), .int .u8 (D.k : Int), .bool false, undef, .slice (some ⟨pb, po, none⟩) (m + 1) cp, .int .i64 ((m : Int) + 1), .int .i64 (m : Int), .slice (some ⟨pb, po, none⟩) (m + 1) cp, .int .i64 (m : Int), .pointer (some ⟨pb, po + m, none⟩), .string (Ft.lastN p), .pointer (some ⟨w.heap.size + 1, 0, none⟩), .agg #[.string T.nm, .int .u8 (T.k : Int), .string T.d, .slice a T.kids.length cap], .slice (some ⟨pb, po, none⟩) (m + 1) cp, undef, undef, undef, undef, undef, undef, undef, undef, undef, undef, undef, undef, undef, undef, undef, undef, undef, undef, undef, undef, undef], defers := [] } W4.drew
        refine wpAnyH_take (i := 2) (v := .int .i64 (m : Int)) rfl (by kernel_rfl) (by kernel_rfl) (by kernel_rfl) (fun _ _ _ h => h) (Or.inl ⟨by rfl, ?_⟩) HS0 ?_
        · intro w9 hw9; obtain ⟨y0, y1, y2, y3, y4, y5, y6, y7, y8⟩ := hw9; go_simp
        change wpAnyH Tryz.prog .any _ _ _ _ _ { tmps := #[.agg #[.string T.nm, .int .u8 (T.k : Int), .string T.d, .slice a T.kids.length cap], .slice (some ⟨pb, po, none⟩) (m + 1) cp, .agg #[.string f.nm, .int .u8 (f.k : Int), .string f.d, .slice fa f.kids.length fc], .pointer (some ⟨w.heap.size, 0, none⟩), undef, .pointer (some ⟨w.heap.size + 1, 0, none⟩), .pointer (some ⟨w.heap.size + 1 + 1, 0, none⟩), .int .i64 0, .pointer (some ⟨w1.heap.size, 0, none⟩), .int .i64 0, .int .i64 (m : Int), undef, undef, undef, .tuple #[.agg #[.string D.nm, .int .u8 (D.k : Int), .string D.d, .slice b D.kids.length c], .int .i64 0], .agg #[.string T.nm, .int .u8 (T.k : Int), .string T.d, .slice a T.kids.length cap], .slice (some ⟨pb, po, none⟩) (m + 1) cp, .tuple #[.agg #[.string D.nm, .int .u8 (D.k : Int), .string D.d, .slice b D.kids.length c], .int .i64 0], .agg #[.string D.nm, .int .u8 (D.k : Int), .string D.d, .slice b D.kids.length c], .int .i64 0, .int .i64 0, .bool false, undef, undef, .pointer (some ⟨w1.heap.size, 1, none⟩), .int .u8 (D.k : Int), .bool false, undef, .slice (some ⟨pb, po, none⟩) (m + 1) cp, .int .i64 ((m : Int) + 1), .int .i64 (m : Int), .slice (some ⟨pb, po, none⟩) (m + 1) cp, .int .i64 (m : Int), .pointer (some ⟨pb, po + m, none⟩), .string (Ft.lastN p), .pointer (some ⟨w.heap.size + 1, 0, none⟩), .agg #[.string T.nm, .int .u8 (T.k : Int), .string T.d, .slice a T.kids.length cap], .slice (some ⟨pb, po, none⟩) (m + 1) cp, .int .i64 (m : Int), undef, undef, undef, undef, undef, undef, undef, undef, undef, undef, undef, undef, undef, undef, undef, undef, undef, undef, undef, undef], defers := [] } W4.drew
        refine wpAnyH_take (i := 3) (v := .slice (some ⟨pb, po, none⟩) m cp) rfl (by kernel_rfl) (by kernel_rfl) (by kernel_rfl) (fun _ _ _ h => h) (Or.inl ⟨by rfl, ?_⟩) HS0 ?_
        · intro w9 hw9; obtain ⟨y0, y1, y2, y3, y4, y5, y6, y7, y8⟩ := hw9; go_simp
        change wpAnyH Tryz.prog .any _ _ _ _ _ { tmps := #[.agg #[.string T.nm, .int .u8 (T.k : Int), .string T.d, .slice a T.kids.length cap], .slice (some ⟨pb, po, none⟩) (m + 1) cp, .agg #[.string f.nm, .int .u8 (f.k : Int), .string f.d, .slice fa f.kids.length fc], .pointer (some ⟨w.heap.size, 0, none⟩), undef, .pointer (some ⟨w.heap.size + 1, 0, none⟩), .pointer (some ⟨w.heap.size + 1 + 1, 0, none⟩), .int .i64 0, .pointer (some ⟨w1.heap.size, 0, none⟩), .int .i64 0, .int .i64 (m : Int), undef, undef, undef, .tuple #[.agg #[.string D.nm, .int .u8 (D.k : Int), .string D.d, .slice b D.kids.length c], .int .i64 0], .agg #[.string T.nm, .int .u8 (T.k : Int), .string T.d, .slice a T.kids.length cap], .slice (some ⟨pb, po, none⟩) (m + 1) cp, .tuple #[.agg #[.string D.nm, .int .u8 (D.k : Int), .string D.d, .slice b D.kids.length c], .int .i64 0], .agg #[.string D.nm, .int .u8 (D.k : Int), .string D.d, .slice b D.kids.length c], .int .i64 0, .int .i64 0, .bool false, undef, undef, .pointer (some ⟨w1.heap.size, 1, none⟩), .int .u8 (D.k : Int), .bool false, undef, .slice (some ⟨pb, po, none⟩) (m + 1) cp, .int .i64 ((m : Int) + 1), .int .i64 (m : Int), .slice (some ⟨pb, po, none⟩) (m + 1) cp, .int .i64 (m : Int), .pointer (some ⟨pb, po + m, none⟩), .string (Ft.lastN p), .pointer (some ⟨w.heap.size + 1, 0, none⟩), .agg #[.string T.nm, .int .u8 (T.k : Int), .string T.d, .slice a T.kids.length cap], .slice (some ⟨pb, po, none⟩) (m + 1) cp, .int .i64 (m : Int), .slice (some ⟨pb, po, none⟩) m cp, undef, undef, undef, undef, undef, undef, undef, undef, undef, undef, undef, undef, undef, undef, undef, undef, undef, undef, undef], defers := [] } W4.drew
        refine wpAnyH_take (i := 4) (v := .pointer (some ⟨w1.heap.size, 3, none⟩)) rfl (by kernel_rfl) (by kernel_rfl) (by kernel_rfl) (fun _ _ _ h => h) (Or.inl ⟨by rfl, ?_⟩) HS0 ?_
        · intro w9 hw9; obtain ⟨y0, y1, y2, y3, y4, y5, y6, y7, y8⟩ := hw9; go_simp
        change wpAnyH Tryz.prog .any _ _ _ _ _ { tmps := #[.agg #[.string T.nm, .int .u8 (T.k : Int), .string T.d, .slice a T.kids.length cap], .slice (some ⟨pb, po, none⟩) (m + 1) cp, .agg #[.string f.nm, .int .u8 (f.k : Int), .string f.d, .slice fa f.kids.length fc], .pointer (some ⟨w.heap.size, 0, none⟩), undef, .pointer (some ⟨w.heap.size + 1, 0, none⟩), .pointer (some ⟨w.heap.size + 1 + 1, 0, none⟩), .int .i64 0, .pointer (some ⟨w1.heap.size, 0, none⟩), .int .i64 0, .int .i64 (m : Int), undef, undef, undef, .tuple #[.agg #[.string D.nm, .int .u8 (D.k : Int), .string D.d, .slice b D.kids.length c], .int .i64 0], .agg #[.string T.nm, .int .u8 (T.k : Int), .string T.d, .slice a T.kids.length cap], .slice (some ⟨pb, po, none⟩) (m + 1) cp, .tuple #[.agg #[.string D.nm, .int .u8 (D.k : Int), .string D.d, .slice b D.kids.length c], .int .i64 0], .agg #[.string D.nm, .int .u8 (D.k : Int), .string D.d, .slice b D.kids.length c], .int .i64 0, .int .i64 0, .bool false, undef, undef, .pointer (some ⟨w1.heap.size, 1, none⟩), .int .u8 (D.k : Int), .bool false, undef, .slice (some ⟨pb, po, none⟩) (m + 1) cp, .int .i64 ((m : Int) + 1), .int .i64 (m : Int), .slice (some ⟨pb, po, none⟩) (m + 1) cp, .int .i64 (m : Int), .pointer (some ⟨pb, po + m, none⟩), .string (Ft.lastN p), .pointer (some ⟨w.heap.size + 1, 0, none⟩), .agg #[.string T.nm, .int .u8 (T.k : Int), .string T.d, .slice a T.kids.length cap], .slice (some ⟨pb, po, none⟩) (m + 1) cp, .int .i64 (m : Int), .slice (some ⟨pb, po, none⟩) m cp, .pointer (some ⟨w1.heap.size, 3, none⟩), undef, undef, undef, undef, undef, undef, undef, undef, undef, undef, undef, undef, undef, undef, undef, undef, undef, undef], defers := [] } W4.drew
        refine wpAnyH_take (i := 5) (v := .slice b D.kids.length c) rfl (by kernel_rfl) (by kernel_rfl) (by kernel_rfl) (fun _ _ _ h => h) (Or.inl ⟨by rfl, ?_⟩) HS0 ?_
        · intro w9 hw9; obtain ⟨y0, y1, y2, y3, y4, y5, y6, y7, y8⟩ := hw9; go_simp
        change wpAnyH Tryz.prog .any _ _ _ _ _ { tmps := #[.agg #[.string T.nm, .int .u8 (T.k : Int), .string T.d, .slice a T.kids.length cap], .slice (some ⟨pb, po, none⟩) (m + 1) cp, .agg #[.string f.nm, .int .u8 (f.k : Int), .string f.d, .slice fa f.kids.length fc], .pointer (some ⟨w.heap.size, 0, none⟩), undef, .pointer (some ⟨w.heap.size + 1, 0, none⟩), .pointer (some ⟨w.heap.size + 1 + 1, 0, none⟩), .int .i64 0, .pointer (some ⟨w1.heap.size, 0, none⟩), .int .i64 0, .int .i64 (m : Int), undef, undef, undef, .tuple #[.agg #[.string D.nm, .int .u8 (D.k : Int), .string D.d, .slice b D.kids.length c], .int .i64 0], .agg #[.string T.nm, .int .u8 (T.k : Int), .string T.d, .slice a T.kids.length cap], .slice (some ⟨pb, po, none⟩) (m + 1) cp, .tuple #[.agg #[.string D.nm, .int .u8 (D.k : Int), .string D.d, .slice b D.kids.length c], .int .i64 0], .agg #[.string D.nm, .int .u8 (D.k : Int), .string D.d, .slice b D.kids.length c], .int .i64 0, .int .i64 0, .bool false, undef, undef, .pointer (some ⟨w1.heap.size, 1, none⟩), .int .u8 (D.k : Int), .bool false, undef, .slice (some ⟨pb, po, none⟩) (m + 1) cp, .int .i64 ((m : Int) + 1), .int .i64 (m : Int), .slice (some ⟨pb, po, none⟩) (m + 1) cp, .int .i64 (m : Int), .pointer (some ⟨pb, po + m, none⟩), .string (Ft.lastN p), .pointer (some ⟨w.heap.size + 1, 0, none⟩), .agg #[.string T.nm, .int .u8 (T.k : Int), .string T.d, .slice a T.kids.length cap], .slice (some ⟨pb, po, none⟩) (m + 1) cp, .int .i64 (m : Int), .slice (some ⟨pb, po, none⟩) m cp, .pointer (some ⟨w1.heap.size, 3, none⟩), .slice b D.kids.length c, undef, undef, undef, undef, undef, undef, undef, undef, undef, undef, undef, undef, undef, undef, undef, undef, undef], defers := [] } W4.drew
        refine wpAnyH_take (i := 6) (v := .pointer (some ⟨w.heap.size + 1, 0, none⟩)) rfl (by kernel_rfl) (by kernel_rfl) (by kernel_rfl) (fun _ _ _ h => h) (Or.inl ⟨by rfl, ?_⟩) HS0 ?_
        · intro w9 hw9; obtain ⟨y0, y1, y2, y3, y4, y5, y6, y7, y8⟩ := hw9; go_simp
        change wpAnyH Tryz.prog .any _ _ _ _ _ { tmps := #[.agg #[.string T.nm, .int .u8 (T.k : Int), .string T.d, .slice a T.kids.length cap], .slice (some ⟨pb, po, none⟩) (m + 1) cp, .agg #[.string f.nm, .int .u8 (f.k : Int), .string f.d, .slice fa f.kids.length fc], .pointer (some ⟨w.heap.size, 0, none⟩), undef, .pointer (some ⟨w.heap.size + 1, 0, none⟩), .pointer (some ⟨w.heap.size + 1 + 1, 0, none⟩), .int .i64 0, .pointer (some ⟨w1.heap.size, 0, none⟩), .int .i64 0, .int .i64 (m : Int), undef, undef, undef, .tuple #[.agg #[.string D.nm, .int .u8 (D.k : Int), .string D.d, .slice b D.kids.length c], .int .i64 0], .agg #[.string T.nm, .int .u8 (T.k : Int), .string T.d, .slice a T.kids.length cap], .slice (some ⟨pb, po, none⟩) (m + 1) cp, .tuple #[.agg #[.string D.nm, .int .u8 (D.k : Int), .string D.d, .slice b D.kids.length c], .int .i64 0], .agg #[.string D.nm, .int .u8 (D.k : Int), .string D.d, .slice b D.kids.length c], .int .i64 0, .int .i64 0, .bool false, undef, undef, .pointer (some ⟨w1.heap.size, 1, none⟩), .int .u8 (D.k : Int), .bool false, undef, .slice (some ⟨pb, po, none⟩) (m + 1) cp, .int .i64 ((m : Int) + 1), .int .i64 (m : Int), .slice (some ⟨pb, po, none⟩) (m + 1) cp, .int .i64 (m : Int), .pointer (some ⟨pb, po + m, none⟩), .string (Ft.lastN p), .pointer (some ⟨w.heap.size + 1, 0, none⟩), .agg #[.string T.nm, .int .u8 (T.k : Int), .string T.d, .slice a T.kids.length cap], .slice (some ⟨pb, po, none⟩) (m + 1) cp, .int .i64 (m : Int), .slice (some ⟨pb, po, none⟩) m cp, .pointer (some ⟨w1.heap.size, 3, none⟩), .slice b D.kids.length c, .pointer (some ⟨w.heap.size + 1, 0, none⟩), undef, undef, undef, undef, undef, undef, undef, undef, undef, undef, undef, undef, undef, undef, undef, undef], defers := [] } W4.drew
        refine wpAnyH_take (i := 7) (v := .string (Ft.lastN p)) rfl (by kernel_rfl) (by kernel_rfl) (by kernel_rfl) (fun _ _ _ h => h) (Or.inl ⟨by rfl, ?_⟩) HS0 ?_
        · intro w9 hw9; obtain ⟨y0, y1, y2, y3, y4, y5, y6, y7, y8⟩ := hw9; go_simp
        change wpAnyH Tryz.prog .any _ _ _ _ _ { tmps := #[.agg #[.string T.nm, .int .u8 (T.k : Int), .string T.d, .slice a T.kids.length cap], .slice (some ⟨pb, po, none⟩) (m + 1) cp, .agg #[.string f.nm, .int .u8 (f.k : Int), .string f.d, .slice fa f.kids.length fc], .pointer (some ⟨w.heap.size, 0, none⟩), undef, .pointer (some ⟨w.heap.size + 1, 0, none⟩), .pointer (some ⟨w.heap.size + 1 + 1, 0, none⟩), .int .i64 0, .pointer (some ⟨w1.heap.size, 0, none⟩), .int .i64 0, .int .i64 (m : Int), undef, undef, undef, .tuple #[.agg #[.string D.nm, .int .u8 (D.k : Int), .string D.d, .slice b D.kids.length c], .int .i64 0], .agg #[.string T.nm, .int .u8 (T.k : Int), .string T.d, .slice a T.kids.length cap], .slice (some ⟨pb, po, none⟩) (m + 1) cp, .tuple #[.agg #[.string D.nm, .int .u8 (D.k : Int), .string D.d, .slice b D.kids.length c], .int .i64 0], .agg #[.string D.nm, .int .u8 (D.k : Int), .string D.d, .slice b D.kids.length c], .int .i64 0, .int .i64 0, .bool false, undef, undef, .pointer (some ⟨w1.heap.size, 1, none⟩), .int .u8 (D.k : Int), .bool false, undef, .slice (some ⟨pb, po, none⟩) (m + 1) cp, .int .i64 ((m : Int) + 1), .int .i64 (m : Int), .slice (some ⟨pb, po, none⟩) (m + 1) cp, .int .i64 (m : Int), .pointer (some ⟨pb, po + m, none⟩), .string (Ft.lastN p), .pointer (some ⟨w.heap.size + 1, 0, none⟩), .agg #[.string T.nm, .int .u8 (T.k : Int), .string T.d, .slice a T.kids.length cap], .slice (some ⟨pb, po, none⟩) (m + 1) cp, .int .i64 (m : Int), .slice (some ⟨pb, po, none⟩) m cp, .pointer (some ⟨w1.heap.size, 3, none⟩), .slice b D.kids.length c, .pointer (some ⟨w.heap.size + 1, 0, none⟩), .string (Ft.lastN p), undef, undef, undef, undef, undef, undef, undef, undef, undef, undef, undef, undef, undef, undef, undef], defers := [] } W4.drew
        refine wpAnyH_take (i := 8) (v := .agg #[.string (Ft.lastN p), .int .u8 (f.k : Int), .string f.d, .slice fa f.kids.length fc]) rfl (by kernel_rfl) (by kernel_rfl) (by kernel_rfl) (fun _ _ _ h => h) (Or.inl ⟨by rfl, ?_⟩) HS0 ?_
        · intro w9 hw9; obtain ⟨y0, y1, y2, y3, y4, y5, y6, y7, y8⟩ := hw9; go_simp
        change wpAnyH Tryz.prog .any _ _ _ _ _ { tmps := #[.agg #[.string T.nm, .int .u8 (T.k : Int), .string T.d, .slice a T.kids.length cap], .slice (some ⟨pb, po, none⟩) (m + 1) cp, .agg #[.string f.nm, .int .u8 (f.k : Int), .string f.d, .slice fa f.kids.length fc], .pointer (some ⟨w.heap.size, 0, none⟩), undef, .pointer (some ⟨w.heap.size + 1, 0, none⟩), .pointer (some ⟨w.heap.size + 1 + 1, 0, none⟩), .int .i64 0, .pointer (some ⟨w1.heap.size, 0, none⟩), .int .i64 0, .int .i64 (m : Int), undef, undef, undef, .tuple #[.agg #[.string D.nm, .int .u8 (D.k : Int), .string D.d, .slice b D.kids.length c], .int .i64 0], .agg #[.string T.nm, .int .u8 (T.k : Int), .string T.d, .slice a T.kids.length cap], .slice (some ⟨pb, po, none⟩) (m + 1) cp, .tuple #[.agg #[.string D.nm, .int .u8 (D.k : Int), .string D.d, .slice b D.kids.length c], .int .i64 0], .agg #[.string D.nm, .int .u8 (D.k : Int), .string D.d, .slice b D.kids.length c], .int .i64 0, .int .i64 0, .bool false, undef, undef, .pointer (some ⟨w1.heap.size, 1, none⟩), .int .u8 (D.k : Int), .bool false, undef, .slice (some ⟨pb, po, none⟩) (m + 1) cp, .int .i64 ((m : Int) + 1), .int .i64 (m : Int), .slice (some ⟨pb, po, none⟩) (m + 1) cp, .int .i64 (m : Int), .pointer (some ⟨pb, po + m, none⟩), .string (Ft.lastN p), .pointer (some ⟨w.heap.size + 1, 0, none⟩), .agg #[.string T.nm, .int .u8 (T.k : Int), .string T.d, .slice a T.kids.length cap], .slice (some ⟨pb, po, none⟩) (m + 1) cp, .int .i64 (m : Int), .slice (some ⟨pb, po, none⟩) m cp, .pointer (some ⟨w1.heap.size, 3, none⟩), .slice b D.kids.length c, .pointer (some ⟨w.heap.size + 1, 0, none⟩), .string (Ft.lastN p), .agg #[.string (Ft.lastN p), .int .u8 (f.k : Int), .string f.d, .slice fa f.kids.length fc], undef, undef, undef, undef, undef, undef, undef, undef, undef, undef, undef, undef, undef, undef], defers := [] } W4.drew
        refine wpAnyH_ready (rs := [9, 12]) (by kernel_rfl) (by simp) ?_
        refine AllReadyH.cons rfl (fun K hK => ?_) ?_
        · go_simp
          have hr1 : Below (W4.drew).heap.size (W4.drew) ((W4.drew.alloc (.cells #[.string (Ft.lastN p), .int .u8 (f.k : Int), .string f.d, .slice fa f.kids.length fc] 25))) := (Below.refl _ _).alloc (Nat.le_refl _) _
          have hb1 : Below W4.heap.size W4 ((W4.drew.alloc (.cells #[.string (Ft.lastN p), .int .u8 (f.k : Int), .string f.d, .slice fa f.kids.length fc] 25))) := hbD.trans (hr1.mono hbD.size)
          have hs1 := HS8.out _ hb1
          have se2 : (W4.drew).heap.size = W4.drew.heap.size := by rfl
          have row2 : Ft.FileAt (W4.drew.alloc (.cells #[.string (Ft.lastN p), .int .u8 (f.k : Int), .string f.d, .slice fa f.kids.length fc] 25)) (W4.drew.heap.size) (Ft.renT f (Ft.lastN p)) fa fc := by rw [← se2]; exact Ft.file_new W4.drew (Ft.renT f (Ft.lastN p)) fa fc
          refine hK.out _ _ hs1 (fun _ => ?_)
          clear hK K
          change wpAnyH Tryz.prog .any _ _ _ _ _ { tmps := #[.agg #[.string T.nm, .int .u8 (T.k : Int), .string T.d, .slice a T.kids.length cap], .slice (some ⟨pb, po, none⟩) (m + 1) cp, .agg #[.string f.nm, .int .u8 (f.k : Int), .string f.d, .slice fa f.kids.length fc], .pointer (some ⟨w.heap.size, 0, none⟩), undef, .pointer (some ⟨w.heap.size + 1, 0, none⟩), .pointer (some ⟨w.heap.size + 1 + 1, 0, none⟩), .int .i64 0, .pointer (some ⟨w1.heap.size, 0, none⟩), .int .i64 0, .int .i64 (m : Int), undef, undef, undef, .tuple #[.agg #[.string D.nm, .int .u8 (D.k : Int), .string D.d, .slice b D.kids.length c], .int .i64 0], .agg #[.string T.nm, .int .u8 (T.k : Int), .string T.d, .slice a T.kids.length cap], .slice (some ⟨pb, po, none⟩) (m + 1) cp, .tuple #[.agg #[.string D.nm, .int .u8 (D.k : Int), .string D.d, .slice b D.kids.length c], .int .i64 0], .agg #[.string D.nm, .int .u8 (D.k : Int), .string D.d, .slice b D.kids.length c], .int .i64 0, .int .i64 0, .bool false, undef, undef, .pointer (some ⟨w1.heap.size, 1, none⟩), .int .u8 (D.k : Int), .bool false, undef, .slice (some ⟨pb, po, none⟩) (m + 1) cp, .int .i64 ((m : Int) + 1), .int .i64 (m : Int), .slice (some ⟨pb, po, none⟩) (m + 1) cp, .int .i64 (m : Int), .pointer (some ⟨pb, po + m, none⟩), .string (Ft.lastN p), .pointer (some ⟨w.heap.size + 1, 0, none⟩), .agg #[.string T.nm, .int .u8 (T.k : Int), .string T.d, .slice a T.kids.length cap], .slice (some ⟨pb, po, none⟩) (m + 1) cp, .int .i64 (m : Int), .slice (some ⟨pb, po, none⟩) m cp, .pointer (some ⟨w1.heap.size, 3, none⟩), .slice b D.kids.length c, .pointer (some ⟨w.heap.size + 1, 0, none⟩), .string (Ft.lastN p), .agg #[.string (Ft.lastN p), .int .u8 (f.k : Int), .string f.d, .slice fa f.kids.length fc], .slice (some ⟨W4.drew.heap.size, 0, none⟩) 1 1, undef, undef, undef, undef, undef, undef, undef, undef, undef, undef, undef, undef, undef], defers := [] } (W4.drew.alloc (.cells #[.string (Ft.lastN p), .int .u8 (f.k : Int), .string f.d, .slice fa f.kids.length fc] 25))
          refine wpAnyH_ready (rs := [10, 12]) (by kernel_rfl) (by simp) ?_
          refine AllReadyH.cons rfl (fun K hK => ?_) ?_
          · go_simp
            refine Calls.mono (HSw.out (fun _ => False) _ _ (fun _ h => h.elim) hb1 row2 (fun h => h)) ?_
            rintro e v3 ⟨a4, c4, rfl, fl3, rl3⟩
            have hr4 : Below ((W4.drew.alloc (.cells #[.string (Ft.lastN p), .int .u8 (f.k : Int), .string f.d, .slice fa f.kids.length fc] 25))).heap.size ((W4.drew.alloc (.cells #[.string (Ft.lastN p), .int .u8 (f.k : Int), .string f.d, .slice fa f.kids.length fc] 25))) (v3) := rl3
            have hb4 : Below W4.heap.size W4 (v3) := hb1.trans (hr4.mono hb1.size)
            have hs4 := HS8.out _ hb4
            have row4 := Ft.FileAt.under row2 hr4
            refine hK.out _ _ hs4 (fun _ => ?_)
            clear hK K
            change wpAnyH Tryz.prog .any _ _ _ _ _ { tmps := #[.agg #[.string T.nm, .int .u8 (T.k : Int), .string T.d, .slice a T.kids.length cap], .slice (some ⟨pb, po, none⟩) (m + 1) cp, .agg #[.string f.nm, .int .u8 (f.k : Int), .string f.d, .slice fa f.kids.length fc], .pointer (some ⟨w.heap.size, 0, none⟩), undef, .pointer (some ⟨w.heap.size + 1, 0, none⟩), .pointer (some ⟨w.heap.size + 1 + 1, 0, none⟩), .int .i64 0, .pointer (some ⟨w1.heap.size, 0, none⟩), .int .i64 0, .int .i64 (m : Int), undef, undef, undef, .tuple #[.agg #[.string D.nm, .int .u8 (D.k : Int), .string D.d, .slice b D.kids.length c], .int .i64 0], .agg #[.string T.nm, .int .u8 (T.k : Int), .string T.d, .slice a T.kids.length cap], .slice (some ⟨pb, po, none⟩) (m + 1) cp, .tuple #[.agg #[.string D.nm, .int .u8 (D.k : Int), .string D.d, .slice b D.kids.length c], .int .i64 0], .agg #[.string D.nm, .int .u8 (D.k : Int), .string D.d, .slice b D.kids.length c], .int .i64 0, .int .i64 0, .bool false, undef, undef, .pointer (some ⟨w1.heap.size, 1, none⟩), .int .u8 (D.k : Int), .bool false, undef, .slice (some ⟨pb, po, none⟩) (m + 1) cp, .int .i64 ((m : Int) + 1), .int .i64 (m : Int), .slice (some ⟨pb, po, none⟩) (m + 1) cp, .int .i64 (m : Int), .pointer (some ⟨pb, po + m, none⟩), .string (Ft.lastN p), .pointer (some ⟨w.heap.size + 1, 0, none⟩), .agg #[.string T.nm, .int .u8 (T.k : Int), .string T.d, .slice a T.kids.length cap], .slice (some ⟨pb, po, none⟩) (m + 1) cp, .int .i64 (m : Int), .slice (some ⟨pb, po, none⟩) m cp, .pointer (some ⟨w1.heap.size, 3, none⟩), .slice b D.kids.length c, .pointer (some ⟨w.heap.size + 1, 0, none⟩), .string (Ft.lastN p), .agg #[.string (Ft.lastN p), .int .u8 (f.k : Int), .string f.d, .slice fa f.kids.length fc], .slice (some ⟨W4.drew.heap.size, 0, none⟩) 1 1, .slice a4 IN.length c4, undef, undef, undef, undef, undef, undef, undef, undef, undef, undef, undef, undef], defers := [] } v3
            refine wpAnyH_ready (rs := [11, 12]) (by kernel_rfl) (by simp) ?_
            refine AllReadyH.cons rfl (fun K hK => ?_) ?_
            · go_simp
              refine Calls.mono (HWt.out (fun _ => False) _ a4 c4 (fun _ h => h.elim) hb4 fl3) ?_
              rintro e v5 ⟨a5, c5, rfl, fo5, rl5⟩
              have hr6 : Below (v3).heap.size (v3) (v5) := rl5
              have hb6 : Below W4.heap.size W4 (v5) := hb4.trans (hr6.mono hb4.size)
              have hs6 := HS8.out _ hb6
              have row6 := Ft.FileAt.under row4 hr6
              refine hK.out _ _ hs6 (fun _ => ?_)
              clear hK K
              change wpAnyH Tryz.prog .any _ _ _ _ _ { tmps := #[.agg #[.string T.nm, .int .u8 (T.k : Int), .string T.d, .slice a T.kids.length cap], .slice (some ⟨pb, po, none⟩) (m + 1) cp, .agg #[.string f.nm, .int .u8 (f.k : Int), .string f.d, .slice fa f.kids.length fc], .pointer (some ⟨w.heap.size, 0, none⟩), undef, .pointer (some ⟨w.heap.size + 1, 0, none⟩), .pointer (some ⟨w.heap.size + 1 + 1, 0, none⟩), .int .i64 0, .pointer (some ⟨w1.heap.size, 0, none⟩), .int .i64 0, .int .i64 (m : Int), undef, undef, undef, .tuple #[.agg #[.string D.nm, .int .u8 (D.k : Int), .string D.d, .slice b D.kids.length c], .int .i64 0], .agg #[.string T.nm, .int .u8 (T.k : Int), .string T.d, .slice a T.kids.length cap], .slice (some ⟨pb, po, none⟩) (m + 1) cp, .tuple #[.agg #[.string D.nm, .int .u8 (D.k : Int), .string D.d, .slice b D.kids.length c], .int .i64 0], .agg #[.string D.nm, .int .u8 (D.k : Int), .string D.d, .slice b D.kids.length c], .int .i64 0, .int .i64 0, .bool false, undef, undef, .pointer (some ⟨w1.heap.size, 1, none⟩), .int .u8 (D.k : Int), .bool false, undef, .slice (some ⟨pb, po, none⟩) (m + 1) cp, .int .i64 ((m : Int) + 1), .int .i64 (m : Int), .slice (some ⟨pb, po, none⟩) (m + 1) cp, .int .i64 (m : Int), .pointer (some ⟨pb, po + m, none⟩), .string (Ft.lastN p), .pointer (some ⟨w.heap.size + 1, 0, none⟩), .agg #[.string T.nm, .int .u8 (T.k : Int), .string T.d, .slice a T.kids.length cap], .slice (some ⟨pb, po, none⟩) (m + 1) cp, .int .i64 (m : Int), .slice (some ⟨pb, po, none⟩) m cp, .pointer (some ⟨w1.heap.size, 3, none⟩), .slice b D.kids.length c, .pointer (some ⟨w.heap.size + 1, 0, none⟩), .string (Ft.lastN p), .agg #[.string (Ft.lastN p), .int .u8 (f.k : Int), .string f.d, .slice fa f.kids.length fc], .slice (some ⟨W4.drew.heap.size, 0, none⟩) 1 1, .slice a4 IN.length c4, .agg #[.string O.nm, .int .u8 (O.k : Int), .string O.d, .slice a5 O.kids.length c5], undef, undef, undef, undef, undef, undef, undef, undef, undef, undef, undef], defers := [] } v5
              refine wpAnyH_ready (rs := [12]) (by kernel_rfl) (by simp) ?_
              refine AllReadyH.cons rfl (fun K hK => ?_) ?_
              · go_simp
                have hr7 : Below (v5).heap.size (v5) ((v5.alloc (.cells #[.string ⟨#[]⟩, .int .u8 0, .string ⟨#[]⟩, .slice none 0 0] 25))) := (Below.refl _ _).alloc (Nat.le_refl _) _
                have hb7 : Below W4.heap.size W4 ((v5.alloc (.cells #[.string ⟨#[]⟩, .int .u8 0, .string ⟨#[]⟩, .slice none 0 0] 25))) := hb6.trans (hr7.mono hb6.size)
                have hs7 := HS8.out _ hb7
                have row7 := Ft.FileAt.under row6 hr7
                have se8 : (v5).heap.size = v5.heap.size := by rfl
                have zro8 : Ft.FileAt (v5.alloc (.cells #[.string ⟨#[]⟩, .int .u8 0, .string ⟨#[]⟩, .slice none 0 0] 25)) (v5.heap.size) Ft.zF none 0 := by rw [← se8]; exact Ft.file_zero v5
                have zc8 : W4.heap.size ≤ v5.heap.size ∧ v5.heap.size < (v5.alloc (.cells #[.string ⟨#[]⟩, .int .u8 0, .string ⟨#[]⟩, .slice none 0 0] 25)).heap.size := ⟨by rw [← se8]; exact hb6.size, zro8.lt⟩
                have out8 := Ft.Fd.newZ fo5 (.cells #[.string ⟨#[]⟩, .int .u8 0, .string ⟨#[]⟩, .slice none 0 0] 25)
                refine hK.out _ _ hs7 (fun _ => ?_)
                clear hK K
                change wpAnyH Tryz.prog .any _ _ _ _ _ { tmps := #[.agg #[.string T.nm, .int .u8 (T.k : Int), .string T.d, .slice a T.kids.length cap], .slice (some ⟨pb, po, none⟩) (m + 1) cp, .agg #[.string f.nm, .int .u8 (f.k : Int), .string f.d, .slice fa f.kids.length fc], .pointer (some ⟨w.heap.size, 0, none⟩), undef, .pointer (some ⟨w.heap.size + 1, 0, none⟩), .pointer (some ⟨w.heap.size + 1 + 1, 0, none⟩), .int .i64 0, .pointer (some ⟨w1.heap.size, 0, none⟩), .int .i64 0, .int .i64 (m : Int), .pointer (some ⟨v5.heap.size, 0, none⟩), undef, undef, .tuple #[.agg #[.string D.nm, .int .u8 (D.k : Int), .string D.d, .slice b D.kids.length c], .int .i64 0], .agg #[.string T.nm, .int .u8 (T.k : Int), .string T.d, .slice a T.kids.length cap], .slice (some ⟨pb, po, none⟩) (m + 1) cp, .tuple #[.agg #[.string D.nm, .int .u8 (D.k : Int), .string D.d, .slice b D.kids.length c], .int .i64 0], .agg #[.string D.nm, .int .u8 (D.k : Int), .string D.d, .slice b D.kids.length c], .int .i64 0, .int .i64 0, .bool false, undef, undef, .pointer (some ⟨w1.heap.size, 1, none⟩), .int .u8 (D.k : Int), .bool false, undef, .slice (some ⟨pb, po, none⟩) (m + 1) cp, .int .i64 ((m : Int) + 1), .int .i64 (m : Int), .slice (some ⟨pb, po, none⟩) (m + 1) cp, .int .i64 (m : Int), .pointer (some ⟨pb, po + m, none⟩), .string (Ft.lastN p), .pointer (some ⟨w.heap.size + 1, 0, none⟩), .agg #[.string T.nm, .int .u8 (T.k : Int), .string T.d, .slice a T.kids.length cap], .slice (some ⟨pb, po, none⟩) (m + 1) cp, .int .i64 (m : Int), .slice (some ⟨pb, po, none⟩) m cp, .pointer (some ⟨w1.heap.size, 3, none⟩), .slice b D.kids.length c, .pointer (some ⟨w.heap.size + 1, 0, none⟩), .string (Ft.lastN p), .agg #[.string (Ft.lastN p), .int .u8 (f.k : Int), .string f.d, .slice fa f.kids.length fc], .slice (some ⟨W4.drew.heap.size, 0, none⟩) 1 1, .slice a4 IN.length c4, .agg #[.string O.nm, .int .u8 (O.k : Int), .string O.d, .slice a5 O.kids.length c5], undef, undef, undef, undef, undef, undef, undef, undef, undef, undef, undef], defers := [] } (v5.alloc (.cells #[.string ⟨#[]⟩, .int .u8 0, .string ⟨#[]⟩, .slice none 0 0] 25))
                refine wpAnyH_ready (rs := [13]) (by kernel_rfl) (by simp) ?_
                refine AllReadyH.cons rfl (fun K hK => ?_) ?_
                · obtain ⟨zz, hzz⟩ : ∃ zz, zz = (v5.heap.size) := ⟨_, rfl⟩
                  rw [← hzz]
                  have zr9 : Ft.FileAt ((v5.alloc (.cells #[.string ⟨#[]⟩, .int .u8 0, .string ⟨#[]⟩, .slice none 0 0] 25))) zz Ft.zF none 0 := by rw [hzz]; exact zro8
                  have fo9 : Ft.Fd ((v5.alloc (.cells #[.string ⟨#[]⟩, .int .u8 0, .string ⟨#[]⟩, .slice none 0 0] 25))) (fun k => k < ((v5.alloc (.cells #[.string ⟨#[]⟩, .int .u8 0, .string ⟨#[]⟩, .slice none 0 0] 25))).heap.size ∧ ¬ k = zz) O a5 c5 := by rw [hzz]; exact out8.out
                  have zl9 : W4.heap.size ≤ zz := by rw [hzz]; exact zc8.1
                  have z0 : ((v5.alloc (.cells #[.string ⟨#[]⟩, .int .u8 0, .string ⟨#[]⟩, .slice none 0 0] 25))).cell? ⟨zz, 0, none⟩ = some (.string ⟨#[]⟩) := zr9.four.c0
                  have z1 : ((v5.alloc (.cells #[.string ⟨#[]⟩, .int .u8 0, .string ⟨#[]⟩, .slice none 0 0] 25))).cell? ⟨zz, 1, none⟩ = some (.int .u8 0) := zr9.four.c1
                  have z2 : ((v5.alloc (.cells #[.string ⟨#[]⟩, .int .u8 0, .string ⟨#[]⟩, .slice none 0 0] 25))).cell? ⟨zz, 2, none⟩ = some (.string ⟨#[]⟩) := zr9.four.c2
                  have z3 : ((v5.alloc (.cells #[.string ⟨#[]⟩, .int .u8 0, .string ⟨#[]⟩, .slice none 0 0] 25))).cell? ⟨zz, 3, none⟩ = some (.slice none 0 0) := zr9.four.c3
                  have zf := zr9.frozen
                  have HZZ : Hid (zz = (v5.heap.size)) := hzz
                  clear hzz
                  go_simp
                  have hp9 : Below W4.heap.size W4 (Ft.putF ((v5.alloc (.cells #[.string ⟨#[]⟩, .int .u8 0, .string ⟨#[]⟩, .slice none 0 0] 25))) zz O a5 c5) := Ft.putF_below hb7 zl9
                  refine hK.out _ _ (HS8.out _ hp9) (fun _ => ?_)
                  refine wpAnyH_done (by kernel_rfl) ?_ _
                  clear hK K z0 z1 z2 z3 zf
                  go_wp2_with fail
                  go_meet
                  exact ⟨zz, rfl, HEnd.out _ zz a5 c5 zl9 hb7 zr9 fo9⟩
                exact AllReadyH.nil
              exact AllReadyH.nil
            refine AllReadyH.cons rfl (fun K hK => ?_) ?_
            · go_simp
              have hr10 : Below (v3).heap.size (v3) ((v3.alloc (.cells #[.string ⟨#[]⟩, .int .u8 0, .string ⟨#[]⟩, .slice none 0 0] 25))) := (Below.refl _ _).alloc (Nat.le_refl _) _
              have hb10 : Below W4.heap.size W4 ((v3.alloc (.cells #[.string ⟨#[]⟩, .int .u8 0, .string ⟨#[]⟩, .slice none 0 0] 25))) := hb4.trans (hr10.mono hb4.size)
              have hs10 := HS8.out _ hb10
              have row10 := Ft.FileAt.under row4 hr10
              have se11 : (v3).heap.size = v3.heap.size := by rfl
              have zro11 : Ft.FileAt (v3.alloc (.cells #[.string ⟨#[]⟩, .int .u8 0, .string ⟨#[]⟩, .slice none 0 0] 25)) (v3.heap.size) Ft.zF none 0 := by rw [← se11]; exact Ft.file_zero v3
              have zc11 : W4.heap.size ≤ v3.heap.size ∧ v3.heap.size < (v3.alloc (.cells #[.string ⟨#[]⟩, .int .u8 0, .string ⟨#[]⟩, .slice none 0 0] 25)).heap.size := ⟨by rw [← se11]; exact hb4.size, zro11.lt⟩
              have fdl11 := Ft.FdL.newZ fl3 (.cells #[.string ⟨#[]⟩, .int .u8 0, .string ⟨#[]⟩, .slice none 0 0] 25)
              refine hK.out _ _ hs10 (fun _ => ?_)
              clear hK K
              change wpAnyH Tryz.prog .any _ _ _ _ _ { tmps := #[.agg #[.string T.nm, .int .u8 (T.k : Int), .string T.d, .slice a T.kids.length cap], .slice (some ⟨pb, po, none⟩) (m + 1) cp, .agg #[.string f.nm, .int .u8 (f.k : Int), .string f.d, .slice fa f.kids.length fc], .pointer (some ⟨w.heap.size, 0, none⟩), undef, .pointer (some ⟨w.heap.size + 1, 0, none⟩), .pointer (some ⟨w.heap.size + 1 + 1, 0, none⟩), .int .i64 0, .pointer (some ⟨w1.heap.size, 0, none⟩), .int .i64 0, .int .i64 (m : Int), .pointer (some ⟨v3.heap.size, 0, none⟩), undef, undef, .tuple #[.agg #[.string D.nm, .int .u8 (D.k : Int), .string D.d, .slice b D.kids.length c], .int .i64 0], .agg #[.string T.nm, .int .u8 (T.k : Int), .string T.d, .slice a T.kids.length cap], .slice (some ⟨pb, po, none⟩) (m + 1) cp, .tuple #[.agg #[.string D.nm, .int .u8 (D.k : Int), .string D.d, .slice b D.kids.length c], .int .i64 0], .agg #[.string D.nm, .int .u8 (D.k : Int), .string D.d, .slice b D.kids.length c], .int .i64 0, .int .i64 0, .bool false, undef, undef, .pointer (some ⟨w1.heap.size, 1, none⟩), .int .u8 (D.k : Int), .bool false, undef, .slice (some ⟨pb, po, none⟩) (m + 1) cp, .int .i64 ((m : Int) + 1), .int .i64 (m : Int), .slice (some ⟨pb, po, none⟩) (m + 1) cp, .int .i64 (m : Int), .pointer (some ⟨pb, po + m, none⟩), .string (Ft.lastN p), .pointer (some ⟨w.heap.size + 1, 0, none⟩), .agg #[.string T.nm, .int .u8 (T.k : Int), .string T.d, .slice a T.kids.length cap], .slice (some ⟨pb, po, none⟩) (m + 1) cp, .int .i64 (m : Int), .slice (some ⟨pb, po, none⟩) m cp, .pointer (some ⟨w1.heap.size, 3, none⟩), .slice b D.kids.length c, .pointer (some ⟨w.heap.size + 1, 0, none⟩), .string (Ft.lastN p), .agg #[.string (Ft.lastN p), .int .u8 (f.k : Int), .string f.d, .slice fa f.kids.length fc], .slice (some ⟨W4.drew.heap.size, 0, none⟩) 1 1, .slice a4 IN.length c4, undef, undef, undef, undef, undef, undef, undef, undef, undef, undef, undef, undef], defers := [] } (v3.alloc (.cells #[.string ⟨#[]⟩, .int .u8 0, .string ⟨#[]⟩, .slice none 0 0] 25))
              refine wpAnyH_ready (rs := [11]) (by kernel_rfl) (by simp) ?_
              refine AllReadyH.cons rfl (fun K hK => ?_) ?_
              · go_simp
                refine Calls.mono (HWt.out (fun k => k = (v3.heap.size)) _ a4 c4 (fun k hk => by cases hk; exact ⟨zc11.1, zro11.lt⟩) hb10 fdl11) ?_
                rintro e v12 ⟨a5, c5, rfl, fo12, rl12⟩
                have hr13 : Below ((v3.alloc (.cells #[.string ⟨#[]⟩, .int .u8 0, .string ⟨#[]⟩, .slice none 0 0] 25))).heap.size ((v3.alloc (.cells #[.string ⟨#[]⟩, .int .u8 0, .string ⟨#[]⟩, .slice none 0 0] 25))) (v12) := rl12
                have hb13 : Below W4.heap.size W4 (v12) := hb10.trans (hr13.mono hb10.size)
                have hs13 := HS8.out _ hb13
                have row13 := Ft.FileAt.under row10 hr13
                have zro13 := Ft.FileAt.under zro11 hr13
                refine hK.out _ _ hs13 (fun _ => ?_)
                clear hK K
                change wpAnyH Tryz.prog .any _ _ _ _ _ { tmps := #[.agg #[.string T.nm, .int .u8 (T.k : Int), .string T.d, .slice a T.kids.length cap], .slice (some ⟨pb, po, none⟩) (m + 1) cp, .agg #[.string f.nm, .int .u8 (f.k : Int), .string f.d, .slice fa f.kids.length fc], .pointer (some ⟨w.heap.size, 0, none⟩), undef, .pointer (some ⟨w.heap.size + 1, 0, none⟩), .pointer (some ⟨w.heap.size + 1 + 1, 0, none⟩), .int .i64 0, .pointer (some ⟨w1.heap.size, 0, none⟩), .int .i64 0, .int .i64 (m : Int), .pointer (some ⟨v3.heap.size, 0, none⟩), undef, undef, .tuple #[.agg #[.string D.nm, .int .u8 (D.k : Int), .string D.d, .slice b D.kids.length c], .int .i64 0], .agg #[.string T.nm, .int .u8 (T.k : Int), .string T.d, .slice a T.kids.length cap], .slice (some ⟨pb, po, none⟩) (m + 1) cp, .tuple #[.agg #[.string D.nm, .int .u8 (D.k : Int), .string D.d, .slice b D.kids.length c], .int .i64 0], .agg #[.string D.nm, .int .u8 (D.k : Int), .string D.d, .slice b D.kids.length c], .int .i64 0, .int .i64 0, .bool false, undef, undef, .pointer (some ⟨w1.heap.size, 1, none⟩), .int .u8 (D.k : Int), .bool false, undef, .slice (some ⟨pb, po, none⟩) (m + 1) cp, .int .i64 ((m : Int) + 1), .int .i64 (m : Int), .slice (some ⟨pb, po, none⟩) (m + 1) cp, .int .i64 (m : Int), .pointer (some ⟨pb, po + m, none⟩), .string (Ft.lastN p), .pointer (some ⟨w.heap.size + 1, 0, none⟩), .agg #[.string T.nm, .int .u8 (T.k : Int), .string T.d, .slice a T.kids.length cap], .slice (some ⟨pb, po, none⟩) (m + 1) cp, .int .i64 (m : Int), .slice (some ⟨pb, po, none⟩) m cp, .pointer (some ⟨w1.heap.size, 3, none⟩), .slice b D.kids.length c, .pointer (some ⟨w.heap.size + 1, 0, none⟩), .string (Ft.lastN p), .agg #[.string (Ft.lastN p), .int .u8 (f.k : Int), .string f.d, .slice fa f.kids.length fc], .slice (some ⟨W4.drew.heap.size, 0, none⟩) 1 1, .slice a4 IN.length c4, .agg #[.string O.nm, .int .u8 (O.k : Int), .string O.d, .slice a5 O.kids.length c5], undef, undef, undef, undef, undef, undef, undef, undef, undef, undef, undef], defers := [] } v12
                refine wpAnyH_ready (rs := [13]) (by kernel_rfl) (by simp) ?_
                refine AllReadyH.cons rfl (fun K hK => ?_) ?_
                · obtain ⟨zz, hzz⟩ : ∃ zz, zz = (v3.heap.size) := ⟨_, rfl⟩
                  rw [← hzz]
                  have zr14 : Ft.FileAt (v12) zz Ft.zF none 0 := by rw [hzz]; exact zro13
                  have fo14 : Ft.Fd (v12) (fun k => k < (v12).heap.size ∧ ¬ k = zz) O a5 c5 := by rw [hzz]; exact fo12.out
                  have zl14 : W4.heap.size ≤ zz := by rw [hzz]; exact zc11.1
                  have z0 : (v12).cell? ⟨zz, 0, none⟩ = some (.string ⟨#[]⟩) := zr14.four.c0
                  have z1 : (v12).cell? ⟨zz, 1, none⟩ = some (.int .u8 0) := zr14.four.c1
                  have z2 : (v12).cell? ⟨zz, 2, none⟩ = some (.string ⟨#[]⟩) := zr14.four.c2
                  have z3 : (v12).cell? ⟨zz, 3, none⟩ = some (.slice none 0 0) := zr14.four.c3
                  have zf := zr14.frozen
                  have HZZ : Hid (zz = (v3.heap.size)) := hzz
                  clear hzz
                  go_simp
                  have hp14 : Below W4.heap.size W4 (Ft.putF (v12) zz O a5 c5) := Ft.putF_below hb13 zl14
                  refine hK.out _ _ (HS8.out _ hp14) (fun _ => ?_)
                  refine wpAnyH_done (by kernel_rfl) ?_ _
                  clear hK K z0 z1 z2 z3 zf
                  go_wp2_with fail
                  go_meet
                  exact ⟨zz, rfl, HEnd.out _ zz a5 c5 zl14 hb13 zr14 fo14⟩
                exact AllReadyH.nil
              exact AllReadyH.nil
            exact AllReadyH.nil
          refine AllReadyH.cons rfl (fun K hK => ?_) ?_
          · go_simp
            have hr15 : Below ((W4.drew.alloc (.cells #[.string (Ft.lastN p), .int .u8 (f.k : Int), .string f.d, .slice fa f.kids.length fc] 25))).heap.size ((W4.drew.alloc (.cells #[.string (Ft.lastN p), .int .u8 (f.k : Int), .string f.d, .slice fa f.kids.length fc] 25))) (((W4.drew.alloc (.cells #[.string (Ft.lastN p), .int .u8 (f.k : Int), .string f.d, .slice fa f.kids.length fc] 25)).alloc (.cells #[.string ⟨#[]⟩, .int .u8 0, .string ⟨#[]⟩, .slice none 0 0] 25))) := (Below.refl _ _).alloc (Nat.le_refl _) _
            have hb15 : Below W4.heap.size W4 (((W4.drew.alloc (.cells #[.string (Ft.lastN p), .int .u8 (f.k : Int), .string f.d, .slice fa f.kids.length fc] 25)).alloc (.cells #[.string ⟨#[]⟩, .int .u8 0, .string ⟨#[]⟩, .slice none 0 0] 25))) := hb1.trans (hr15.mono hb1.size)
            have hs15 := HS8.out _ hb15
            have row15 := Ft.FileAt.under row2 hr15
            have se16 : ((W4.drew.alloc (.cells #[.string (Ft.lastN p), .int .u8 (f.k : Int), .string f.d, .slice fa f.kids.length fc] 25))).heap.size = W4.drew.heap.size + 1 := by simp
            have zro16 : Ft.FileAt ((W4.drew.alloc (.cells #[.string (Ft.lastN p), .int .u8 (f.k : Int), .string f.d, .slice fa f.kids.length fc] 25)).alloc (.cells #[.string ⟨#[]⟩, .int .u8 0, .string ⟨#[]⟩, .slice none 0 0] 25)) (W4.drew.heap.size + 1) Ft.zF none 0 := by rw [← se16]; exact Ft.file_zero (W4.drew.alloc (.cells #[.string (Ft.lastN p), .int .u8 (f.k : Int), .string f.d, .slice fa f.kids.length fc] 25))
            have zc16 : W4.heap.size ≤ W4.drew.heap.size + 1 ∧ W4.drew.heap.size + 1 < ((W4.drew.alloc (.cells #[.string (Ft.lastN p), .int .u8 (f.k : Int), .string f.d, .slice fa f.kids.length fc] 25)).alloc (.cells #[.string ⟨#[]⟩, .int .u8 0, .string ⟨#[]⟩, .slice none 0 0] 25)).heap.size := ⟨by rw [← se16]; exact hb1.size, zro16.lt⟩
            refine hK.out _ _ hs15 (fun _ => ?_)
            clear hK K
            change wpAnyH Tryz.prog .any _ _ _ _ _ { tmps := #[.agg #[.string T.nm, .int .u8 (T.k : Int), .string T.d, .slice a T.kids.length cap], .slice (some ⟨pb, po, none⟩) (m + 1) cp, .agg #[.string f.nm, .int .u8 (f.k : Int), .string f.d, .slice fa f.kids.length fc], .pointer (some ⟨w.heap.size, 0, none⟩), undef, .pointer (some ⟨w.heap.size + 1, 0, none⟩), .pointer (some ⟨w.heap.size + 1 + 1, 0, none⟩), .int .i64 0, .pointer (some ⟨w1.heap.size, 0, none⟩), .int .i64 0, .int .i64 (m : Int), .pointer (some ⟨W4.drew.heap.size + 1, 0, none⟩), undef, undef, .tuple #[.agg #[.string D.nm, .int .u8 (D.k : Int), .string D.d, .slice b D.kids.length c], .int .i64 0], .agg #[.string T.nm, .int .u8 (T.k : Int), .string T.d, .slice a T.kids.length cap], .slice (some ⟨pb, po, none⟩) (m + 1) cp, .tuple #[.agg #[.string D.nm, .int .u8 (D.k : Int), .string D.d, .slice b D.kids.length c], .int .i64 0], .agg #[.string D.nm, .int .u8 (D.k : Int), .string D.d, .slice b D.kids.length c], .int .i64 0, .int .i64 0, .bool false, undef, undef, .pointer (some ⟨w1.heap.size, 1, none⟩), .int .u8 (D.k : Int), .bool false, undef, .slice (some ⟨pb, po, none⟩) (m + 1) cp, .int .i64 ((m : Int) + 1), .int .i64 (m : Int), .slice (some ⟨pb, po, none⟩) (m + 1) cp, .int .i64 (m : Int), .pointer (some ⟨pb, po + m, none⟩), .string (Ft.lastN p), .pointer (some ⟨w.heap.size + 1, 0, none⟩), .agg #[.string T.nm, .int .u8 (T.k : Int), .string T.d, .slice a T.kids.length cap], .slice (some ⟨pb, po, none⟩) (m + 1) cp, .int .i64 (m : Int), .slice (some ⟨pb, po, none⟩) m cp, .pointer (some ⟨w1.heap.size, 3, none⟩), .slice b D.kids.length c, .pointer (some ⟨w.heap.size + 1, 0, none⟩), .string (Ft.lastN p), .agg #[.string (Ft.lastN p), .int .u8 (f.k : Int), .string f.d, .slice fa f.kids.length fc], .slice (some ⟨W4.drew.heap.size, 0, none⟩) 1 1, undef, undef, undef, undef, undef, undef, undef, undef, undef, undef, undef, undef, undef], defers := [] } ((W4.drew.alloc (.cells #[.string (Ft.lastN p), .int .u8 (f.k : Int), .string f.d, .slice fa f.kids.length fc] 25)).alloc (.cells #[.string ⟨#[]⟩, .int .u8 0, .string ⟨#[]⟩, .slice none 0 0] 25))
            refine wpAnyH_ready (rs := [10]) (by kernel_rfl) (by simp) ?_
            refine AllReadyH.cons rfl (fun K hK => ?_) ?_
            · go_simp
              refine Calls.mono (HSw.out (fun k => k = (W4.drew.heap.size + 1)) _ _ (fun k hk => by cases hk; exact ⟨zc16.1, zro16.lt⟩) hb15 row15 (show ¬ (W4.drew.heap.size = (W4.drew.heap.size + 1)) by omega)) ?_
              rintro e v17 ⟨a4, c4, rfl, fl17, rl17⟩
              have hr18 : Below (((W4.drew.alloc (.cells #[.string (Ft.lastN p), .int .u8 (f.k : Int), .string f.d, .slice fa f.kids.length fc] 25)).alloc (.cells #[.string ⟨#[]⟩, .int .u8 0, .string ⟨#[]⟩, .slice none 0 0] 25))).heap.size (((W4.drew.alloc (.cells #[.string (Ft.lastN p), .int .u8 (f.k : Int), .string f.d, .slice fa f.kids.length fc] 25)).alloc (.cells #[.string ⟨#[]⟩, .int .u8 0, .string ⟨#[]⟩, .slice none 0 0] 25))) (v17) := rl17
              have hb18 : Below W4.heap.size W4 (v17) := hb15.trans (hr18.mono hb15.size)
              have hs18 := HS8.out _ hb18
              have row18 := Ft.FileAt.under row15 hr18
              have zro18 := Ft.FileAt.under zro16 hr18
              refine hK.out _ _ hs18 (fun _ => ?_)
              clear hK K
              change wpAnyH Tryz.prog .any _ _ _ _ _ { tmps := #[.agg #[.string T.nm, .int .u8 (T.k : Int), .string T.d, .slice a T.kids.length cap], .slice (some ⟨pb, po, none⟩) (m + 1) cp, .agg #[.string f.nm, .int .u8 (f.k : Int), .string f.d, .slice fa f.kids.length fc], .pointer (some ⟨w.heap.size, 0, none⟩), undef, .pointer (some ⟨w.heap.size + 1, 0, none⟩), .pointer (some ⟨w.heap.size + 1 + 1, 0, none⟩), .int .i64 0, .pointer (some ⟨w1.heap.size, 0, none⟩), .int .i64 0, .int .i64 (m : Int), .pointer (some ⟨W4.drew.heap.size + 1, 0, none⟩), undef, undef, .tuple #[.agg #[.string D.nm, .int .u8 (D.k : Int), .string D.d, .slice b D.kids.length c], .int .i64 0], .agg #[.string T.nm, .int .u8 (T.k : Int), .string T.d, .slice a T.kids.length cap], .slice (some ⟨pb, po, none⟩) (m + 1) cp, .tuple #[.agg #[.string D.nm, .int .u8 (D.k : Int), .string D.d, .slice b D.kids.length c], .int .i64 0], .agg #[.string D.nm, .int .u8 (D.k : Int), .string D.d, .slice b D.kids.length c], .int .i64 0, .int .i64 0, .bool false, undef, undef, .pointer (some ⟨w1.heap.size, 1, none⟩), .int .u8 (D.k : Int), .bool false, undef, .slice (some ⟨pb, po, none⟩) (m + 1) cp, .int .i64 ((m : Int) + 1), .int .i64 (m : Int), .slice (some ⟨pb, po, none⟩) (m + 1) cp, .int .i64 (m : Int), .pointer (some ⟨pb, po + m, none⟩), .string (Ft.lastN p), .pointer (some ⟨w.heap.size + 1, 0, none⟩), .agg #[.string T.nm, .int .u8 (T.k : Int), .string T.d, .slice a T.kids.length cap], .slice (some ⟨pb, po, none⟩) (m + 1) cp, .int .i64 (m : Int), .slice (some ⟨pb, po, none⟩) m cp, .pointer (some ⟨w1.heap.size, 3, none⟩), .slice b D.kids.length c, .pointer (some ⟨w.heap.size + 1, 0, none⟩), .string (Ft.lastN p), .agg #[.string (Ft.lastN p), .int .u8 (f.k : Int), .string f.d, .slice fa f.kids.length fc], .slice (some ⟨W4.drew.heap.size, 0, none⟩) 1 1, .slice a4 IN.length c4, undef, undef, undef, undef, undef, undef, undef, undef, undef, undef, undef, undef], defers := [] } v17
              refine wpAnyH_ready (rs := [11]) (by kernel_rfl) (by simp) ?_
              refine AllReadyH.cons rfl (fun K hK => ?_) ?_
              · go_simp
                refine Calls.mono (HWt.out (fun k => k = (W4.drew.heap.size + 1)) _ a4 c4 (fun k hk => by cases hk; exact ⟨zc16.1, zro18.lt⟩) hb18 fl17) ?_
                rintro e v19 ⟨a5, c5, rfl, fo19, rl19⟩
                have hr20 : Below (v17).heap.size (v17) (v19) := rl19
                have hb20 : Below W4.heap.size W4 (v19) := hb18.trans (hr20.mono hb18.size)
                have hs20 := HS8.out _ hb20
                have row20 := Ft.FileAt.under row18 hr20
                have zro20 := Ft.FileAt.under zro18 hr20
                refine hK.out _ _ hs20 (fun _ => ?_)
                clear hK K
                change wpAnyH Tryz.prog .any _ _ _ _ _ { tmps := #[.agg #[.string T.nm, .int .u8 (T.k : Int), .string T.d, .slice a T.kids.length cap], .slice (some ⟨pb, po, none⟩) (m + 1) cp, .agg #[.string f.nm, .int .u8 (f.k : Int), .string f.d, .slice fa f.kids.length fc], .pointer (some ⟨w.heap.size, 0, none⟩), undef, .pointer (some ⟨w.heap.size + 1, 0, none⟩), .pointer (some ⟨w.heap.size + 1 + 1, 0, none⟩), .int .i64 0, .pointer (some ⟨w1.heap.size, 0, none⟩), .int .i64 0, .int .i64 (m : Int), .pointer (some ⟨W4.drew.heap.size + 1, 0, none⟩), undef, undef, .tuple #[.agg #[.string D.nm, .int .u8 (D.k : Int), .string D.d, .slice b D.kids.length c], .int .i64 0], .agg #[.string T.nm, .int .u8 (T.k : Int), .string T.d, .slice a T.kids.length cap], .slice (some ⟨pb, po, none⟩) (m + 1) cp, .tuple #[.agg #[.string D.nm, .int .u8 (D.k : Int), .string D.d, .slice b D.kids.length c], .int .i64 0], .agg #[.string D.nm, .int .u8 (D.k : Int), .string D.d, .slice b D.kids.length c], .int .i64 0, .int .i64 0, .bool false, undef, undef, .pointer (some ⟨w1.heap.size, 1, none⟩), .int .u8 (D.k : Int), .bool false, undef, .slice (some ⟨pb, po, none⟩) (m + 1) cp, .int .i64 ((m : Int) + 1), .int .i64 (m : Int), .slice (some ⟨pb, po, none⟩) (m + 1) cp, .int .i64 (m : Int), .pointer (some ⟨pb, po + m, none⟩), .string (Ft.lastN p), .pointer (some ⟨w.heap.size + 1, 0, none⟩), .agg #[.string T.nm, .int .u8 (T.k : Int), .string T.d, .slice a T.kids.length cap], .slice (some ⟨pb, po, none⟩) (m + 1) cp, .int .i64 (m : Int), .slice (some ⟨pb, po, none⟩) m cp, .pointer (some ⟨w1.heap.size, 3, none⟩), .slice b D.kids.length c, .pointer (some ⟨w.heap.size + 1, 0, none⟩), .string (Ft.lastN p), .agg #[.string (Ft.lastN p), .int .u8 (f.k : Int), .string f.d, .slice fa f.kids.length fc], .slice (some ⟨W4.drew.heap.size, 0, none⟩) 1 1, .slice a4 IN.length c4, .agg #[.string O.nm, .int .u8 (O.k : Int), .string O.d, .slice a5 O.kids.length c5], undef, undef, undef, undef, undef, undef, undef, undef, undef, undef, undef], defers := [] } v19
                refine wpAnyH_ready (rs := [13]) (by kernel_rfl) (by simp) ?_
                refine AllReadyH.cons rfl (fun K hK => ?_) ?_
                · obtain ⟨zz, hzz⟩ : ∃ zz, zz = (W4.drew.heap.size + 1) := ⟨_, rfl⟩
                  rw [← hzz]
                  have zr21 : Ft.FileAt (v19) zz Ft.zF none 0 := by rw [hzz]; exact zro20
                  have fo21 : Ft.Fd (v19) (fun k => k < (v19).heap.size ∧ ¬ k = zz) O a5 c5 := by rw [hzz]; exact fo19.out
                  have zl21 : W4.heap.size ≤ zz := by rw [hzz]; exact zc16.1
                  have z0 : (v19).cell? ⟨zz, 0, none⟩ = some (.string ⟨#[]⟩) := zr21.four.c0
                  have z1 : (v19).cell? ⟨zz, 1, none⟩ = some (.int .u8 0) := zr21.four.c1
                  have z2 : (v19).cell? ⟨zz, 2, none⟩ = some (.string ⟨#[]⟩) := zr21.four.c2
                  have z3 : (v19).cell? ⟨zz, 3, none⟩ = some (.slice none 0 0) := zr21.four.c3
                  have zf := zr21.frozen
                  have HZZ : Hid (zz = (W4.drew.heap.size + 1)) := hzz
                  clear hzz
                  go_simp
                  have hp21 : Below W4.heap.size W4 (Ft.putF (v19) zz O a5 c5) := Ft.putF_below hb20 zl21
                  refine hK.out _ _ (HS8.out _ hp21) (fun _ => ?_)
                  refine wpAnyH_done (by kernel_rfl) ?_ _
                  clear hK K z0 z1 z2 z3 zf
                  go_wp2_with fail
                  go_meet
                  exact ⟨zz, rfl, HEnd.out _ zz a5 c5 zl21 hb20 zr21 fo21⟩
                exact AllReadyH.nil
              exact AllReadyH.nil
            exact AllReadyH.nil
          exact AllReadyH.nil
        refine AllReadyH.cons rfl (fun K hK => ?_) ?_
        · go_simp
          have hr22 : Below (W4.drew).heap.size (W4.drew) ((W4.drew.alloc (.cells #[.string ⟨#[]⟩, .int .u8 0, .string ⟨#[]⟩, .slice none 0 0] 25))) := (Below.refl _ _).alloc (Nat.le_refl _) _
          have hb22 : Below W4.heap.size W4 ((W4.drew.alloc (.cells #[.string ⟨#[]⟩, .int .u8 0, .string ⟨#[]⟩, .slice none 0 0] 25))) := hbD.trans (hr22.mono hbD.size)
          have hs22 := HS8.out _ hb22
          have se23 : (W4.drew).heap.size = W4.drew.heap.size := by rfl
          have zro23 : Ft.FileAt (W4.drew.alloc (.cells #[.string ⟨#[]⟩, .int .u8 0, .string ⟨#[]⟩, .slice none 0 0] 25)) (W4.drew.heap.size) Ft.zF none 0 := by rw [← se23]; exact Ft.file_zero W4.drew
          have zc23 : W4.heap.size ≤ W4.drew.heap.size ∧ W4.drew.heap.size < (W4.drew.alloc (.cells #[.string ⟨#[]⟩, .int .u8 0, .string ⟨#[]⟩, .slice none 0 0] 25)).heap.size := ⟨by rw [← se23]; exact hbD.size, zro23.lt⟩
          refine hK.out _ _ hs22 (fun _ => ?_)
          clear hK K
          change wpAnyH Tryz.prog .any _ _ _ _ _ { tmps := #[.agg #[.string T.nm, .int .u8 (T.k : Int), .string T.d, .slice a T.kids.length cap], .slice (some ⟨pb, po, none⟩) (m + 1) cp, .agg #[.string f.nm, .int .u8 (f.k : Int), .string f.d, .slice fa f.kids.length fc], .pointer (some ⟨w.heap.size, 0, none⟩), undef, .pointer (some ⟨w.heap.size + 1, 0, none⟩), .pointer (some ⟨w.heap.size + 1 + 1, 0, none⟩), .int .i64 0, .pointer (some ⟨w1.heap.size, 0, none⟩), .int .i64 0, .int .i64 (m : Int), .pointer (some ⟨W4.drew.heap.size, 0, none⟩), undef, undef, .tuple #[.agg #[.string D.nm, .int .u8 (D.k : Int), .string D.d, .slice b D.kids.length c], .int .i64 0], .agg #[.string T.nm, .int .u8 (T.k : Int), .string T.d, .slice a T.kids.length cap], .slice (some ⟨pb, po, none⟩) (m + 1) cp, .tuple #[.agg #[.string D.nm, .int .u8 (D.k : Int), .string D.d, .slice b D.kids.length c], .int .i64 0], .agg #[.string D.nm, .int .u8 (D.k : Int), .string D.d, .slice b D.kids.length c], .int .i64 0, .int .i64 0, .bool false, undef, undef, .pointer (some ⟨w1.heap.size, 1, none⟩), .int .u8 (D.k : Int), .bool false, undef, .slice (some ⟨pb, po, none⟩) (m + 1) cp, .int .i64 ((m : Int) + 1), .int .i64 (m : Int), .slice (some ⟨pb, po, none⟩) (m + 1) cp, .int .i64 (m : Int), .pointer (some ⟨pb, po + m, none⟩), .string (Ft.lastN p), .pointer (some ⟨w.heap.size + 1, 0, none⟩), .agg #[.string T.nm, .int .u8 (T.k : Int), .string T.d, .slice a T.kids.length cap], .slice (some ⟨pb, po, none⟩) (m + 1) cp, .int .i64 (m : Int), .slice (some ⟨pb, po, none⟩) m cp, .pointer (some ⟨w1.heap.size, 3, none⟩), .slice b D.kids.length c, .pointer (some ⟨w.heap.size + 1, 0, none⟩), .string (Ft.lastN p), .agg #[.string (Ft.lastN p), .int .u8 (f.k : Int), .string f.d, .slice fa f.kids.length fc], undef, undef, undef, undef, undef, undef, undef, undef, undef, undef, undef, undef, undef, undef], defers := [] } (W4.drew.alloc (.cells #[.string ⟨#[]⟩, .int .u8 0, .string ⟨#[]⟩, .slice none 0 0] 25))
          refine wpAnyH_ready (rs := [9]) (by kernel_rfl) (by simp) ?_
          refine AllReadyH.cons rfl (fun K hK => ?_) ?_
          · go_simp
            have hr24 : Below ((W4.drew.alloc (.cells #[.string ⟨#[]⟩, .int .u8 0, .string ⟨#[]⟩, .slice none 0 0] 25))).heap.size ((W4.drew.alloc (.cells #[.string ⟨#[]⟩, .int .u8 0, .string ⟨#[]⟩, .slice none 0 0] 25))) (((W4.drew.alloc (.cells #[.string ⟨#[]⟩, .int .u8 0, .string ⟨#[]⟩, .slice none 0 0] 25)).alloc (.cells #[.string (Ft.lastN p), .int .u8 (f.k : Int), .string f.d, .slice fa f.kids.length fc] 25))) := (Below.refl _ _).alloc (Nat.le_refl _) _
            have hb24 : Below W4.heap.size W4 (((W4.drew.alloc (.cells #[.string ⟨#[]⟩, .int .u8 0, .string ⟨#[]⟩, .slice none 0 0] 25)).alloc (.cells #[.string (Ft.lastN p), .int .u8 (f.k : Int), .string f.d, .slice fa f.kids.length fc] 25))) := hb22.trans (hr24.mono hb22.size)
            have hs24 := HS8.out _ hb24
            have zro24 := Ft.FileAt.under zro23 hr24
            have se25 : ((W4.drew.alloc (.cells #[.string ⟨#[]⟩, .int .u8 0, .string ⟨#[]⟩, .slice none 0 0] 25))).heap.size = W4.drew.heap.size + 1 := by simp
            have row25 : Ft.FileAt ((W4.drew.alloc (.cells #[.string ⟨#[]⟩, .int .u8 0, .string ⟨#[]⟩, .slice none 0 0] 25)).alloc (.cells #[.string (Ft.lastN p), .int .u8 (f.k : Int), .string f.d, .slice fa f.kids.length fc] 25)) (W4.drew.heap.size + 1) (Ft.renT f (Ft.lastN p)) fa fc := by rw [← se25]; exact Ft.file_new (W4.drew.alloc (.cells #[.string ⟨#[]⟩, .int .u8 0, .string ⟨#[]⟩, .slice none 0 0] 25)) (Ft.renT f (Ft.lastN p)) fa fc
            refine hK.out _ _ hs24 (fun _ => ?_)
            clear hK K
            change wpAnyH Tryz.prog .any _ _ _ _ _ { tmps := #[.agg #[.string T.nm, .int .u8 (T.k : Int), .string T.d, .slice a T.kids.length cap], .slice (some ⟨pb, po, none⟩) (m + 1) cp, .agg #[.string f.nm, .int .u8 (f.k : Int), .string f.d, .slice fa f.kids.length fc], .pointer (some ⟨w.heap.size, 0, none⟩), undef, .pointer (some ⟨w.heap.size + 1, 0, none⟩), .pointer (some ⟨w.heap.size + 1 + 1, 0, none⟩), .int .i64 0, .pointer (some ⟨w1.heap.size, 0, none⟩), .int .i64 0, .int .i64 (m : Int), .pointer (some ⟨W4.drew.heap.size, 0, none⟩), undef, undef, .tuple #[.agg #[.string D.nm, .int .u8 (D.k : Int), .string D.d, .slice b D.kids.length c], .int .i64 0], .agg #[.string T.nm, .int .u8 (T.k : Int), .string T.d, .slice a T.kids.length cap], .slice (some ⟨pb, po, none⟩) (m + 1) cp, .tuple #[.agg #[.string D.nm, .int .u8 (D.k : Int), .string D.d, .slice b D.kids.length c], .int .i64 0], .agg #[.string D.nm, .int .u8 (D.k : Int), .string D.d, .slice b D.kids.length c], .int .i64 0, .int .i64 0, .bool false, undef, undef, .pointer (some ⟨w1.heap.size, 1, none⟩), .int .u8 (D.k : Int), .bool false, undef, .slice (some ⟨pb, po, none⟩) (m + 1) cp, .int .i64 ((m : Int) + 1), .int .i64 (m : Int), .slice (some ⟨pb, po, none⟩) (m + 1) cp, .int .i64 (m : Int), .pointer (some ⟨pb, po + m, none⟩), .string (Ft.lastN p), .pointer (some ⟨w.heap.size + 1, 0, none⟩), .agg #[.string T.nm, .int .u8 (T.k : Int), .string T.d, .slice a T.kids.length cap], .slice (some ⟨pb, po, none⟩) (m + 1) cp, .int .i64 (m : Int), .slice (some ⟨pb, po, none⟩) m cp, .pointer (some ⟨w1.heap.size, 3, none⟩), .slice b D.kids.length c, .pointer (some ⟨w.heap.size + 1, 0, none⟩), .string (Ft.lastN p), .agg #[.string (Ft.lastN p), .int .u8 (f.k : Int), .string f.d, .slice fa f.kids.length fc], .slice (some ⟨W4.drew.heap.size + 1, 0, none⟩) 1 1, undef, undef, undef, undef, undef, undef, undef, undef, undef, undef, undef, undef, undef], defers := [] } ((W4.drew.alloc (.cells #[.string ⟨#[]⟩, .int .u8 0, .string ⟨#[]⟩, .slice none 0 0] 25)).alloc (.cells #[.string (Ft.lastN p), .int .u8 (f.k : Int), .string f.d, .slice fa f.kids.length fc] 25))
            refine wpAnyH_ready (rs := [10]) (by kernel_rfl) (by simp) ?_
            refine AllReadyH.cons rfl (fun K hK => ?_) ?_
            · go_simp
              refine Calls.mono (HSw.out (fun k => k = (W4.drew.heap.size)) _ _ (fun k hk => by cases hk; exact ⟨zc23.1, zro24.lt⟩) hb24 row25 (show ¬ (W4.drew.heap.size + 1 = (W4.drew.heap.size)) by omega)) ?_
              rintro e v26 ⟨a4, c4, rfl, fl26, rl26⟩
              have hr27 : Below (((W4.drew.alloc (.cells #[.string ⟨#[]⟩, .int .u8 0, .string ⟨#[]⟩, .slice none 0 0] 25)).alloc (.cells #[.string (Ft.lastN p), .int .u8 (f.k : Int), .string f.d, .slice fa f.kids.length fc] 25))).heap.size (((W4.drew.alloc (.cells #[.string ⟨#[]⟩, .int .u8 0, .string ⟨#[]⟩, .slice none 0 0] 25)).alloc (.cells #[.string (Ft.lastN p), .int .u8 (f.k : Int), .string f.d, .slice fa f.kids.length fc] 25))) (v26) := rl26
              have hb27 : Below W4.heap.size W4 (v26) := hb24.trans (hr27.mono hb24.size)
              have hs27 := HS8.out _ hb27
              have row27 := Ft.FileAt.under row25 hr27
              have zro27 := Ft.FileAt.under zro24 hr27
              refine hK.out _ _ hs27 (fun _ => ?_)
              clear hK K
              change wpAnyH Tryz.prog .any _ _ _ _ _ { tmps := #[.agg #[.string T.nm, .int .u8 (T.k : Int), .string T.d, .slice a T.kids.length cap], .slice (some ⟨pb, po, none⟩) (m + 1) cp, .agg #[.string f.nm, .int .u8 (f.k : Int), .string f.d, .slice fa f.kids.length fc], .pointer (some ⟨w.heap.size, 0, none⟩), undef, .pointer (some ⟨w.heap.size + 1, 0, none⟩), .pointer (some ⟨w.heap.size + 1 + 1, 0, none⟩), .int .i64 0, .pointer (some ⟨w1.heap.size, 0, none⟩), .int .i64 0, .int .i64 (m : Int), .pointer (some ⟨W4.drew.heap.size, 0, none⟩), undef, undef, .tuple #[.agg #[.string D.nm, .int .u8 (D.k : Int), .string D.d, .slice b D.kids.length c], .int .i64 0], .agg #[.string T.nm, .int .u8 (T.k : Int), .string T.d, .slice a T.kids.length cap], .slice (some ⟨pb, po, none⟩) (m + 1) cp, .tuple #[.agg #[.string D.nm, .int .u8 (D.k : Int), .string D.d, .slice b D.kids.length c], .int .i64 0], .agg #[.string D.nm, .int .u8 (D.k : Int), .string D.d, .slice b D.kids.length c], .int .i64 0, .int .i64 0, .bool false, undef, undef, .pointer (some ⟨w1.heap.size, 1, none⟩), .int .u8 (D.k : Int), .bool false, undef, .slice (some ⟨pb, po, none⟩) (m + 1) cp, .int .i64 ((m : Int) + 1), .int .i64 (m : Int), .slice (some ⟨pb, po, none⟩) (m + 1) cp, .int .i64 (m : Int), .pointer (some ⟨pb, po + m, none⟩), .string (Ft.lastN p), .pointer (some ⟨w.heap.size + 1, 0, none⟩), .agg #[.string T.nm, .int .u8 (T.k : Int), .string T.d, .slice a T.kids.length cap], .slice (some ⟨pb, po, none⟩) (m + 1) cp, .int .i64 (m : Int), .slice (some ⟨pb, po, none⟩) m cp, .pointer (some ⟨w1.heap.size, 3, none⟩), .slice b D.kids.length c, .pointer (some ⟨w.heap.size + 1, 0, none⟩), .string (Ft.lastN p), .agg #[.string (Ft.lastN p), .int .u8 (f.k : Int), .string f.d, .slice fa f.kids.length fc], .slice (some ⟨W4.drew.heap.size + 1, 0, none⟩) 1 1, .slice a4 IN.length c4, undef, undef, undef, undef, undef, undef, undef, undef, undef, undef, undef, undef], defers := [] } v26
              refine wpAnyH_ready (rs := [11]) (by kernel_rfl) (by simp) ?_
              refine AllReadyH.cons rfl (fun K hK => ?_) ?_
              · go_simp
                refine Calls.mono (HWt.out (fun k => k = (W4.drew.heap.size)) _ a4 c4 (fun k hk => by cases hk; exact ⟨zc23.1, zro27.lt⟩) hb27 fl26) ?_
                rintro e v28 ⟨a5, c5, rfl, fo28, rl28⟩
                have hr29 : Below (v26).heap.size (v26) (v28) := rl28
                have hb29 : Below W4.heap.size W4 (v28) := hb27.trans (hr29.mono hb27.size)
                have hs29 := HS8.out _ hb29
                have row29 := Ft.FileAt.under row27 hr29
                have zro29 := Ft.FileAt.under zro27 hr29
                refine hK.out _ _ hs29 (fun _ => ?_)
                clear hK K
                change wpAnyH Tryz.prog .any _ _ _ _ _ { tmps := #[.agg #[.string T.nm, .int .u8 (T.k : Int), .string T.d, .slice a T.kids.length cap], .slice (some ⟨pb, po, none⟩) (m + 1) cp, .agg #[.string f.nm, .int .u8 (f.k : Int), .string f.d, .slice fa f.kids.length fc], .pointer (some ⟨w.heap.size, 0, none⟩), undef, .pointer (some ⟨w.heap.size + 1, 0, none⟩), .pointer (some ⟨w.heap.size + 1 + 1, 0, none⟩), .int .i64 0, .pointer (some ⟨w1.heap.size, 0, none⟩), .int .i64 0, .int .i64 (m : Int), .pointer (some ⟨W4.drew.heap.size, 0, none⟩), undef, undef, .tuple #[.agg #[.string D.nm, .int .u8 (D.k : Int), .string D.d, .slice b D.kids.length c], .int .i64 0], .agg #[.string T.nm, .int .u8 (T.k : Int), .string T.d, .slice a T.kids.length cap], .slice (some ⟨pb, po, none⟩) (m + 1) cp, .tuple #[.agg #[.string D.nm, .int .u8 (D.k : Int), .string D.d, .slice b D.kids.length c], .int .i64 0], .agg #[.string D.nm, .int .u8 (D.k : Int), .string D.d, .slice b D.kids.length c], .int .i64 0, .int .i64 0, .bool false, undef, undef, .pointer (some ⟨w1.heap.size, 1, none⟩), .int .u8 (D.k : Int), .bool false, undef, .slice (some ⟨pb, po, none⟩) (m + 1) cp, .int .i64 ((m : Int) + 1), .int .i64 (m : Int), .slice (some ⟨pb, po, none⟩) (m + 1) cp, .int .i64 (m : Int), .pointer (some ⟨pb, po + m, none⟩), .string (Ft.lastN p), .pointer (some ⟨w.heap.size + 1, 0, none⟩), .agg #[.string T.nm, .int .u8 (T.k : Int), .string T.d, .slice a T.kids.length cap], .slice (some ⟨pb, po, none⟩) (m + 1) cp, .int .i64 (m : Int), .slice (some ⟨pb, po, none⟩) m cp, .pointer (some ⟨w1.heap.size, 3, none⟩), .slice b D.kids.length c, .pointer (some ⟨w.heap.size + 1, 0, none⟩), .string (Ft.lastN p), .agg #[.string (Ft.lastN p), .int .u8 (f.k : Int), .string f.d, .slice fa f.kids.length fc], .slice (some ⟨W4.drew.heap.size + 1, 0, none⟩) 1 1, .slice a4 IN.length c4, .agg #[.string O.nm, .int .u8 (O.k : Int), .string O.d, .slice a5 O.kids.length c5], undef, undef, undef, undef, undef, undef, undef, undef, undef, undef, undef], defers := [] } v28
                refine wpAnyH_ready (rs := [13]) (by kernel_rfl) (by simp) ?_
                refine AllReadyH.cons rfl (fun K hK => ?_) ?_
                · obtain ⟨zz, hzz⟩ : ∃ zz, zz = (W4.drew.heap.size) := ⟨_, rfl⟩
                  rw [← hzz]
                  have zr30 : Ft.FileAt (v28) zz Ft.zF none 0 := by rw [hzz]; exact zro29
                  have fo30 : Ft.Fd (v28) (fun k => k < (v28).heap.size ∧ ¬ k = zz) O a5 c5 := by rw [hzz]; exact fo28.out
                  have zl30 : W4.heap.size ≤ zz := by rw [hzz]; exact zc23.1
                  have z0 : (v28).cell? ⟨zz, 0, none⟩ = some (.string ⟨#[]⟩) := zr30.four.c0
                  have z1 : (v28).cell? ⟨zz, 1, none⟩ = some (.int .u8 0) := zr30.four.c1
                  have z2 : (v28).cell? ⟨zz, 2, none⟩ = some (.string ⟨#[]⟩) := zr30.four.c2
                  have z3 : (v28).cell? ⟨zz, 3, none⟩ = some (.slice none 0 0) := zr30.four.c3
                  have zf := zr30.frozen
                  have HZZ : Hid (zz = (W4.drew.heap.size)) := hzz
                  clear hzz
                  go_simp
                  have hp30 : Below W4.heap.size W4 (Ft.putF (v28) zz O a5 c5) := Ft.putF_below hb29 zl30
                  refine hK.out _ _ (HS8.out _ hp30) (fun _ => ?_)
                  refine wpAnyH_done (by kernel_rfl) ?_ _
                  clear hK K z0 z1 z2 z3 zf
                  go_wp2_with fail
                  go_meet
                  exact ⟨zz, rfl, HEnd.out _ zz a5 c5 zl30 hb29 zr30 fo30⟩
                exact AllReadyH.nil
              exact AllReadyH.nil
            exact AllReadyH.nil
          exact AllReadyH.nil
        exact AllReadyH.nil
      case rest =>
        obtain ⟨n, rfl, HM⟩ := hcut
        obtain ⟨a5, c5, hPM, hOn, hOf, hn2⟩ := HM.out
        have HZO : Hid (Ft.szT O = true) := by
          have hzD := Ft.sz_look _ _ _ HX.out.2.2.1 HZ.out.1
          rw [Ft.sz_kids] at hzD
          show _ = _
          rw [HO2.out.2, HO2.out.1]
          refine Ft.sz_with _ _ _ HZ.out.1 (Ft.szL_ins _ _ _ hzD ?_)
          have h1 : (Ft.renT f (Ft.lastN p)).nm.size ≤ 1048576 := HX.out.2.2.2.2.2
          have h2 : (Ft.renT f (Ft.lastN p)).d.size ≤ 1048576 := HZ.out.2.2.1
          have h3 : Ft.szT (Ft.renT f (Ft.lastN p)) = true := by have := HZ.out.2.1; rw [Ft.sz_kids] at this ⊢; exact this
          rw [Ft.szL_cons, decide_eq_true h1, decide_eq_true h2, h3, Ft.szT.szL]; rfl
        have C9 := tchk O a5 c5 wc hOf HZO.out
        obtain ⟨x0, x1, x2, x3⟩ := hOn.cellsQ
        have HPM : Hid (Ft.PutW w T a cap (Ft.renT f (Ft.lastN p)) fa fc wc ∧ Ft.FileAt wc n O a5 c5 ∧ Ft.Fd wc (· < wc.heap.size) O a5 c5) := ⟨hPM, hOn, hOf⟩
        have HPR : Hid (Ft.putR T p f = if Ft.rightT O = true then .inr O else .inl 30) := by
          show _ = _
          unfold Ft.putR
          rw [HO.out, HO2.out.2, HO2.out.1]
          simp only
          rw [if_pos HX.out.2.2.2.1]
        simp only [Ft.fdV, Ft.fdA] at C9
        have HC9 : Hid _ := C9
        clear hPM hOn hOf HM C9 HZO
        go_wp2_with fail
        refine Calls.mono HC9.out ?_
        clear HC9 x0 x1 x2 x3
        rintro e w9 ⟨⟨v9, rfl⟩, b9⟩
        have HQM : Hid (Ft.PutW w T a cap (Ft.renT f (Ft.lastN p)) fa fc w9 ∧ Ft.FileAt w9 n O a5 c5 ∧ Ft.Fd w9 (· < w9.heap.size) O a5 c5) := ⟨HPM.out.1.under b9, HPM.out.2.1.under b9, HPM.out.2.2.grew b9 b9.size⟩
        have hs9 := b9.size
        obtain ⟨z0, z1, z2, z3⟩ := HQM.out.1.z.cellsQ
        have z0 : w9.cell? ⟨w.heap.size + 2, 0, none⟩ = some (.string ⟨#[]⟩) := z0
        have z1 : w9.cell? ⟨w.heap.size + 2, 1, none⟩ = some (.int .u8 0) := z1
        have z2 : w9.cell? ⟨w.heap.size + 2, 2, none⟩ = some (.string ⟨#[]⟩) := z2
        have z3 : w9.cell? ⟨w.heap.size + 2, 3, none⟩ = some (.slice none 0 0) := z3
        have zf := HQM.out.1.z.frozen
        clear HPM b9
        cases hr : Ft.rightT O
        · have HC30 : Ft.lstC O = 30 := by unfold Ft.lstC; rw [hr]; rfl
          have HE : Hid (Ft.putR T p f = .inl 30) := by show _ = _; rw [HPR.out, hr]; rfl
          rw [HC30]
          clear HC30 hr HPR
          go_wp2_with fail
          have y0 := HQM.out.1.z.putF Ft.zF none 0
          have y1 : Below w.heap.size w (Ft.putF w9 (w.heap.size + 2) Ft.zF none 0) := Ft.putF_below HQM.out.1.bel (by omega)
          refine bodyPost_ret (Ft.results_fil rfl _ _ (w.heap.size + 2) Ft.zF none 0 rfl y0) rfl ?_
          rw [HE.out]
          exact ⟨Ft.zF, none, 0, 30, rfl, ⟨⟨rfl, rfl⟩, Ft.fdx_zero _ _ _ y1.size, y1⟩⟩
        · have HC0 : Ft.lstC O = 0 := by unfold Ft.lstC; rw [hr]; rfl
          have HE : Hid (Ft.putR T p f = .inr O) := by show _ = _; rw [HPR.out, hr]; rfl
          have C10 := tcopyx_any O a5 c5 w9 HQM.out.2.2
          simp only [Ft.fdV, Ft.fdA] at C10
          have HC10 : Hid _ := C10
          rw [HC0]
          obtain ⟨x0, x1, x2, x3⟩ := HQM.out.2.1.cellsQ
          clear HC0 hr HPR C10 z0 z1 z2 z3 zf
          go_wp2_with fail
          refine Calls.mono HC10.out ?_
          clear HC10 x0 x1 x2 x3
          rintro e w10 ⟨a6, c6, rfl, hd, b10⟩
          have hs10 := b10.size
          have HV : Hid (Ft.PutW w T a cap (Ft.renT f (Ft.lastN p)) fa fc w10 ∧ Ft.Fdx w10 w9.heap.size w10.heap.size O a6 c6) := ⟨HQM.out.1.under b10, hd⟩
          have hz2 : w.heap.size + 2 < w9.heap.size := HQM.out.1.z.lt
          obtain ⟨z0, z1, z2, z3⟩ := HV.out.1.z.cellsQ
          have z0 : w10.cell? ⟨w.heap.size + 2, 0, none⟩ = some (.string ⟨#[]⟩) := z0
          have z1 : w10.cell? ⟨w.heap.size + 2, 1, none⟩ = some (.int .u8 0) := z1
          have z2 : w10.cell? ⟨w.heap.size + 2, 2, none⟩ = some (.string ⟨#[]⟩) := z2
          have z3 : w10.cell? ⟨w.heap.size + 2, 3, none⟩ = some (.slice none 0 0) := z3
          have zf := HV.out.1.z.frozen
          clear b10 hd
          go_wp2_with fail
          have y0 := HV.out.1.z.putF O a6 c6
          have y1 : Below w.heap.size w (Ft.putF w10 (w.heap.size + 2) O a6 c6) := Ft.putF_below HV.out.1.bel (by omega)
          refine bodyPost_ret (Ft.results_fil rfl _ _ (w.heap.size + 2) O a6 c6 rfl y0) rfl ?_
          rw [HE.out]
          exact ⟨O, a6, c6, 0, rfl, ⟨⟨rfl, rfl⟩, (HV.out.2.same (fun k hk _ => Ft.putF_other (by omega))).widen (by omega) (Ft.putF_below (Below.refl 0 w10) (Nat.zero_le _)).size, y1⟩⟩
    · have HE : Hid (Ft.putR T p f = .inl 32) := by
        show _ = _
        unfold Ft.putR
        rw [HO.out]
        simp only
        rw [if_neg hk]
      have hki : (D.k : Int) ≠ 1 := by omega
      have hkb : ((D.k : Int) != 1) = true := by simp; omega
      go_wp2_with fail
      have y0 := HP2.out.z.putF Ft.zF none 0
      have y1 : Below w.heap.size w (Ft.putF w2 (w.heap.size + 2) Ft.zF none 0) := Ft.putF_below HP2.out.bel (by omega)
      refine bodyPost_ret (Ft.results_fil rfl _ _ (w.heap.size + 2) Ft.zF none 0 rfl y0) rfl ?_
      rw [HE.out]
      exact ⟨Ft.zF, none, 0, 32, rfl, ⟨⟨rfl, rfl⟩, Ft.fdx_zero _ _ _ y1.size, y1⟩⟩
  · have hc0 : code ≠ 0 := by simpa using hc
    obtain ⟨n, hn, hcn, _⟩ := Ft.fnd_inl HD2.out.2.2.1 hc0
    have HE : Hid (Ft.putR T p f = .inl n ∧ code = n) := ⟨by unfold Ft.putR; rw [hn], hcn⟩
    clear hn hcn
    go_wp2_with fail
    have y0 := HP2.out.z.putF Ft.zF none 0
    have y1 : Below w.heap.size w (Ft.putF w2 (w.heap.size + 2) Ft.zF none 0) := Ft.putF_below HP2.out.bel (by omega)
    refine bodyPost_ret (Ft.results_fil rfl _ _ (w.heap.size + 2) Ft.zF none 0 rfl y0) rfl ?_
    rw [HE.out.1]
    exact ⟨Ft.zF, none, 0, code, rfl, ⟨⟨rfl, HE.out.2⟩, Ft.fdx_zero _ _ _ y1.size, y1⟩⟩
theorem tput_any (T f : Ft.FT) (p : List ByteArray) (a ap fa : Option Addr) (cap cp fc : Nat) (w : World) (hN : Ft.Fd w (· < w.heap.size) T a cap) (hz : Ft.szT T = true) (hP : Strs w ap cp p) (hf : Ft.Fd w (· < w.heap.size) f fa fc) (hzf : Ft.szT f = true) (hfd : f.d.size ≤ 1048576) (hpz : ∀ s ∈ p, s.size ≤ 1048576) (hc : Ft.cntT T < 1048576) :
    Calls Tryz.prog 15 #[Ft.fdV T a cap, .slice ap p.length cp, Ft.fdV f fa fc] w (Ft.GetE w (Ft.putR T p f)) := (tputx_any T f p a ap fa cap cp fc w hN hz hP hf hzf hfd hpz hc).mono fun _ _ h => h.e
end Go.Proofs.YtfbhofomcenabaaGreatDoor
namespace Go.Proofs.YtfbhofomcenabaaGreatDoor
open Go Go.RowKit

namespace Ft
theorem FnP.under {P : Nat → Prop} {w V V' : World} {T : FT} {a : Option Addr} {cap : Nat} (h : FnP P w T a cap V) (hP : ∀ b, P b → b < w.heap.size) (hb : Below V.heap.size V V') : FnP P w T a cap V' :=
  ⟨h.1.under hb, h.2.1.underP hP (hb.mono h.2.2.2.size), h.2.2.1.under hb, h.2.2.2.trans (hb.mono h.2.2.2.size)⟩
theorem dropR_of {T D U : FT} {p : List ByteArray} (h : holdR T p = .inr D) (h2 : lookR T p = .inr U) : dropR T p = .inr (withR T (headsN p) (insN D.kids (lastN p) [])) := by
  unfold dropR
  rw [h]
  simp only
  rw [h2]
end Ft

set_option maxRecDepth 100000 in
set_option maxHeartbeats 4000000 in
theorem tdropx_any (T : Ft.FT) (p : List ByteArray) (a ap : Option Addr) (cap cp : Nat) (w : World) (hN : Ft.Fd w (· < w.heap.size) T a cap) (hz : Ft.szT T = true) (hP : Strs w ap cp p) :
    Calls Tryz.prog 17 #[Ft.fdV T a cap, .slice ap p.length cp] w (Ft.GetX w (Ft.dropR T p)) := by
  obtain ⟨W, hW⟩ : ∃ W, W = (w.alloc (.cells (Ft.fdA T a cap) 25)).alloc (.cells #[.string ⟨#[]⟩, .int .u8 0, .string ⟨#[]⟩, .slice none 0 0] 25) := ⟨_, rfl⟩
  have hB : Below w.heap.size w W := by rw [hW]; exact ((Below.refl _ _).alloc (Nat.le_refl _) _).alloc (by simp) _
  have hF : Ft.FnP (· < w.heap.size) w T a cap W := by
    refine ⟨?_, hN.under hB, ?_, hB⟩
    · rw [hW]; exact (Ft.file_new w T a cap).alloc _
    · rw [hW]
      have := Ft.file_zero (w.alloc (.cells (Ft.fdA T a cap) 25))
      simpa using this
  have HW : Hid (W = (w.alloc (.cells #[.string T.nm, .int .u8 (T.k : Int), .string T.d, .slice a T.kids.length cap] 25)).alloc (.cells #[.string ⟨#[]⟩, .int .u8 0, .string ⟨#[]⟩, .slice none 0 0] 25)) := hW
  have HF : Hid (Ft.FnP (· < w.heap.size) w T a cap W ∧ Strs w ap cp p) := ⟨hF, hP⟩
  have C1 := tholder_any (· < w.heap.size) T p a ap cap cp W (fun b (h : b < w.heap.size) => Nat.lt_of_lt_of_le h hB.size) (hN.under hB) hz (hP.below hB)
  have hpl := hP.len
  have hpr := hP.room
  have hTl := hN.room.1
  clear hW hB hF hN hP hz
  simp only [Ft.fdV, Ft.fdA] at C1 ⊢
  go_enter Tryz.func17, Tryz.ntmps17
  go_wp2_with fail
  rw [← HW.out]
  clear HW
  refine C1.mono ?_
  clear C1
  rintro e w1 ⟨D, b, c, code, rfl, K1⟩
  simp only
  have hqW : w.heap.size + 1 < W.heap.size := HF.out.1.2.2.1.lt
  have hq1 : W.heap.size ≤ w1.heap.size := K1.out.2.2.size
  obtain ⟨w2, hw2⟩ : ∃ w2, w2 = w1.alloc (.cells (Ft.fdA D b c) 25) := ⟨_, rfl⟩
  have HW2 : Hid (w2 = w1.alloc (.cells #[.string D.nm, .int .u8 (D.k : Int), .string D.d, .slice b D.kids.length c] 25)) := hw2
  have b2 : Below W.heap.size W w2 := by rw [hw2]; exact K1.out.2.2.alloc hq1 _
  have HP2 : Hid (Ft.FnP (· < w.heap.size) w T a cap w2) := HF.out.1.under (fun _ h => h) b2
  have hD2 : Ft.FileAt w2 w1.heap.size D b c := by rw [hw2]; exact Ft.file_new w1 D b c
  have HD2 : Hid (Ft.FileAt w2 w1.heap.size D b c ∧ Ft.Fd w2 (· < w.heap.size) D b c ∧ Ft.FindIs (Ft.holdR T p) D code) := ⟨hD2, by
    rw [hw2]
    exact K1.out.2.1.under ((Below.refl _ _).alloc (by omega) _), K1.out.1⟩
  have hDl := K1.out.2.1.room.1
  have HST : Hid (Strs w ap cp p) := HF.out.2
  have hq2 : w1.heap.size < w2.heap.size := hD2.lt
  clear hw2 b2 hD2 K1 HF
  go_upto_region 2 with fail
  rw [← HW2.out]
  clear HW2
  have z0 : w2.cell? ⟨w.heap.size + 1, 0, none⟩ = some (.string ⟨#[]⟩) := HP2.out.2.2.1.four.c0
  have z1 : w2.cell? ⟨w.heap.size + 1, 1, none⟩ = some (.int .u8 0) := HP2.out.2.2.1.four.c1
  have z2 : w2.cell? ⟨w.heap.size + 1, 2, none⟩ = some (.string ⟨#[]⟩) := HP2.out.2.2.1.four.c2
  have z3 : w2.cell? ⟨w.heap.size + 1, 3, none⟩ = some (.slice none 0 0) := HP2.out.2.2.1.four.c3
  have zf := HP2.out.2.2.1.frozen
  cases hc : (code != 0)
  · have hc0 : code = 0 := by simpa using hc
    subst hc0
    have HO : Hid (Ft.holdR T p = .inr D) := Ft.fnd_inr HD2.out.2.2 (fun n h => Ft.hold_code h)
    obtain ⟨hr, hp0, hlk⟩ := Ft.hold_ok HO.out
    have CL := tlookP_any (· < w.heap.size) T p a ap cap cp w2 (fun b (h : b < w.heap.size) => Nat.lt_of_lt_of_le h HP2.out.2.2.2.size) HP2.out.2.1 (HST.out.below HP2.out.2.2.2) [] (Ft.right_bel hr)
    simp only [Ft.fdV, Ft.fdA] at CL
    have HCL : Hid _ := CL
    obtain ⟨x0, x1, x2, x3⟩ := HP2.out.1.cellsQ
    have HX0 : Hid (Ft.rightT T = true ∧ p.length ≠ 0 ∧ Ft.lookR T (Ft.headsN p) = .inr D) := ⟨hr, hp0, hlk⟩
    clear CL hc z0 z1 z2 z3 zf hr hp0 hlk
    go_wp2_with fail
    refine Calls.mono HCL.out ?_
    clear HCL x0 x1 x2 x3
    rintro e w3 ⟨U, b3, c3, code3, rfl, K3⟩
    simp only [Ft.fdV, Ft.fdA]
    have hq3 : w2.heap.size ≤ w3.heap.size := K3.out.2.2.size
    obtain ⟨W4, hW4⟩ : ∃ W4, W4 = w3.alloc (.cells (Ft.fdA U b3 c3) 25) := ⟨_, rfl⟩
    have HW4 : Hid (W4 = w3.alloc (.cells #[.string U.nm, .int .u8 (U.k : Int), .string U.d, .slice b3 U.kids.length c3] 25)) := hW4
    have b4 : Below w2.heap.size w2 W4 := by rw [hW4]; exact K3.out.2.2.alloc hq3 _
    have HP4 : Hid (Ft.FnP (· < w.heap.size) w T a cap W4 ∧ Ft.FileAt W4 w1.heap.size D b c ∧ Ft.Fd W4 (· < w.heap.size) D b c ∧ Ft.FindIs (Ft.lookR T p) U code3) := ⟨HP2.out.under (fun _ h => h) b4, HD2.out.1.under b4, HD2.out.2.1.under (b4.mono HP2.out.2.2.2.size), K3.out.1⟩
    have hUl := K3.out.2.1.room.1
    clear hW4 b4 K3 HP2 HD2
    go_upto_region 5 with fail
    rw [← HW4.out]
    clear HW4
    have z0 : W4.cell? ⟨w.heap.size + 1, 0, none⟩ = some (.string ⟨#[]⟩) := HP4.out.1.2.2.1.four.c0
    have z1 : W4.cell? ⟨w.heap.size + 1, 1, none⟩ = some (.int .u8 0) := HP4.out.1.2.2.1.four.c1
    have z2 : W4.cell? ⟨w.heap.size + 1, 2, none⟩ = some (.string ⟨#[]⟩) := HP4.out.1.2.2.1.four.c2
    have z3 : W4.cell? ⟨w.heap.size + 1, 3, none⟩ = some (.slice none 0 0) := HP4.out.1.2.2.1.four.c3
    have zf := HP4.out.1.2.2.1.frozen
    cases hc : (code3 != 0)
    · have hc0 : code3 = 0 := by simpa using hc
      subst hc0
      have hkU := Ft.fnd_inr HP4.out.2.2.2 (fun n h => Ft.look_code _ _ _ h)
      have HE : Hid (Ft.dropR T p = .inr (Ft.withR T (Ft.headsN p) (Ft.insN D.kids (Ft.lastN p) []))) := Ft.dropR_of HO.out hkU
      obtain ⟨m, hm⟩ : ∃ m : Nat, p.length = m + 1 := ⟨p.length - 1, by have := HX0.out.2.1; omega⟩
      have hmp : m < p.length := by omega
      have HS4 : Hid (Strs W4 ap cp p) := HST.out.below HP4.out.1.2.2.2
      obtain ⟨pb, po, rfl, hpb, hcell⟩ := HS4.out.cells m hmp
      have hpw : pb < w.heap.size := by
        obtain ⟨pb2, po2, e, hlt, _⟩ := HST.out.cells m hmp
        cases e
        exact hlt
      rw [← Ft.last_at hm hmp] at hcell
      have HX : Hid (Ft.rightT T = true ∧ Ft.lookR T (Ft.headsN p) = .inr D ∧ (Ft.headsN p).length = m) := ⟨HX0.out.1, HX0.out.2.2, by unfold Ft.headsN; rw [List.length_take]; omega⟩
      have hmi : ((m + 1 : Nat) : Int) - 1 = (m : Int) := by omega
      have hw1 : IntKind.i64.wrap (m : Int) = (m : Int) := by rw [IntKind.wrap_i64]; omega
      have hm0 : (0 : Int) ≤ (m : Int) := by omega
      have hml : (m : Int) < ((m + 1 : Nat) : Int) := by omega
      have hmb : m + 1 ≤ 8796093022208 := by omega
      have hmc : (m : Int) ≤ (cp : Int) := by omega
      have hmn : m ≤ cp := by omega
      rw [hm]
      clear hc z0 z1 z2 z3 zf hpl hkU HX0 HO
      go_upto_region 8 with fail
      obtain ⟨IN, hIN⟩ : ∃ IN, IN = Ft.insN D.kids (Ft.lastN p) [] := ⟨_, rfl⟩
      obtain ⟨O, hO⟩ : ∃ O, O = Ft.withR T (Ft.headsN p) IN := ⟨_, rfl⟩
      have HO2 : Hid (IN = Ft.insN D.kids (Ft.lastN p) [] ∧ O = Ft.withR T (Ft.headsN p) IN) := ⟨hIN, hO⟩
      have HE2 : Hid (Ft.dropR T p = .inr O) := by show _ = _; rw [HE.out, hO, hIN]
      have hws : w.heap.size ≤ W4.heap.size := HP4.out.1.2.2.2.size
      have HS8 : Hid (∀ V, Below W4.heap.size W4 V → V.cell? ⟨w.heap.size, 0, none⟩ = some (.string T.nm) ∧ V.cell? ⟨w.heap.size, 1, none⟩ = some (.int .u8 (T.k : Int)) ∧ V.cell? ⟨w.heap.size, 2, none⟩ = some (.string T.d) ∧ V.cell? ⟨w.heap.size, 3, none⟩ = some (.slice a T.kids.length cap) ∧ V.cell? ⟨w1.heap.size, 3, none⟩ = some (.slice b D.kids.length c) ∧ V.cell? ⟨pb, po + m, none⟩ = some (.string (Ft.lastN p))) := fun V hV => by
        obtain ⟨u0, u1, u2, u3⟩ := (Ft.FileAt.under HP4.out.1.1 hV).cellsQ
        exact ⟨u0, u1, u2, u3, (Ft.FileAt.under HP4.out.2.1 hV).cellsQ.2.2.2, (hV.cell (p := ⟨pb, po + m, none⟩) (Nat.lt_of_lt_of_le hpw hws)).trans hcell⟩
      have HSP : Hid (∀ (V : World) (O : Ft.FT) (a6 : Option Addr) (c6 : Nat), Below W4.heap.size W4 V → (Ft.putF V (w.heap.size + 1) O a6 c6).cell? ⟨w.heap.size, 0, none⟩ = some (.string T.nm) ∧ (Ft.putF V (w.heap.size + 1) O a6 c6).cell? ⟨w.heap.size, 1, none⟩ = some (.int .u8 (T.k : Int)) ∧ (Ft.putF V (w.heap.size + 1) O a6 c6).cell? ⟨w.heap.size, 2, none⟩ = some (.string T.d) ∧ (Ft.putF V (w.heap.size + 1) O a6 c6).cell? ⟨w.heap.size, 3, none⟩ = some (.slice a T.kids.length cap) ∧ (Ft.putF V (w.heap.size + 1) O a6 c6).cell? ⟨w1.heap.size, 3, none⟩ = some (.slice b D.kids.length c) ∧ (Ft.putF V (w.heap.size + 1) O a6 c6).cell? ⟨pb, po + m, none⟩ = some (.string (Ft.lastN p))) := fun V O a6 c6 hV => by
        have hD1 : w.heap.size + 1 < w1.heap.size := by omega
        have key : ∀ k j, k ≠ w.heap.size + 1 → (Ft.putF V (w.heap.size + 1) O a6 c6).cell? ⟨k, j, none⟩ = V.cell? ⟨k, j, none⟩ := fun k j hk => World.cell?_of_block (Ft.putF_other hk)
        obtain ⟨u0, u1, u2, u3, u4, u5⟩ := HS8.out V hV
        exact ⟨(key _ _ (by omega)).trans u0, (key _ _ (by omega)).trans u1, (key _ _ (by omega)).trans u2, (key _ _ (by omega)).trans u3, (key _ _ (by omega)).trans u4, (key _ _ (by omega)).trans u5⟩
      have HSw : Hid (∀ (V : World), Below W4.heap.size W4 V → Calls Tryz.prog 56 #[.slice b D.kids.length c, .string (Ft.lastN p), .slice none 0 0] V fun e w' => ∃ a4 c4, e = .returned (.slice a4 IN.length c4) ∧ Hid (Ft.FdL w' (· < w'.heap.size) (IN, a4, c4)) ∧ Below V.heap.size V w') := fun V hV => by
        have hsV := hV.size
        have hrD := Ft.bel_of_look _ _ _ _ (Ft.right_bel HX.out.1) HX.out.2.1
        refine (swap_out D (Ft.lastN p) b c _ V (fun k h => h) ((HP4.out.2.2.1.under (hV.mono hws)).mono (fun k (hk : k < w.heap.size) => by show k < V.heap.size; omega)) (Ft.bel_ris hrD.choose_spec)).mono ?_
        rintro e w' ⟨a4, c4, rfl, h1, h2⟩
        rw [← HO2.out.1] at h1 ⊢
        have hs' := h2.size
        exact ⟨a4, c4, rfl, h1.mono (fun k h => by rcases h with h | h <;> omega), h2⟩
      have HWt : Hid (∀ (V : World) (a4 : Option Addr) (c4 : Nat), Below W4.heap.size W4 V → Hid (Ft.FdL V (· < V.heap.size) (IN, a4, c4)) → Calls Tryz.prog 55 #[.agg #[.string T.nm, .int .u8 (T.k : Int), .string T.d, .slice a T.kids.length cap], .slice (some ⟨pb, po, none⟩) m cp, .slice a4 IN.length c4] V fun e w' => ∃ a5 c5, e = .returned (.agg #[.string O.nm, .int .u8 (O.k : Int), .string O.d, .slice a5 O.kids.length c5]) ∧ Hid (Ft.Fd w' (· < w'.heap.size) O a5 c5) ∧ Below V.heap.size V w') := fun V a4 c4 hV hF => by
        have hsV := hV.size
        have hS : Strs V (some ⟨pb, po, none⟩) cp (Ft.headsN p) := by
          have := (HS4.out.take m).below hV
          unfold Ft.headsN
          rw [show p.length - 1 = m by omega]
          exact this
        have h := twith_any (Ft.headsN p) T a (some ⟨pb, po, none⟩) cap cp (IN, a4, c4) _ V (fun k h => h) ((HP4.out.1.2.1.under (hV.mono hws)).mono (fun k (hk : k < w.heap.size) => by show k < V.heap.size; omega)) hF hS (by rw [HX.out.2.2]; omega) ⟨[], Ft.right_bel HX.out.1⟩ ⟨D, HX.out.2.1⟩
        rw [HX.out.2.2] at h
        refine h.mono ?_
        rintro e w' ⟨a5, c5, rfl, h12⟩
        have h1 := h12.out.1
        have h2 := h12.out.2
        have e9 : Ft.withR T (Ft.headsN p) (IN, a4, c4).1 = O := HO2.out.2.symm
        rw [e9] at h1
        rw [e9]
        have hs' := h2.size
        exact ⟨a5, c5, rfl, h1.mono (fun k h => by rcases h with h | h <;> omega), h2⟩
      have HCp : Hid (∀ (V : World) (a5 : Option Addr) (c5 : Nat), Below W4.heap.size W4 V → Hid (Ft.Fd V (· < V.heap.size) O a5 c5) → Calls Tryz.prog 19 #[.agg #[.string O.nm, .int .u8 (O.k : Int), .string O.d, .slice a5 O.kids.length c5]] V fun e w' => ∃ a6 c6, e = .returned (.agg #[.string O.nm, .int .u8 (O.k : Int), .string O.d, .slice a6 O.kids.length c6]) ∧ Hid (Ft.Fdx w' V.heap.size w'.heap.size O a6 c6) ∧ Below V.heap.size V w') := fun V a5 c5 hV hF => tcopyx_any O a5 c5 V hF
      have hbD : Below W4.heap.size W4 W4.drew := (Below.refl _ W4).drew
      have HS0 := HS8.out _ hbD
      clear hIN hO hcell hpb hpw
      refine wp_region_held (S := fun w' => w'.cell? ⟨w.heap.size, 0, none⟩ = some (.string T.nm) ∧ w'.cell? ⟨w.heap.size, 1, none⟩ = some (.int .u8 (T.k : Int)) ∧ w'.cell? ⟨w.heap.size, 2, none⟩ = some (.string T.d) ∧ w'.cell? ⟨w.heap.size, 3, none⟩ = some (.slice a T.kids.length cap) ∧ w'.cell? ⟨w1.heap.size, 3, none⟩ = some (.slice b D.kids.length c) ∧ w'.cell? ⟨pb, po + m, none⟩ = some (.string (Ft.lastN p))) (by kernel_rfl) ?_
      change wpAnyH Tryz.prog .any _ _ _ _ _ { tmps := #[.agg #[.string T.nm, .int .u8 (T.k : Int), .string T.d, .slice a T.kids.length cap], .slice (some ⟨pb, po, none⟩) (m + 1) cp, .pointer (some ⟨w.heap.size, 0, none⟩), undef, .pointer (some ⟨w.heap.size + 1, 0, none⟩), .int .i64 0, .pointer (some ⟨w1.heap.size, 0, none⟩), .int .i64 0, .pointer (some ⟨w3.heap.size, 0, none⟩), .int .i64 0, .int .i64 (m : Int), .tuple #[.agg #[.string D.nm, .int .u8 (D.k : Int), .string D.d, .slice b D.kids.length c], .int .i64 0], .agg #[.string T.nm, .int .u8 (T.k : Int), .string T.d, .slice a T.kids.length cap], .slice (some ⟨pb, po, none⟩) (m + 1) cp, .tuple #[.agg #[.string D.nm, .int .u8 (D.k : Int), .string D.d, .slice b D.kids.length c], .int .i64 0], .agg #[.string D.nm, .int .u8 (D.k : Int), .string D.d, .slice b D.kids.length c], .int .i64 0, .int .i64 0, .bool false, undef, undef, .tuple #[.agg #[.string U.nm, .int .u8 (U.k : Int), .string U.d, .slice b3 U.kids.length c3], .int .i64 0], .agg #[.string T.nm, .int .u8 (T.k : Int), .string T.d, .slice a T.kids.length cap], .slice (some ⟨pb, po, none⟩) (m + 1) cp, .tuple #[.agg #[.string U.nm, .int .u8 (U.k : Int), .string U.d, .slice b3 U.kids.length c3], .int .i64 0], .agg #[.string U.nm, .int .u8 (U.k : Int), .string U.d, .slice b3 U.kids.length c3], .int .i64 0, .int .i64 0, .bool false, undef, undef, .slice (some ⟨pb, po, none⟩) (m + 1) cp, .int .i64 ((m : Int) + 1), .int .i64 (m : Int), undef, undef, undef, undef, undef, undef, undef, undef, undef, undef, undef, undef, undef], defers := [] } W4.drew
      refine wpAnyH_take (i := 0) (v := .agg #[.string T.nm, .int .u8 (T.k : Int), .string T.d, .slice a T.kids.length cap]) rfl (by kernel_rfl) (by kernel_rfl) (by kernel_rfl) (fun _ _ _ h => h) (Or.inl ⟨by rfl, ?_⟩) HS0 ?_
      · intro w9 hw9; obtain ⟨y0, y1, y2, y3, y4, y5⟩ := hw9; go_simp
      change wpAnyH Tryz.prog .any _ _ _ _ _ { tmps := #[.agg #[.string T.nm, .int .u8 (T.k : Int), .string T.d, .slice a T.kids.length cap], .slice (some ⟨pb, po, none⟩) (m + 1) cp, .pointer (some ⟨w.heap.size, 0, none⟩), undef, .pointer (some ⟨w.heap.size + 1, 0, none⟩), .int .i64 0, .pointer (some ⟨w1.heap.size, 0, none⟩), .int .i64 0, .pointer (some ⟨w3.heap.size, 0, none⟩), .int .i64 0, .int .i64 (m : Int), .tuple #[.agg #[.string D.nm, .int .u8 (D.k : Int), .string D.d, .slice b D.kids.length c], .int .i64 0], .agg #[.string T.nm, .int .u8 (T.k : Int), .string T.d, .slice a T.kids.length cap], .slice (some ⟨pb, po, none⟩) (m + 1) cp, .tuple #[.agg #[.string D.nm, .int .u8 (D.k : Int), .string D.d, .slice b D.kids.length c], .int .i64 0], .agg #[.string D.nm, .int .u8 (D.k : Int), .string D.d, .slice b D.kids.length c], .int .i64 0, .int .i64 0, .bool false, undef, undef, .tuple #[.agg #[.string U.nm, .int .u8 (U.k : Int), .string U.d, .slice b3 U.kids.length c3], .int .i64 0], .agg #[.string T.nm, .int .u8 (T.k : Int), .string T.d, .slice a T.kids.length cap], .slice (some ⟨pb, po, none⟩) (m + 1) cp, .tuple #[.agg #[.string U.nm, .int .u8 (U.k : Int), .string U.d, .slice b3 U.kids.length c3], .int .i64 0], .agg #[.string U.nm, .int .u8 (U.k : Int), .string U.d, .slice b3 U.kids.length c3], .int .i64 0, .int .i64 0, .bool false, undef, undef, .slice (some ⟨pb, po, none⟩) (m + 1) cp, .int .i64 ((m : Int) + 1), .int .i64 (m : Int), .agg #[.string T.nm, .int .u8 (T.k : Int), .string T.d, .slice a T.kids.length cap], undef, undef, undef, undef, undef, undef, undef, undef, undef, undef, undef, undef], defers := [] } W4.drew
      refine wpAnyH_take (i := 1) (v := .slice (some ⟨pb, po, none⟩) (m + 1) cp) rfl (by kernel_rfl) (by kernel_rfl) (by kernel_rfl) (fun _ _ _ h => h) (Or.inl ⟨by rfl, ?_⟩) HS0 ?_
      · intro w9 hw9; obtain ⟨y0, y1, y2, y3, y4, y5⟩ := hw9; go_simp
      change wpAnyH Tryz.prog .any _ _ _ _ _ { tmps := #[.agg #[.string T.nm, .int .u8 (T.k : Int), .string T.d, .slice a T.kids.length cap], .slice (some ⟨pb, po, none⟩) (m + 1) cp, .pointer (some ⟨w.heap.size, 0, none⟩), undef, .pointer (some ⟨w.heap.size + 1, 0, none⟩), .int .i64 0, .pointer (some ⟨w1.heap.size, 0, none⟩), .int .i64 0, .pointer (some ⟨w3.heap.size, 0, none⟩), .int .i64 0, .int .i64 (m : Int), .tuple #[.agg #[.string D.nm, .int .u8 (D.k : Int), .string D.d, .slice b D.kids.length c], .int .i64 0], .agg #[.string T.nm, .int .u8 (T.k : Int), .string T.d, .slice a T.kids.length cap], .slice (some ⟨pb, po, none⟩) (m + 1) cp, .tuple #[.agg #[.string D.nm, .int .u8 (D.k : Int), .string D.d, .slice b D.kids.length c], .int .i64 0], .agg #[.string D.nm, .int .u8 (D.k : Int), .string D.d, .slice b D.kids.length c], .int .i64 0, .int .i64 0, .bool false, undef, undef, .tuple #[.agg #[.string U.nm, .int .u8 (U.k : Int), .string U.d, .slice b3 U.kids.length c3], .int .i64 0], .agg #[.string T.nm, .int .u8 (T.k : Int), .string T.d, .slice a T.kids.length cap], .slice (some ⟨pb, po, none⟩) (m + 1) cp, .tuple #[.agg #[.string U.nm, .int .u8 (U.k : Int), .string U.d, .slice b3 U.kids.length c3], .int .i64 0], .agg #[.string U.nm, .int .u8 (U.k : Int), .string U.d, .slice b3 U.kids.length c3], .int .i64 0, .int .i64 0, .bool false, undef, undef, .slice (some ⟨pb, po, none⟩) (m + 1) cp, .int .i64 ((m : Int) + 1), .int .i64 (m : Int), .agg #[.string T.nm, .int .u8 (T.k : Int), .string T.d, .slice a T.kids.length cap], .slice (some ⟨pb, po, none⟩) (m + 1) cp, undef, undef, undef, undef, undef, undef, undef, undef, undef, undef, undef], defers := [] } W4.drew
      refine wpAnyH_take (i := 2) (v := .int .i64 (m : Int)) rfl (by kernel_rfl) (by kernel_rfl) (by kernel_rfl) (fun _ _ _ h => h) (Or.inl ⟨by rfl, ?_⟩) HS0 ?_
      · intro w9 hw9; obtain ⟨y0, y1, y2, y3, y4, y5⟩ := hw9; go_simp
      change wpAnyH Tryz.prog .any _ _ _ _ _ { tmps := #[.agg #[.string T.nm, .int .u8 (T.k : Int), .string T.d, .slice a T.kids.length cap], .slice (some ⟨pb, po, none⟩) (m + 1) cp, .pointer (some ⟨w.heap.size, 0, none⟩), undef, .pointer (some ⟨w.heap.size + 1, 0, none⟩), .int .i64 0, .pointer (some ⟨w1.heap.size, 0, none⟩), .int .i64 0, .pointer (some ⟨w3.heap.size, 0, none⟩), .int .i64 0, .int .i64 (m : Int), .tuple #[.agg #[.string D.nm, .int .u8 (D.k : Int), .string D.d, .slice b D.kids.length c], .int .i64 0], .agg #[.string T.nm, .int .u8 (T.k : Int), .string T.d, .slice a T.kids.length cap], .slice (some ⟨pb, po, none⟩) (m + 1) cp, .tuple #[.agg #[.string D.nm, .int .u8 (D.k : Int), .string D.d, .slice b D.kids.length c], .int .i64 0], .agg #[.string D.nm, .int .u8 (D.k : Int), .string D.d, .slice b D.kids.length c], .int .i64 0, .int .i64 0, .bool false, undef, undef, .tuple #[.agg #[.string U.nm, .int .u8 (U.k : Int), .string U.d, .slice b3 U.kids.length c3], .int .i64 0], .agg #[.string T.nm, .int .u8 (T.k : Int), .string T.d, .slice a T.kids.length cap], .slice (some ⟨pb, po, none⟩) (m + 1) cp, .tuple #[.agg #[.string U.nm, .int .u8 (U.k : Int), .string U.d, .slice b3 U.kids.length c3], .int .i64 0], .agg #[.string U.nm, .int .u8 (U.k : Int), .string U.d, .slice b3 U.kids.length c3], .int .i64 0, .int .i64 0, .bool false, undef, undef, .slice (some ⟨pb, po, none⟩) (m + 1) cp, .int .i64 ((m : Int) + 1), .int .i64 (m : Int), .agg #[.string T.nm, .int .u8 (T.k : Int), .string T.d, .slice a T.kids.length cap], .slice (some ⟨pb, po, none⟩) (m + 1) cp, .int .i64 (m : Int), undef, undef, undef, undef, undef, undef, undef, undef, undef, undef], defers := [] } W4.drew
      refine wpAnyH_take (i := 3) (v := .slice (some ⟨pb, po, none⟩) m cp) rfl (by kernel_rfl) (by kernel_rfl) (by kernel_rfl) (fun _ _ _ h => h) (Or.inl ⟨by rfl, ?_⟩) HS0 ?_
      · intro w9 hw9; obtain ⟨y0, y1, y2, y3, y4, y5⟩ := hw9; go_simp
      change wpAnyH Tryz.prog .any _ _ _ _ _ { tmps := #[.agg #[.string T.nm, .int .u8 (T.k : Int), .string T.d, .slice a T.kids.length cap], .slice (some ⟨pb, po, none⟩) (m + 1) cp, .pointer (some ⟨w.heap.size, 0, none⟩), undef, .pointer (some ⟨w.heap.size + 1, 0, none⟩), .int .i64 0, .pointer (some ⟨w1.heap.size, 0, none⟩), .int .i64 0, .pointer (some ⟨w3.heap.size, 0, none⟩), .int .i64 0, .int .i64 (m : Int), .tuple #[.agg #[.string D.nm, .int .u8 (D.k : Int), .string D.d, .slice b D.kids.length c], .int .i64 0], .agg #[.string T.nm, .int .u8 (T.k : Int), .string T.d, .slice a T.kids.length cap], .slice (some ⟨pb, po, none⟩) (m + 1) cp, .tuple #[.agg #[.string D.nm, .int .u8 (D.k : Int), .string D.d, .slice b D.kids.length c], .int .i64 0], .agg #[.string D.nm, .int .u8 (D.k : Int), .string D.d, .slice b D.kids.length c], .int .i64 0, .int .i64 0, .bool false, undef, undef, .tuple #[.agg #[.string U.nm, .int .u8 (U.k : Int), .string U.d, .slice b3 U.kids.length c3], .int .i64 0], .agg #[.string T.nm, .int .u8 (T.k : Int), .string T.d, .slice a T.kids.length cap], .slice (some ⟨pb, po, none⟩) (m + 1) cp, .tuple #[.agg #[.string U.nm, .int .u8 (U.k : Int), .string U.d, .slice b3 U.kids.length c3], .int .i64 0], .agg #[.string U.nm, .int .u8 (U.k : Int), .string U.d, .slice b3 U.kids.length c3], .int .i64 0, .int .i64 0, .bool false, undef, undef, .slice (some ⟨pb, po, none⟩) (m + 1) cp, .int .i64 ((m : Int) + 1), .int .i64 (m : Int), .agg #[.string T.nm, .int .u8 (T.k : Int), .string T.d, .slice a T.kids.length cap], .slice (some ⟨pb, po, none⟩) (m + 1) cp, .int .i64 (m : Int), .slice (some ⟨pb, po, none⟩) m cp, undef, undef, undef, undef, undef, undef, undef, undef, undef], defers := [] } W4.drew
      refine wpAnyH_take (i := 4) (v := .pointer (some ⟨w1.heap.size, 3, none⟩)) rfl (by kernel_rfl) (by kernel_rfl) (by kernel_rfl) (fun _ _ _ h => h) (Or.inl ⟨by rfl, ?_⟩) HS0 ?_
      · intro w9 hw9; obtain ⟨y0, y1, y2, y3, y4, y5⟩ := hw9; go_simp
      change wpAnyH Tryz.prog .any _ _ _ _ _ { tmps := #[.agg #[.string T.nm, .int .u8 (T.k : Int), .string T.d, .slice a T.kids.length cap], .slice (some ⟨pb, po, none⟩) (m + 1) cp, .pointer (some ⟨w.heap.size, 0, none⟩), undef, .pointer (some ⟨w.heap.size + 1, 0, none⟩), .int .i64 0, .pointer (some ⟨w1.heap.size, 0, none⟩), .int .i64 0, .pointer (some ⟨w3.heap.size, 0, none⟩), .int .i64 0, .int .i64 (m : Int), .tuple #[.agg #[.string D.nm, .int .u8 (D.k : Int), .string D.d, .slice b D.kids.length c], .int .i64 0], .agg #[.string T.nm, .int .u8 (T.k : Int), .string T.d, .slice a T.kids.length cap], .slice (some ⟨pb, po, none⟩) (m + 1) cp, .tuple #[.agg #[.string D.nm, .int .u8 (D.k : Int), .string D.d, .slice b D.kids.length c], .int .i64 0], .agg #[.string D.nm, .int .u8 (D.k : Int), .string D.d, .slice b D.kids.length c], .int .i64 0, .int .i64 0, .bool false, undef, undef, .tuple #[.agg #[.string U.nm, .int .u8 (U.k : Int), .string U.d, .slice b3 U.kids.length c3], .int .i64 0], .agg #[.string T.nm, .int .u8 (T.k : Int), .string T.d, .slice a T.kids.length cap], .slice (some ⟨pb, po, none⟩) (m + 1) cp, .tuple #[.agg #[.string U.nm, .int .u8 (U.k : Int), .string U.d, .slice b3 U.kids.length c3], .int .i64 0], .agg #[.string U.nm, .int .u8 (U.k : Int), .string U.d, .slice b3 U.kids.length c3], .int .i64 0, .int .i64 0, .bool false, undef, undef, .slice (some ⟨pb, po, none⟩) (m + 1) cp, .int .i64 ((m : Int) + 1), .int .i64 (m : Int), .agg #[.string T.nm, .int .u8 (T.k : Int), .string T.d, .slice a T.kids.length cap], .slice (some ⟨pb, po, none⟩) (m + 1) cp, .int .i64 (m : Int), .slice (some ⟨pb, po, none⟩) m cp, .pointer (some ⟨w1.heap.size, 3, none⟩), undef, undef, undef, undef, undef, undef, undef, undef], defers := [] } W4.drew
      refine wpAnyH_take (i := 5) (v := .slice b D.kids.length c) rfl (by kernel_rfl) (by kernel_rfl) (by kernel_rfl) (fun _ _ _ h => h) (Or.inl ⟨by rfl, ?_⟩) HS0 ?_
      · intro w9 hw9; obtain ⟨y0, y1, y2, y3, y4, y5⟩ := hw9; go_simp
      change wpAnyH Tryz.prog .any _ _ _ _ _ { tmps := #[.agg #[.string T.nm, .int .u8 (T.k : Int), .string T.d, .slice a T.kids.length cap], .slice (some ⟨pb, po, none⟩) (m + 1) cp, .pointer (some ⟨w.heap.size, 0, none⟩), undef, .pointer (some ⟨w.heap.size + 1, 0, none⟩), .int .i64 0, .pointer (some ⟨w1.heap.size, 0, none⟩), .int .i64 0, .pointer (some ⟨w3.heap.size, 0, none⟩), .int .i64 0, .int .i64 (m : Int), .tuple #[.agg #[.string D.nm, .int .u8 (D.k : Int), .string D.d, .slice b D.kids.length c], .int .i64 0], .agg #[.string T.nm, .int .u8 (T.k : Int), .string T.d, .slice a T.kids.length cap], .slice (some ⟨pb, po, none⟩) (m + 1) cp, .tuple #[.agg #[.string D.nm, .int .u8 (D.k : Int), .string D.d, .slice b D.kids.length c], .int .i64 0], .agg #[.string D.nm, .int .u8 (D.k : Int), .string D.d, .slice b D.kids.length c], .int .i64 0, .int .i64 0, .bool false, undef, undef, .tuple #[.agg #[.string U.nm, .int .u8 (U.k : Int), .string U.d, .slice b3 U.kids.length c3], .int .i64 0], .agg #[.string T.nm, .int .u8 (T.k : Int), .string T.d, .slice a T.kids.length cap], .slice (some ⟨pb, po, none⟩) (m + 1) cp, .tuple #[.agg #[.string U.nm, .int .u8 (U.k : Int), .string U.d, .slice b3 U.kids.length c3], .int .i64 0], .agg #[.string U.nm, .int .u8 (U.k : Int), .string U.d, .slice b3 U.kids.length c3], .int .i64 0, .int .i64 0, .bool false, undef, undef, .slice (some ⟨pb, po, none⟩) (m + 1) cp, .int .i64 ((m : Int) + 1), .int .i64 (m : Int), .agg #[.string T.nm, .int .u8 (T.k : Int), .string T.d, .slice a T.kids.length cap], .slice (some ⟨pb, po, none⟩) (m + 1) cp, .int .i64 (m : Int), .slice (some ⟨pb, po, none⟩) m cp, .pointer (some ⟨w1.heap.size, 3, none⟩), .slice b D.kids.length c, undef, undef, undef, undef, undef, undef, undef], defers := [] } W4.drew
      refine wpAnyH_take (i := 6) (v := .slice (some ⟨pb, po, none⟩) (m + 1) cp) rfl (by kernel_rfl) (by kernel_rfl) (by kernel_rfl) (fun _ _ _ h => h) (Or.inl ⟨by rfl, ?_⟩) HS0 ?_
      · intro w9 hw9; obtain ⟨y0, y1, y2, y3, y4, y5⟩ := hw9; go_simp
      change wpAnyH Tryz.prog .any _ _ _ _ _ { tmps := #[.agg #[.string T.nm, .int .u8 (T.k : Int), .string T.d, .slice a T.kids.length cap], .slice (some ⟨pb, po, none⟩) (m + 1) cp, .pointer (some ⟨w.heap.size, 0, none⟩), undef, .pointer (some ⟨w.heap.size + 1, 0, none⟩), .int .i64 0, .pointer (some ⟨w1.heap.size, 0, none⟩), .int .i64 0, .pointer (some ⟨w3.heap.size, 0, none⟩), .int .i64 0, .int .i64 (m : Int), .tuple #[.agg #[.string D.nm, .int .u8 (D.k : Int), .string D.d, .slice b D.kids.length c], .int .i64 0], .agg #[.string T.nm, .int .u8 (T.k : Int), .string T.d, .slice a T.kids.length cap], .slice (some ⟨pb, po, none⟩) (m + 1) cp, .tuple #[.agg #[.string D.nm, .int .u8 (D.k : Int), .string D.d, .slice b D.kids.length c], .int .i64 0], .agg #[.string D.nm, .int .u8 (D.k : Int), .string D.d, .slice b D.kids.length c], .int .i64 0, .int .i64 0, .bool false, undef, undef, .tuple #[.agg #[.string U.nm, .int .u8 (U.k : Int), .string U.d, .slice b3 U.kids.length c3], .int .i64 0], .agg #[.string T.nm, .int .u8 (T.k : Int), .string T.d, .slice a T.kids.length cap], .slice (some ⟨pb, po, none⟩) (m + 1) cp, .tuple #[.agg #[.string U.nm, .int .u8 (U.k : Int), .string U.d, .slice b3 U.kids.length c3], .int .i64 0], .agg #[.string U.nm, .int .u8 (U.k : Int), .string U.d, .slice b3 U.kids.length c3], .int .i64 0, .int .i64 0, .bool false, undef, undef, .slice (some ⟨pb, po, none⟩) (m + 1) cp, .int .i64 ((m : Int) + 1), .int .i64 (m : Int), .agg #[.string T.nm, .int .u8 (T.k : Int), .string T.d, .slice a T.kids.length cap], .slice (some ⟨pb, po, none⟩) (m + 1) cp, .int .i64 (m : Int), .slice (some ⟨pb, po, none⟩) m cp, .pointer (some ⟨w1.heap.size, 3, none⟩), .slice b D.kids.length c, .slice (some ⟨pb, po, none⟩) (m + 1) cp, undef, undef, undef, undef, undef, undef], defers := [] } W4.drew
      refine wpAnyH_take (i := 7) (v := .int .i64 (m : Int)) rfl (by kernel_rfl) (by kernel_rfl) (by kernel_rfl) (fun _ _ _ h => h) (Or.inl ⟨by rfl, ?_⟩) HS0 ?_
      · intro w9 hw9; obtain ⟨y0, y1, y2, y3, y4, y5⟩ := hw9; go_simp
      change wpAnyH Tryz.prog .any _ _ _ _ _ { tmps := #[.agg #[.string T.nm, .int .u8 (T.k : Int), .string T.d, .slice a T.kids.length cap], .slice (some ⟨pb, po, none⟩) (m + 1) cp, .pointer (some ⟨w.heap.size, 0, none⟩), undef, .pointer (some ⟨w.heap.size + 1, 0, none⟩), .int .i64 0, .pointer (some ⟨w1.heap.size, 0, none⟩), .int .i64 0, .pointer (some ⟨w3.heap.size, 0, none⟩), .int .i64 0, .int .i64 (m : Int), .tuple #[.agg #[.string D.nm, .int .u8 (D.k : Int), .string D.d, .slice b D.kids.length c], .int .i64 0], .agg #[.string T.nm, .int .u8 (T.k : Int), .string T.d, .slice a T.kids.length cap], .slice (some ⟨pb, po, none⟩) (m + 1) cp, .tuple #[.agg #[.string D.nm, .int .u8 (D.k : Int), .string D.d, .slice b D.kids.length c], .int .i64 0], .agg #[.string D.nm, .int .u8 (D.k : Int), .string D.d, .slice b D.kids.length c], .int .i64 0, .int .i64 0, .bool false, undef, undef, .tuple #[.agg #[.string U.nm, .int .u8 (U.k : Int), .string U.d, .slice b3 U.kids.length c3], .int .i64 0], .agg #[.string T.nm, .int .u8 (T.k : Int), .string T.d, .slice a T.kids.length cap], .slice (some ⟨pb, po, none⟩) (m + 1) cp, .tuple #[.agg #[.string U.nm, .int .u8 (U.k : Int), .string U.d, .slice b3 U.kids.length c3], .int .i64 0], .agg #[.string U.nm, .int .u8 (U.k : Int), .string U.d, .slice b3 U.kids.length c3], .int .i64 0, .int .i64 0, .bool false, undef, undef, .slice (some ⟨pb, po, none⟩) (m + 1) cp, .int .i64 ((m : Int) + 1), .int .i64 (m : Int), .agg #[.string T.nm, .int .u8 (T.k : Int), .string T.d, .slice a T.kids.length cap], .slice (some ⟨pb, po, none⟩) (m + 1) cp, .int .i64 (m : Int), .slice (some ⟨pb, po, none⟩) m cp, .pointer (some ⟨w1.heap.size, 3, none⟩), .slice b D.kids.length c, .slice (some ⟨pb, po, none⟩) (m + 1) cp, .int .i64 (m : Int), undef, undef, undef, undef, undef], defers := [] } W4.drew
      refine wpAnyH_take (i := 8) (v := .pointer (some ⟨pb, po + m, none⟩)) rfl (by kernel_rfl) (by kernel_rfl) (by kernel_rfl) (fun _ _ _ h => h) (Or.inl ⟨by rfl, ?_⟩) HS0 ?_
      · intro w9 hw9; obtain ⟨y0, y1, y2, y3, y4, y5⟩ := hw9; go_simp; intro hx; omega
      change wpAnyH Tryz.prog .any _ _ _ _ _ { tmps := #[.agg #[.string T.nm, .int .u8 (T.k : Int), .string T.d, .slice a T.kids.length cap], .slice (some ⟨pb, po, none⟩) (m + 1) cp, .pointer (some ⟨w.heap.size, 0, none⟩), undef, .pointer (some ⟨w.heap.size + 1, 0, none⟩), .int .i64 0, .pointer (some ⟨w1.heap.size, 0, none⟩), .int .i64 0, .pointer (some ⟨w3.heap.size, 0, none⟩), .int .i64 0, .int .i64 (m : Int), .tuple #[.agg #[.string D.nm, .int .u8 (D.k : Int), .string D.d, .slice b D.kids.length c], .int .i64 0], .agg #[.string T.nm, .int .u8 (T.k : Int), .string T.d, .slice a T.kids.length cap], .slice (some ⟨pb, po, none⟩) (m + 1) cp, .tuple #[.agg #[.string D.nm, .int .u8 (D.k : Int), .string D.d, .slice b D.kids.length c], .int .i64 0], .agg #[.string D.nm, .int .u8 (D.k : Int), .string D.d, .slice b D.kids.length c], .int .i64 0, .int .i64 0, .bool false, undef, undef, .tuple #[.agg #[.string U.nm, .int .u8 (U.k : Int), .string U.d, .slice b3 U.kids.length c3], .int .i64 0], .agg #[.string T.nm, .int .u8 (T.k : Int), .string T.d, .slice a T.kids.length cap], .slice (some ⟨pb, po, none⟩) (m + 1) cp, .tuple #[.agg #[.string U.nm, .int .u8 (U.k : Int), .string U.d, .slice b3 U.kids.length c3], .int .i64 0], .agg #[.string U.nm, .int .u8 (U.k : Int), .string U.d, .slice b3 U.kids.length c3], .int .i64 0, .int .i64 0, .bool false, undef, undef, .slice (some ⟨pb, po, none⟩) (m + 1) cp, .int .i64 ((m : Int) + 1), .int .i64 (m : Int), .agg #[.string T.nm, .int .u8 (T.k : Int), .string T.d, .slice a T.kids.length cap], .slice (some ⟨pb, po, none⟩) (m + 1) cp, .int .i64 (m : Int), .slice (some ⟨pb, po, none⟩) m cp, .pointer (some ⟨w1.heap.size, 3, none⟩), .slice b D.kids.length c, .slice (some ⟨pb, po, none⟩) (m + 1) cp, .int .i64 (m : Int), .pointer (some ⟨pb, po + m, none⟩), undef, undef, undef, undef], defers := [] } W4.drew
      refine wpAnyH_take (i := 9) (v := .string (Ft.lastN p)) rfl (by kernel_rfl) (by kernel_rfl) (by kernel_rfl) (fun _ _ _ h => h) (Or.inl ⟨by rfl, ?_⟩) HS0 ?_
      · intro w9 hw9; obtain ⟨y0, y1, y2, y3, y4, y5⟩ := hw9; go_simp
      change wpAnyH Tryz.prog .any _ _ _ _ _ { tmps := #[.agg #[.string T.nm, .int .u8 (T.k : Int), .string T.d, .slice a T.kids.length cap], .slice (some ⟨pb, po, none⟩) (m + 1) cp, .pointer (some ⟨w.heap.size, 0, none⟩), undef, .pointer (some ⟨w.heap.size + 1, 0, none⟩), .int .i64 0, .pointer (some ⟨w1.heap.size, 0, none⟩), .int .i64 0, .pointer (some ⟨w3.heap.size, 0, none⟩), .int .i64 0, .int .i64 (m : Int), .tuple #[.agg #[.string D.nm, .int .u8 (D.k : Int), .string D.d, .slice b D.kids.length c], .int .i64 0], .agg #[.string T.nm, .int .u8 (T.k : Int), .string T.d, .slice a T.kids.length cap], .slice (some ⟨pb, po, none⟩) (m + 1) cp, .tuple #[.agg #[.string D.nm, .int .u8 (D.k : Int), .string D.d, .slice b D.kids.length c], .int .i64 0], .agg #[.string D.nm, .int .u8 (D.k : Int), .string D.d, .slice b D.kids.length c], .int .i64 0, .int .i64 0, .bool false, undef, undef, .tuple #[.agg #[.string U.nm, .int .u8 (U.k : Int), .string U.d, .slice b3 U.kids.length c3], .int .i64 0], .agg #[.string T.nm, .int .u8 (T.k : Int), .string T.d, .slice a T.kids.length cap], .slice (some ⟨pb, po, none⟩) (m + 1) cp, .tuple #[.agg #[.string U.nm, .int .u8 (U.k : Int), .string U.d, .slice b3 U.kids.length c3], .int .i64 0], .agg #[.string U.nm, .int .u8 (U.k : Int), .string U.d, .slice b3 U.kids.length c3], .int .i64 0, .int .i64 0, .bool false, undef, undef, .slice (some ⟨pb, po, none⟩) (m + 1) cp, .int .i64 ((m : Int) + 1), .int .i64 (m : Int), .agg #[.string T.nm, .int .u8 (T.k : Int), .string T.d, .slice a T.kids.length cap], .slice (some ⟨pb, po, none⟩) (m + 1) cp, .int .i64 (m : Int), .slice (some ⟨pb, po, none⟩) m cp, .pointer (some ⟨w1.heap.size, 3, none⟩), .slice b D.kids.length c, .slice (some ⟨pb, po, none⟩) (m + 1) cp, .int .i64 (m : Int), .pointer (some ⟨pb, po + m, none⟩), .string (Ft.lastN p), undef, undef, undef], defers := [] } W4.drew
      refine wpAnyH_ready (rs := [10]) (by kernel_rfl) (by simp) ?_
      refine AllReadyH.cons rfl (fun K hK => ?_) AllReadyH.nil
      go_simp
      refine Calls.mono (HSw.out _ hbD) ?_
      rintro e v1 ⟨a4, c4, rfl, fl1, rl1⟩
      have hb1 : Below W4.heap.size W4 v1 := hbD.trans (rl1.mono hbD.size)
      refine hK.out _ _ (HS8.out _ hb1) (fun _ => ?_)
      clear hK K
      change wpAnyH Tryz.prog .any _ _ _ _ _ { tmps := #[.agg #[.string T.nm, .int .u8 (T.k : Int), .string T.d, .slice a T.kids.length cap], .slice (some ⟨pb, po, none⟩) (m + 1) cp, .pointer (some ⟨w.heap.size, 0, none⟩), undef, .pointer (some ⟨w.heap.size + 1, 0, none⟩), .int .i64 0, .pointer (some ⟨w1.heap.size, 0, none⟩), .int .i64 0, .pointer (some ⟨w3.heap.size, 0, none⟩), .int .i64 0, .int .i64 (m : Int), .tuple #[.agg #[.string D.nm, .int .u8 (D.k : Int), .string D.d, .slice b D.kids.length c], .int .i64 0], .agg #[.string T.nm, .int .u8 (T.k : Int), .string T.d, .slice a T.kids.length cap], .slice (some ⟨pb, po, none⟩) (m + 1) cp, .tuple #[.agg #[.string D.nm, .int .u8 (D.k : Int), .string D.d, .slice b D.kids.length c], .int .i64 0], .agg #[.string D.nm, .int .u8 (D.k : Int), .string D.d, .slice b D.kids.length c], .int .i64 0, .int .i64 0, .bool false, undef, undef, .tuple #[.agg #[.string U.nm, .int .u8 (U.k : Int), .string U.d, .slice b3 U.kids.length c3], .int .i64 0], .agg #[.string T.nm, .int .u8 (T.k : Int), .string T.d, .slice a T.kids.length cap], .slice (some ⟨pb, po, none⟩) (m + 1) cp, .tuple #[.agg #[.string U.nm, .int .u8 (U.k : Int), .string U.d, .slice b3 U.kids.length c3], .int .i64 0], .agg #[.string U.nm, .int .u8 (U.k : Int), .string U.d, .slice b3 U.kids.length c3], .int .i64 0, .int .i64 0, .bool false, undef, undef, .slice (some ⟨pb, po, none⟩) (m + 1) cp, .int .i64 ((m : Int) + 1), .int .i64 (m : Int), .agg #[.string T.nm, .int .u8 (T.k : Int), .string T.d, .slice a T.kids.length cap], .slice (some ⟨pb, po, none⟩) (m + 1) cp, .int .i64 (m : Int), .slice (some ⟨pb, po, none⟩) m cp, .pointer (some ⟨w1.heap.size, 3, none⟩), .slice b D.kids.length c, .slice (some ⟨pb, po, none⟩) (m + 1) cp, .int .i64 (m : Int), .pointer (some ⟨pb, po + m, none⟩), .string (Ft.lastN p), .slice a4 IN.length c4, undef, undef], defers := [] } v1
      refine wpAnyH_ready (rs := [11]) (by kernel_rfl) (by simp) ?_
      refine AllReadyH.cons rfl (fun K hK => ?_) AllReadyH.nil
      go_simp
      refine Calls.mono (HWt.out _ a4 c4 hb1 fl1) ?_
      rintro e v2 ⟨a5, c5, rfl, fo2, rl2⟩
      have hb2 : Below W4.heap.size W4 v2 := hb1.trans (rl2.mono hb1.size)
      refine hK.out _ _ (HS8.out _ hb2) (fun _ => ?_)
      clear hK K
      change wpAnyH Tryz.prog .any _ _ _ _ _ { tmps := #[.agg #[.string T.nm, .int .u8 (T.k : Int), .string T.d, .slice a T.kids.length cap], .slice (some ⟨pb, po, none⟩) (m + 1) cp, .pointer (some ⟨w.heap.size, 0, none⟩), undef, .pointer (some ⟨w.heap.size + 1, 0, none⟩), .int .i64 0, .pointer (some ⟨w1.heap.size, 0, none⟩), .int .i64 0, .pointer (some ⟨w3.heap.size, 0, none⟩), .int .i64 0, .int .i64 (m : Int), .tuple #[.agg #[.string D.nm, .int .u8 (D.k : Int), .string D.d, .slice b D.kids.length c], .int .i64 0], .agg #[.string T.nm, .int .u8 (T.k : Int), .string T.d, .slice a T.kids.length cap], .slice (some ⟨pb, po, none⟩) (m + 1) cp, .tuple #[.agg #[.string D.nm, .int .u8 (D.k : Int), .string D.d, .slice b D.kids.length c], .int .i64 0], .agg #[.string D.nm, .int .u8 (D.k : Int), .string D.d, .slice b D.kids.length c], .int .i64 0, .int .i64 0, .bool false, undef, undef, .tuple #[.agg #[.string U.nm, .int .u8 (U.k : Int), .string U.d, .slice b3 U.kids.length c3], .int .i64 0], .agg #[.string T.nm, .int .u8 (T.k : Int), .string T.d, .slice a T.kids.length cap], .slice (some ⟨pb, po, none⟩) (m + 1) cp, .tuple #[.agg #[.string U.nm, .int .u8 (U.k : Int), .string U.d, .slice b3 U.kids.length c3], .int .i64 0], .agg #[.string U.nm, .int .u8 (U.k : Int), .string U.d, .slice b3 U.kids.length c3], .int .i64 0, .int .i64 0, .bool false, undef, undef, .slice (some ⟨pb, po, none⟩) (m + 1) cp, .int .i64 ((m : Int) + 1), .int .i64 (m : Int), .agg #[.string T.nm, .int .u8 (T.k : Int), .string T.d, .slice a T.kids.length cap], .slice (some ⟨pb, po, none⟩) (m + 1) cp, .int .i64 (m : Int), .slice (some ⟨pb, po, none⟩) m cp, .pointer (some ⟨w1.heap.size, 3, none⟩), .slice b D.kids.length c, .slice (some ⟨pb, po, none⟩) (m + 1) cp, .int .i64 (m : Int), .pointer (some ⟨pb, po + m, none⟩), .string (Ft.lastN p), .slice a4 IN.length c4, .agg #[.string O.nm, .int .u8 (O.k : Int), .string O.d, .slice a5 O.kids.length c5], undef], defers := [] } v2
      refine wpAnyH_ready (rs := [12]) (by kernel_rfl) (by simp) ?_
      refine AllReadyH.cons rfl (fun K hK => ?_) AllReadyH.nil
      go_simp
      refine Calls.mono (HCp.out _ a5 c5 hb2 fo2) ?_
      rintro e v3 ⟨a6, c6, rfl, fo3, rl3⟩
      have hb3 : Below W4.heap.size W4 v3 := hb2.trans (rl3.mono hb2.size)
      have HS3 := HS8.out _ hb3
      refine hK.out _ _ HS3 (fun _ => ?_)
      clear hK K
      change wpAnyH Tryz.prog .any _ _ _ _ _ { tmps := #[.agg #[.string T.nm, .int .u8 (T.k : Int), .string T.d, .slice a T.kids.length cap], .slice (some ⟨pb, po, none⟩) (m + 1) cp, .pointer (some ⟨w.heap.size, 0, none⟩), undef, .pointer (some ⟨w.heap.size + 1, 0, none⟩), .int .i64 0, .pointer (some ⟨w1.heap.size, 0, none⟩), .int .i64 0, .pointer (some ⟨w3.heap.size, 0, none⟩), .int .i64 0, .int .i64 (m : Int), .tuple #[.agg #[.string D.nm, .int .u8 (D.k : Int), .string D.d, .slice b D.kids.length c], .int .i64 0], .agg #[.string T.nm, .int .u8 (T.k : Int), .string T.d, .slice a T.kids.length cap], .slice (some ⟨pb, po, none⟩) (m + 1) cp, .tuple #[.agg #[.string D.nm, .int .u8 (D.k : Int), .string D.d, .slice b D.kids.length c], .int .i64 0], .agg #[.string D.nm, .int .u8 (D.k : Int), .string D.d, .slice b D.kids.length c], .int .i64 0, .int .i64 0, .bool false, undef, undef, .tuple #[.agg #[.string U.nm, .int .u8 (U.k : Int), .string U.d, .slice b3 U.kids.length c3], .int .i64 0], .agg #[.string T.nm, .int .u8 (T.k : Int), .string T.d, .slice a T.kids.length cap], .slice (some ⟨pb, po, none⟩) (m + 1) cp, .tuple #[.agg #[.string U.nm, .int .u8 (U.k : Int), .string U.d, .slice b3 U.kids.length c3], .int .i64 0], .agg #[.string U.nm, .int .u8 (U.k : Int), .string U.d, .slice b3 U.kids.length c3], .int .i64 0, .int .i64 0, .bool false, undef, undef, .slice (some ⟨pb, po, none⟩) (m + 1) cp, .int .i64 ((m : Int) + 1), .int .i64 (m : Int), .agg #[.string T.nm, .int .u8 (T.k : Int), .string T.d, .slice a T.kids.length cap], .slice (some ⟨pb, po, none⟩) (m + 1) cp, .int .i64 (m : Int), .slice (some ⟨pb, po, none⟩) m cp, .pointer (some ⟨w1.heap.size, 3, none⟩), .slice b D.kids.length c, .slice (some ⟨pb, po, none⟩) (m + 1) cp, .int .i64 (m : Int), .pointer (some ⟨pb, po + m, none⟩), .string (Ft.lastN p), .slice a4 IN.length c4, .agg #[.string O.nm, .int .u8 (O.k : Int), .string O.d, .slice a5 O.kids.length c5], .agg #[.string O.nm, .int .u8 (O.k : Int), .string O.d, .slice a6 O.kids.length c6]], defers := [] } v3
      refine wpAnyH_ready (rs := [13]) (by kernel_rfl) (by simp) ?_
      refine AllReadyH.cons rfl (fun K hK => ?_) AllReadyH.nil
      have HV : Hid (Ft.FnP (· < w.heap.size) w T a cap v3 ∧ Ft.Fdx v3 W4.heap.size v3.heap.size O a6 c6) := ⟨HP4.out.1.under (fun _ h => h) hb3, fo3.out.widen hb2.size (Nat.le_refl _)⟩
      have z0 : v3.cell? ⟨w.heap.size + 1, 0, none⟩ = some (.string ⟨#[]⟩) := HV.out.1.2.2.1.four.c0
      have z1 : v3.cell? ⟨w.heap.size + 1, 1, none⟩ = some (.int .u8 0) := HV.out.1.2.2.1.four.c1
      have z2 : v3.cell? ⟨w.heap.size + 1, 2, none⟩ = some (.string ⟨#[]⟩) := HV.out.1.2.2.1.four.c2
      have z3 : v3.cell? ⟨w.heap.size + 1, 3, none⟩ = some (.slice none 0 0) := HV.out.1.2.2.1.four.c3
      have zf := HV.out.1.2.2.1.frozen
      go_simp
      have HSp := HSP.out v3 O a6 c6 hb3
      refine hK.out _ _ HSp (fun _ => ?_)
      clear hK K
      change wpAnyH Tryz.prog .any _ _ _ _ _ { tmps := #[.agg #[.string T.nm, .int .u8 (T.k : Int), .string T.d, .slice a T.kids.length cap], .slice (some ⟨pb, po, none⟩) (m + 1) cp, .pointer (some ⟨w.heap.size, 0, none⟩), undef, .pointer (some ⟨w.heap.size + 1, 0, none⟩), .int .i64 0, .pointer (some ⟨w1.heap.size, 0, none⟩), .int .i64 0, .pointer (some ⟨w3.heap.size, 0, none⟩), .int .i64 0, .int .i64 (m : Int), .tuple #[.agg #[.string D.nm, .int .u8 (D.k : Int), .string D.d, .slice b D.kids.length c], .int .i64 0], .agg #[.string T.nm, .int .u8 (T.k : Int), .string T.d, .slice a T.kids.length cap], .slice (some ⟨pb, po, none⟩) (m + 1) cp, .tuple #[.agg #[.string D.nm, .int .u8 (D.k : Int), .string D.d, .slice b D.kids.length c], .int .i64 0], .agg #[.string D.nm, .int .u8 (D.k : Int), .string D.d, .slice b D.kids.length c], .int .i64 0, .int .i64 0, .bool false, undef, undef, .tuple #[.agg #[.string U.nm, .int .u8 (U.k : Int), .string U.d, .slice b3 U.kids.length c3], .int .i64 0], .agg #[.string T.nm, .int .u8 (T.k : Int), .string T.d, .slice a T.kids.length cap], .slice (some ⟨pb, po, none⟩) (m + 1) cp, .tuple #[.agg #[.string U.nm, .int .u8 (U.k : Int), .string U.d, .slice b3 U.kids.length c3], .int .i64 0], .agg #[.string U.nm, .int .u8 (U.k : Int), .string U.d, .slice b3 U.kids.length c3], .int .i64 0, .int .i64 0, .bool false, undef, undef, .slice (some ⟨pb, po, none⟩) (m + 1) cp, .int .i64 ((m : Int) + 1), .int .i64 (m : Int), .agg #[.string T.nm, .int .u8 (T.k : Int), .string T.d, .slice a T.kids.length cap], .slice (some ⟨pb, po, none⟩) (m + 1) cp, .int .i64 (m : Int), .slice (some ⟨pb, po, none⟩) m cp, .pointer (some ⟨w1.heap.size, 3, none⟩), .slice b D.kids.length c, .slice (some ⟨pb, po, none⟩) (m + 1) cp, .int .i64 (m : Int), .pointer (some ⟨pb, po + m, none⟩), .string (Ft.lastN p), .slice a4 IN.length c4, .agg #[.string O.nm, .int .u8 (O.k : Int), .string O.d, .slice a5 O.kids.length c5], .agg #[.string O.nm, .int .u8 (O.k : Int), .string O.d, .slice a6 O.kids.length c6]], defers := [] } (Ft.putF v3 (w.heap.size + 1) O a6 c6)
      refine wpAnyH_ready (rs := [14]) (by kernel_rfl) (by simp) ?_
      refine AllReadyH.cons rfl (fun K hK => ?_) AllReadyH.nil
      go_simp
      refine hK.out _ _ HSp (fun _ => ?_)
      refine wpAnyH_done (by kernel_rfl) ?_ _
      clear hK K z0 z1 z2 z3 zf HSp HS3 HS0
      go_wp2_with fail
      have hzl : w.heap.size + 1 < W4.heap.size := HP4.out.1.2.2.1.lt
      have y0 := HV.out.1.2.2.1.putF O a6 c6
      have y1 : Below w.heap.size w (Ft.putF v3 (w.heap.size + 1) O a6 c6) := Ft.putF_below HV.out.1.2.2.2 (by omega)
      refine bodyPost_ret (Ft.results_fil rfl _ _ (w.heap.size + 1) O a6 c6 rfl y0) rfl ?_
      rw [HE2.out]
      have hws := HP4.out.1.2.2.2.size
      exact ⟨O, a6, c6, 0, rfl, ⟨⟨rfl, rfl⟩, (HV.out.2.same (fun k hk _ => Ft.putF_other (by omega))).widen (by omega) (Ft.putF_below (Below.refl 0 v3) (Nat.zero_le _)).size, y1⟩⟩
    · have hc0 : code3 ≠ 0 := by simpa using hc
      obtain ⟨n, hn, hcn, _⟩ := Ft.fnd_inl HP4.out.2.2.2 hc0
      have HE : Hid (Ft.dropR T p = .inl n ∧ code3 = n) := ⟨by unfold Ft.dropR; rw [HO.out]; simp only; rw [hn], hcn⟩
      clear hn hcn
      go_wp2_with fail
      have y0 := HP4.out.1.2.2.1.putF Ft.zF none 0
      have y1 : Below w.heap.size w (Ft.putF W4 (w.heap.size + 1) Ft.zF none 0) := Ft.putF_below HP4.out.1.2.2.2 (by omega)
      refine bodyPost_ret (Ft.results_fil rfl _ _ (w.heap.size + 1) Ft.zF none 0 rfl y0) rfl ?_
      rw [HE.out.1]
      exact ⟨Ft.zF, none, 0, code3, rfl, ⟨⟨rfl, HE.out.2⟩, Ft.fdx_zero _ _ _ y1.size, y1⟩⟩
  · have hc0 : code ≠ 0 := by simpa using hc
    obtain ⟨n, hn, hcn, _⟩ := Ft.fnd_inl HD2.out.2.2 hc0
    have HE : Hid (Ft.dropR T p = .inl n ∧ code = n) := ⟨by unfold Ft.dropR; rw [hn], hcn⟩
    clear hn hcn
    go_wp2_with fail
    have y0 := HP2.out.2.2.1.putF Ft.zF none 0
    have y1 : Below w.heap.size w (Ft.putF w2 (w.heap.size + 1) Ft.zF none 0) := Ft.putF_below HP2.out.2.2.2 (by omega)
    refine bodyPost_ret (Ft.results_fil rfl _ _ (w.heap.size + 1) Ft.zF none 0 rfl y0) rfl ?_
    rw [HE.out.1]
    exact ⟨Ft.zF, none, 0, code, rfl, ⟨⟨rfl, HE.out.2⟩, Ft.fdx_zero _ _ _ y1.size, y1⟩⟩
theorem tdrop_any (T : Ft.FT) (p : List ByteArray) (a ap : Option Addr) (cap cp : Nat) (w : World) (hN : Ft.Fd w (· < w.heap.size) T a cap) (hz : Ft.szT T = true) (hP : Strs w ap cp p) :
    Calls Tryz.prog 17 #[Ft.fdV T a cap, .slice ap p.length cp] w (Ft.GetE w (Ft.dropR T p)) := (tdropx_any T p a ap cap cp w hN hz hP).mono fun _ _ h => h.e
end Go.Proofs.YtfbhofomcenabaaGreatDoor
