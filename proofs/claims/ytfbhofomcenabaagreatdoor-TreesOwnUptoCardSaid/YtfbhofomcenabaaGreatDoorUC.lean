/- A tree that is its owner's own: each file's row is a block of its own, apart from all the others. What trees.Copy answers is its asker's own. -/
import Derived.Test.YtfbhofomcenabaaGreatDoorTE
import Derived.Test.YtfbhofomcenabaaGreatDoorTH
import Derived.Test.YtfbhofomcenabaaGreatDoorTG
namespace Go.Proofs.YtfbhofomcenabaaGreatDoor
open Go Go.RowKit

namespace Ft
/-- The files of a tree lie at a, in blocks between lo and hi, each folder's row in a block of its own. -/
inductive Fdx (w : World) : Nat → Nat → FT → Option Addr → Nat → Prop
  | mk {lo hi : Nat} {T : FT} {a : Option Addr} {cap : Nat} (vs : Nat → Option Addr × Nat) (iv : Nat → Nat × Nat) (le : lo ≤ hi) (len : T.kids.length ≤ 1048576) (nil : a = none → cap = 0) (room : T.kids.length ≤ cap) (most : cap ≤ maxLen)
    (row : a ≠ none → ∃ b cur, a = some ⟨b, 0, none⟩ ∧ lo ≤ b ∧ b < hi ∧ w.heap[b]? = some (.cells cur 25 (0, 0)) ∧ cur.size = cap * 4 ∧ ∀ i, i < T.kids.length → b < (iv i).1 ∨ (iv i).2 ≤ b)
    (lies : ∀ i (h : i < T.kids.length), ∃ b, a = some ⟨b, 0, none⟩ ∧ Four w b (i * 4) (T.kids[i]) (vs i).1 (vs i).2)
    (ord : ∀ i j, i < j → j < T.kids.length → (iv i).2 ≤ (iv j).1)
    (inb : ∀ i, i < T.kids.length → lo ≤ (iv i).1 ∧ (iv i).2 ≤ hi)
    (sub : ∀ i (h : i < T.kids.length), Fdx w (iv i).1 (iv i).2 (T.kids[i]) (vs i).1 (vs i).2) : Fdx w lo hi T a cap
theorem Fdx.le {w : World} {lo hi : Nat} {T : FT} {a : Option Addr} {cap : Nat} (h : Fdx w lo hi T a cap) : lo ≤ hi := by
  cases h with | mk vs iv le => exact le
theorem Fdx.same {w w' : World} {lo hi : Nat} {T : FT} {a : Option Addr} {cap : Nat} (h : Fdx w lo hi T a cap) (hb : ∀ b, lo ≤ b → b < hi → w'.heap[b]? = w.heap[b]?) : Fdx w' lo hi T a cap := by
  induction h with
  | mk vs iv le len nil room most row lies ord inb sub ih =>
    refine .mk vs iv le len nil room most (fun hne => ?_) (fun i hi => ?_) ord inb (fun i hi => ih i hi (fun b h1 h2 => hb b (by have := inb i hi; omega) (by have := inb i hi; omega)))
    · obtain ⟨b, cur, e, h1, h2, h3, h4⟩ := row hne
      exact ⟨b, cur, e, h1, h2, (hb b h1 h2).trans h3, h4⟩
    · obtain ⟨b, e, h4⟩ := lies i hi
      have hne : _ := row (fun e2 => by rw [e2] at e; cases e)
      obtain ⟨b2, cur, e2, h1, h2, _⟩ := hne
      have e3 := e.symm.trans e2
      cases e3
      exact ⟨b, e, h4.same (hb b h1 h2)⟩
theorem Fdx.widen {w : World} {lo hi lo' hi' : Nat} {T : FT} {a : Option Addr} {cap : Nat} (h : Fdx w lo hi T a cap) (h1 : lo' ≤ lo) (h2 : hi ≤ hi') : Fdx w lo' hi' T a cap := by
  cases h with
  | mk vs iv le len nil room most row lies ord inb sub =>
    refine .mk vs iv (by omega) len nil room most (fun hne => ?_) lies ord (fun i hi => ⟨by have := (inb i hi).1; omega, by have := (inb i hi).2; omega⟩) sub
    obtain ⟨b, cur, e, h3, h4, h5⟩ := row hne
    exact ⟨b, cur, e, by omega, by omega, h5⟩
theorem Fdx.fd {w : World} {lo hi : Nat} {T : FT} {a : Option Addr} {cap : Nat} (h : Fdx w lo hi T a cap) : Fd w (fun b => lo ≤ b ∧ b < hi) T a cap := by
  induction h with
  | mk vs iv le len nil room most row lies ord inb sub ih =>
    refine .mk vs len nil room most (fun i hi => ?_) (fun i hi => (ih i hi).mono (fun b hb => by have := inb i hi; omega))
    · obtain ⟨b, e, h4⟩ := lies i hi
      obtain ⟨b2, cur, e2, h1, h2, _⟩ := row (fun e2 => by rw [e2] at e; cases e)
      have e3 := e.symm.trans e2
      cases e3
      exact ⟨b, 0, e, ⟨h1, h2⟩, by rw [Nat.zero_add]; exact h4⟩
theorem fdx_zero (w : World) (lo hi : Nat) (h : lo ≤ hi) : Fdx w lo hi zF none 0 := .mk (fun _ => (none, 0)) (fun _ => (0, 0)) h (by simp [zF, FT.kids]) (fun _ => rfl) (by simp [zF, FT.kids]) (Nat.zero_le _) (fun h => absurd rfl h) (fun i h => absurd h (by simp [zF, FT.kids])) (fun i j _ h => absurd h (by simp [zF, FT.kids])) (fun i h => absurd h (by simp [zF, FT.kids])) (fun i h => absurd h (by simp [zF, FT.kids]))
/-- A row of the call's own; each file's own files lie between two blocks, one behind another, and not in the row. -/
def FRowX (w : World) (base : Nat) (v : Value) (K : List ((FT × Option Addr × Nat) × Nat × Nat)) : Prop :=
  w.ownsRow base 25 4 v K.length (fcells (K.map (·.1))) ∧ (∀ x ∈ K, base ≤ x.2.1 ∧ x.2.2 ≤ w.heap.size ∧ Fdx w x.2.1 x.2.2 x.1.1 x.1.2.1 x.1.2.2 ∧ ∀ g, v.ownBlock = some g → g < x.2.1 ∨ x.2.2 ≤ g) ∧ K.Pairwise (fun x y => x.2.2 ≤ y.2.1)
theorem FRowX.empty (w : World) (base : Nat) : FRowX w base (.slice none 0 0) [] := ⟨World.ownsRow_nil _ _ _ _, fun x h => (by cases h), List.Pairwise.nil⟩
theorem FRowX.below {w w' : World} {base : Nat} {v : Value} {K : List ((FT × Option Addr × Nat) × Nat × Nat)} (h : FRowX w base v K) (hb : Below w.heap.size w w') : FRowX w' base v K :=
  ⟨own_below h.1 hb, fun x hx => ⟨(h.2.1 x hx).1, Nat.le_trans (h.2.1 x hx).2.1 hb.size, (h.2.1 x hx).2.2.1.same (fun b _ h2 => hb.block b (Nat.lt_of_lt_of_le h2 (h.2.1 x hx).2.1)), (h.2.1 x hx).2.2.2⟩, h.2.2⟩
/-- One more file, behind all the others. -/
theorem frowx_snoc {w w' : World} {base m lo : Nat} {v v' : Value} {K : List ((FT × Option Addr × Nat) × Nat × Nat)} {x : FT × Option Addr × Nat} {o : Obj} (h : FRowX w base v K) (hx : Fdx w lo w.heap.size x.1 x.2.1 x.2.2) (hlo : base ≤ lo) (hk : ∀ y ∈ K, y.2.2 ≤ lo) (hv : ∀ g, v.ownBlock = some g → g < lo)
    (own' : w'.ownsRow base 25 4 v' (K.length + 1) (fcells (K.map (·.1)) ++ fourL x)) (hgr : (w.alloc o).grownBy w' v.ownBlock) (hat : v'.ownBlock = v.ownBlock ∨ v'.ownBlock = some m) (hm : w.heap.size ≤ m) : FRowX w' base v' (K ++ [(x, lo, w.heap.size)]) := by
  have hsz : w.heap.size ≤ w'.heap.size := by have := hgr.size; simp at this; omega
  have keep : ∀ b, b < w.heap.size → some b ≠ v.ownBlock → w'.heap[b]? = w.heap[b]? := fun b hb hne => by rw [hgr.block b (by simp; omega) (fun e => hne e), heap_alloc_old w o hb]
  refine ⟨?_, fun y hy => ?_, ?_⟩
  · rw [List.map_append, List.length_append]
    show w'.ownsRow base _ 4 v' (K.length + 1) (fcells (K.map (·.1) ++ [x]))
    rw [fcells_snoc]
    exact own'
  · rcases List.mem_append.1 hy with q | q
    · obtain ⟨h1, h2, h3, h4⟩ := h.2.1 y q
      refine ⟨h1, by omega, h3.same (fun b hb1 hb2 => keep b (by omega) (fun e => by have := h4 b e.symm; omega)), fun g hg => ?_⟩
      rcases hat with e | e
      · exact h4 g (e.symm.trans hg)
      · have e : some m = some g := e.symm.trans hg
        injection e with e
        omega
    · rw [List.mem_singleton.1 q]
      refine ⟨hlo, hsz, hx.same (fun b hb1 hb2 => keep b hb2 (fun e => by have := hv b e.symm; omega)), fun g hg => ?_⟩
      rcases hat with e | e
      · exact .inl (hv g (e.symm.trans hg))
      · have e : some m = some g := e.symm.trans hg
        injection e with e
        exact .inr (by show w.heap.size ≤ g; omega)
  · rw [List.pairwise_append]
    exact ⟨h.2.2, List.pairwise_singleton _ _, fun y hy z hz => by rw [List.mem_singleton.1 hz]; exact hk y hy⟩
/-- The end: the row as a file's own files. -/
theorem FRowX.nd {w : World} {base : Nat} {v : Value} {K : List ((FT × Option Addr × Nat) × Nat × Nat)} {T : FT} (h : FRowX w base v K) (hK : K.map (·.1.1) = T.kids) (hl : T.kids.length ≤ 1048576) (hbs : base ≤ w.heap.size) : ∃ a cap, v = .slice a T.kids.length cap ∧ Fdx w base w.heap.size T a cap := by
  obtain ⟨h2, h3, h4⟩ := h
  have hn : K.length = T.kids.length := by rw [← hK]; simp
  rcases h2.2 with ⟨hv, hz⟩ | ⟨g, cap, cur, hv, hb, hg, hcap, hmax, hsize, htake⟩
  · refine ⟨none, 0, by rw [hv, ← hn, hz], .mk (fun _ => (none, 0)) (fun _ => (0, 0)) hbs hl (fun _ => rfl) (by omega) (Nat.zero_le _) (fun h => absurd rfl h) (fun i hi => absurd hi (by omega)) (fun i j _ hi => absurd hi (by omega)) (fun i hi => absurd hi (by omega)) (fun i hi => absurd hi (by omega))⟩
  · have hk : ∀ i (hi : i < T.kids.length), ∃ h' : i < K.length, T.kids[i] = (K[i]).1.1 := fun i hi => ⟨by omega, by simp only [← hK, List.getElem_map]⟩
    refine ⟨some ⟨g, 0, none⟩, cap, by rw [hv, hn], .mk (fun i => ((K[i]?).map (·.1.2)).getD (none, 0)) (fun i => ((K[i]?).map (·.2)).getD (0, 0)) hbs hl (fun h => by cases h) (by omega) hmax (fun _ => ⟨g, cur, rfl, hb, lt_of_block hg, hg, hsize, fun i hi => ?_⟩) (fun i hi => ⟨g, rfl, ?_⟩) (fun i j hij hj => ?_) (fun i hi => ?_) (fun i hi => ?_)⟩
    · obtain ⟨hi', e⟩ := hk i hi
      simp only [List.getElem?_eq_getElem hi', Option.map_some, Option.getD_some]
      exact (h3 _ (List.getElem_mem hi')).2.2.2 g (by rw [hv]; rfl)
    · obtain ⟨hi', e⟩ := hk i hi
      have key : ∀ j, j < 4 → w.cell? ⟨g, i * 4 + j, none⟩ = (fourL (K[i]).1)[j]? := fun j hj => by
        subst hv
        rw [h2.cellAt (i * 4 + j) (by omega)]
        have := fcells_at (K.map (·.1)) i (by simpa using hi') j hj
        rw [this]; simp
      rw [e]
      simp only [List.getElem?_eq_getElem hi', Option.map_some, Option.getD_some]
      exact ⟨key 0 (by omega), key 1 (by omega), key 2 (by omega), key 3 (by omega)⟩
    · obtain ⟨hi', _⟩ := hk i (by omega)
      obtain ⟨hj', _⟩ := hk j hj
      simp only [List.getElem?_eq_getElem hi', List.getElem?_eq_getElem hj', Option.map_some, Option.getD_some]
      exact List.pairwise_iff_getElem.1 h4 i j hi' hj' hij
    · obtain ⟨hi', _⟩ := hk i hi
      simp only [List.getElem?_eq_getElem hi', Option.map_some, Option.getD_some]
      exact ⟨(h3 _ (List.getElem_mem hi')).1, (h3 _ (List.getElem_mem hi')).2.1⟩
    · obtain ⟨hi', e⟩ := hk i hi
      rw [e]
      simp only [List.getElem?_eq_getElem hi', Option.map_some, Option.getD_some]
      exact (h3 _ (List.getElem_mem hi')).2.2.1
end Ft
end Go.Proofs.YtfbhofomcenabaaGreatDoor
namespace Go.Proofs.YtfbhofomcenabaaGreatDoor
open Go.RowKit

namespace Ft
/-- As GetE, the answer its asker's own. -/
def GetX (w : World) (r : Sum Nat FT) (e : Ending) (w' : World) : Prop := ∃ U a c code, e = .returned (.tuple #[fdV U a c, .int .i64 code]) ∧ Hid (FindIs r U code ∧ Fdx w' w.heap.size w'.heap.size U a c ∧ Below w.heap.size w w')
theorem GetX.e {w w' : World} {r : Sum Nat FT} {e : Ending} (h : GetX w r e w') : GetE w r e w' := by
  obtain ⟨U, a, c, code, h1, h2⟩ := h
  exact ⟨U, a, c, code, h1, h2.out.1, h2.out.2.1.fd, h2.out.2.2⟩
end Ft

set_option maxRecDepth 100000 in
set_option maxHeartbeats 2000000 in
theorem tcopyx_any (T : Ft.FT) :
    ∀ (a : Option Addr) (cap : Nat) (w : World), Ft.Fd w (· < w.heap.size) T a cap →
    Calls Tryz.prog 19 #[Ft.fdV T a cap] w fun e w' => ∃ a' cap', e = .returned (Ft.fdV T a' cap') ∧ Ft.Fdx w' w.heap.size w'.heap.size T a' cap' ∧ Below w.heap.size w w' := by
  induction T using Ft.FT.ind with
  | h T ih =>
  intro a cap w hN
  have IH : Hid _ := ih
  clear ih
  have hlm := hN.room.1
  obtain ⟨i0, hi0, hz0, hz1, hz2⟩ := info_parts Tryz.infoFile
  have N0 := (Ft.file_new w T a cap).alloc (.cells #[.string ⟨#[]⟩, .int .u8 0, .string ⟨#[]⟩, .slice none 0 0] 25)
  have Z0 := Ft.file_zero (w.alloc (.cells (Ft.fdA T a cap) 25))
  have hB0 : Below w.heap.size w ((w.alloc (.cells (Ft.fdA T a cap) 25)).alloc (.cells #[.string ⟨#[]⟩, .int .u8 0, .string ⟨#[]⟩, .slice none 0 0] 25)) := ((Below.refl w.heap.size w).alloc (Nat.le_refl _) _).alloc (by simp) _
  have hs0 : ((w.alloc (.cells (Ft.fdA T a cap) 25)).alloc (.cells #[.string ⟨#[]⟩, .int .u8 0, .string ⟨#[]⟩, .slice none 0 0] 25)).heap.size = w.heap.size + 2 := by simp
  have hz : (w.alloc (.cells (Ft.fdA T a cap) 25)).heap.size = w.heap.size + 1 := by simp
  rw [hz] at Z0
  clear hz
  simp only [Ft.fdV, Ft.fdA] at N0 Z0 hB0 hs0 ⊢
  obtain ⟨W, hW⟩ : ∃ W, W = (w.alloc (.cells #[.string T.nm, .int .u8 (T.k : Int), .string T.d, .slice a T.kids.length cap] 25)).alloc (.cells #[.string ⟨#[]⟩, .int .u8 0, .string ⟨#[]⟩, .slice none 0 0] 25) := ⟨_, rfl⟩
  rw [← hW] at N0 Z0 hB0 hs0
  have hN1 : Ft.Fd W (· < w.heap.size) T a cap := hN.under hB0
  go_enter Tryz.func19, Tryz.ntmps19
  have n9 := N0.four
  obtain ⟨q0, q1, q2, q3⟩ := n9
  go_wp2_with fail
  rw [← hW]
  clear hW
  go_loopw [3, 9] (fun v iv wr => ∃ i : Nat, i ≤ T.kids.length ∧ iv = .int .i64 (i : Int) ∧ (∃ K, Ft.FRowX wr (w.heap.size + 2) v K ∧ K.map (·.1.1) = T.kids.take i) ∧ Ft.FileAt wr w.heap.size T a cap ∧ Ft.FileAt wr (w.heap.size + 1) Ft.zF none 0 ∧ Ft.Fd wr (· < w.heap.size) T a cap ∧ Below w.heap.size w wr ∧ w.heap.size + 2 ≤ wr.heap.size) (fun _ iv _ => T.kids.length - (intOf iv).toNat)
  case atStart => exact ⟨0, by omega, rfl, ⟨[], Ft.FRowX.empty _ _, by simp⟩, N0, Z0, hN1, hB0, by omega⟩
  case round =>
    clear N0 hN1 hB0 Z0 q0 q1 q2 q3 hs0
    obtain ⟨i, hi, rfl, ⟨K, NR, hK⟩, NA, ZA, ND, hB, hsz⟩ := hrel
    by_cases hlt : i < T.kids.length
    · obtain ⟨b, off, a', cap', rfl, hbB, h9, hk⟩ := ND.kid hlt
      have HK : Hid _ := hk
      have HT : Hid _ := List.take_succ_eq_append_getElem (l := T.kids) (i := i) hlt
      obtain ⟨r0, r1, r2, r3⟩ := h9
      have K1 := Ft.file_new wr (T.kids[i]) a' cap'
      have hA : Below wr.heap.size wr (wr.alloc (.cells (Ft.fdA (T.kids[i]) a' cap') 25)) := (Below.refl _ _).alloc (Nat.le_refl _) _
      have HIH : Hid _ := IH.out i hlt a' cap'
      simp only [Ft.fdV, Ft.fdA] at K1 hA HIH
      obtain ⟨k0, k1, k2, k3⟩ := K1.four
      go_wp2_with fail
      have hszA : (wr.alloc (.cells #[.string (T.kids[i]).nm, .int .u8 ((T.kids[i]).k : Int), .string (T.kids[i]).d, .slice a' (T.kids[i]).kids.length cap'] 25)).heap.size = wr.heap.size + 1 := by simp
      refine (HIH.out _ (HK.out.same (fun b (h : b < _) => hA.block b (by omega)) (fun b (h : b < _) => by omega))).mono ?_
      rintro x w2 ⟨a2, cap2, rfl, hn2, hb2⟩
      have hB2 : Below wr.heap.size wr w2 := hA.trans (hb2.mono hA.size)
      have hs2 := hb2.size
      rw [hszA] at hn2 hs2
      have hro : ∀ k, u3.ownBlock = some k → k < wr.heap.size := fun k hk => (NR.1.lt k hk).2
      have hhi : ∀ y ∈ K, y.2.2 ≤ wr.heap.size := fun y hy => (NR.2.1 y hy).2.1
      have NR2 := NR.below hB2
      have NA2 := Ft.FileAt.below NA hB2 (by omega)
      have ZA2 := Ft.FileAt.below ZA hB2 (by omega)
      have ND2 : Ft.Fd w2 (· < w.heap.size) T _ cap := ND.same (fun b (h : b < _) => hB2.block b (by omega)) (fun _ h => h)
      have hBw : Below w.heap.size w w2 := hB.trans (hB2.mono hB.size)
      clear NR NA ZA ND hB hA hb2 HIH HK k0 k1 k2 k3 K1 r0 r1 r2 r3 IH hszA
      have ox := NR2.1
      have hLn : K.length = i := by
        have := congrArg List.length hK
        simp at this
        omega
      go_wp2_with (at_builtin; refine Ft.wpList_append_far _ rfl _ _ 23 rfl (w.heap.size + 2) 25 i0 (.agg #[.string ⟨#[]⟩, .int .u8 0, .string ⟨#[]⟩, .slice none 0 0]) 4 64 Tryz.underlying23 hi0 hz0 hz1 hz2 rfl (by decide) _ _ _ rfl (ox.alloc _) ⟨w2.heap.size, 0, none⟩ 1 1 (Ft.fourL (T.kids[i], a2, cap2)) rfl rfl ?c1 ?c2 ?c3 ?c4 ?c5 ?_)
      case c1 => exact Ft.four_new w2 (T.kids[i]) a2 cap2
      case c2 => exact Ft.four_one _
      case c3 => unfold maxLen; omega
      case c4 => omega
      case c5 => simp; omega
      intro v3 w3 hown3 hgr3 _ hat3
      have hB3 : Below (w.heap.size + 2) w2 w3 := ((Below.refl _ _).alloc (by omega) _).grown hgr3 (by simp; omega) (fun g hg => (ox.lt g hg).1)
      rw [show i + 1 = K.length + 1 by omega] at hown3
      have NR3 := Ft.frowx_snoc (x := (T.kids[i], a2, cap2)) NR2 hn2 (by omega) (fun y hy => by have := hhi y hy; omega) (fun g hg => by have := hro g hg; omega) hown3 hgr3 hat3 (by simp)
      have NA3 := Ft.FileAt.below NA2 hB3 (by omega)
      have ZA3 := Ft.FileAt.below ZA2 hB3 (by omega)
      have ND3 : Ft.Fd w3 (· < w.heap.size) T _ cap := ND2.same (fun b (h : b < _) => hB3.block b (by omega)) (fun _ h => h)
      have hBw3 : Below w.heap.size w w3 := hBw.trans (hB3.mono (by omega))
      have hs3 := hB3.size
      clear hgr3 hown3 hat3 NA2 ZA2 ND2 hBw hB3 ox hn2 NR2
      go_wp2_with fail
      refine ⟨⟨i + 1, by omega, by simp, ⟨_, NR3, ?_⟩, NA3, ZA3, ND3, hBw3, by omega⟩, by simp only [intOf]; omega⟩
      rw [HT.out, ← hK, List.map_append]
      rfl
    · obtain rfl : i = T.kids.length := by omega
      obtain ⟨q0, q1, q2, q3⟩ := NA.four
      obtain ⟨L, hL⟩ : ∃ L, L = T.kids := ⟨_, rfl⟩
      have hkl : Hid (L.length = T.kids.length) := by show _ = _; rw [hL]
      have HQ' : Hid (T = .mk T.nm T.k T.d L) := by show _ = _; rw [hL]; exact Ft.FT.eta T
      obtain ⟨a3, cap3, hv3, hn3⟩ := Ft.FRowX.nd (T := .mk T.nm T.k T.d L) NR (by rw [hK, List.take_of_length_le (by simp)]; exact hL.symm) (by have := hkl.out; show L.length ≤ _; omega) hsz
      have hv3 : u3 = .slice a3 L.length cap3 := hv3
      subst hv3
      clear hL hK
      have f3 := NA.frozen 3
      have HNA : Hid _ := NA
      have HZA : Hid _ := ZA
      have HN3 : Hid _ := hn3
      obtain ⟨c0, c1, c2, c3⟩ := (NA.putK L a3 cap3).four
      obtain ⟨z0, z1, z2, z3⟩ := ZA.four
      have g0 := ZA.frozen 0
      have g1 := ZA.frozen 1
      have g2 := ZA.frozen 2
      have g3 := ZA.frozen 3
      clear NR hn3
      go_wp2_with fail
      refine bodyPost_ret (results_cell_row rfl _ _ (w.heap.size + 1) _ _ _ _ rfl (Ft.FileAt.putF (Ft.FileAt.setCell HZA.out _ (show w.heap.size + 1 ≠ w.heap.size by omega)) (.mk T.nm T.k T.d L) a3 cap3) Tryz.underlying25 rfl (by kernel_rfl)) rfl ?_
      rw [HQ'.out]
      have hB5 : Below w.heap.size w (Ft.putF (wr.setCell ⟨w.heap.size, 3, none⟩ (.slice a3 L.length cap3)) (w.heap.size + 1) (.mk T.nm T.k T.d L) a3 cap3) := Ft.putF_below (hB.setCell (p := ⟨w.heap.size, 3, none⟩) (Nat.le_refl _) _) (by omega)
      have hz5 : wr.heap.size ≤ (Ft.putF (wr.setCell ⟨w.heap.size, 3, none⟩ (.slice a3 L.length cap3)) (w.heap.size + 1) (.mk T.nm T.k T.d L) a3 cap3).heap.size := (Ft.putF_below (((Below.refl 0 wr).setCell (p := ⟨w.heap.size, 3, none⟩) (Nat.zero_le _) _)) (Nat.zero_le _)).size
      refine ⟨a3, cap3, rfl, (HN3.out.same (fun b hb hb2 => ?_)).widen (by omega) hz5, hB5⟩
      refine (Ft.putF_other (w := wr.setCell ⟨w.heap.size, 3, none⟩ (.slice a3 L.length cap3)) (g := w.heap.size + 1) (T := .mk T.nm T.k T.d L) (a := a3) (cap := cap3) (by omega)).trans (heap_setCell_other _ ⟨w.heap.size, 3, none⟩ b _ (show b ≠ w.heap.size by omega))
end Go.Proofs.YtfbhofomcenabaaGreatDoor
