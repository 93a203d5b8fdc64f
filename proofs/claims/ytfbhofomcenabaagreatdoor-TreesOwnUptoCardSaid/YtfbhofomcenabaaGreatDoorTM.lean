/- A builder that is written between the rounds of a range: what turns, and nothing else. What a walk yields below a right tree: right names, right files; how long its text is. Plain. -/
import Derived.Test.YtfbhofomcenabaaGreatDoorTL
import Derived.Test.YtfbhofomcenabaaGreatDoorTD
import Derived.Test.YtfbhofomcenabaaGreatDoorTK
import Derived.Test.YtfbhofomcenabaaGreatDoorTI
namespace Go.Proofs.YtfbhofomcenabaaGreatDoor
open Go Go.RowKit

theorem string_lies {P : Program} (w : World) (base : Nat) (t u ty e : TypeId) (i : TypeInfo) (ht : P.underlying t = some (.slice e)) (hu : P.underlying u = some .string) (hi : P.info? e = some i) (hz : i.zero = some (.int .u8 0))
    (hsize : i.size = 1) (hby : i.bytes = 1) (v : Value) (n : Nat) (xs : List Value) (hown : w.ownsRow base e 1 v n xs) (s : ByteArray)
    (h63 : n + s.size ≤ maxLen) (hbytes : n + s.size ≤ 140737488355328) {v' : Value} {w' : World}
    (hr : (Builtin.append_ #[t, u] ty #[v, .string s]).run P w = .ok v' w') (hnil : v' = .slice none 0 0 ↔ v = .slice none 0 0 ∧ s.size = 0) : v'.ownBlock = v.ownBlock ∨ v'.ownBlock = some w.heap.size := by
  unfold maxLen at h63
  have hxl : xs.length = n := by simpa using hown.1
  rcases hown.2 with ⟨rfl, rfl⟩ | ⟨g, cap, cur, rfl, hbg, hg, hnc, hcm, hcs, htake⟩
  · by_cases hm : s.size = 0
    · left
      rw [hnil.2 ⟨rfl, hm⟩]
    · right
      have h2 := run_append_nil_string (P := P) w t u ty e i (.int .u8 0) ht hu hi hz s (by omega) (by omega) (by rw [hby]; omega)
      rw [hr] at h2
      cases h2
      rfl
  · have hcs' : cur.size = cap := by simpa using hcs
    by_cases hroom : n + s.size ≤ cap
    · left
      have h2 := Lib.run_append_room_string (P := P) w t u ty e i ht hu hi hsize g n cap cur hg s hroom (by omega)
      rw [hr] at h2
      cases h2
      rfl
    · right
      have holds : ∀ j u, xs[j]? = some u → w.cell? ((⟨g, 0, none⟩ : Addr).add j) = some u := hown.cells (g := g) rfl
      have h2 := Lib.run_append_grow_string (P := P) w t u ty e i (.int .u8 0) ht hu hi hz ⟨g, 0, none⟩ n cap xs (by rw [hsize]; simpa using hxl) holds s (by omega) (by omega) (by rw [hby]; exact growslice_fits (by omega) (by omega))
      rw [hr] at h2
      cases h2
      rfl
/-- append of a text, and where what it answers lies. -/
theorem wpList_append_str_far {P : Program} (w : World) {ops : Array Oper} {rest : List Oper} {o : Oper} {a : Act} {Q : Exit → Act → World → Prop} (hgd : o.guard = none) (sl x : Operand) (t u : TypeId)
    (ho : o.op = .call { callee := .builtin .append, args := #[sl, x], argTypes := #[t, u] })
    (base : Nat) (e : TypeId) (i : TypeInfo) (ht : P.underlying t = some (.slice e)) (hu : P.underlying u = some .string) (hi : P.info? e = some i) (hz : i.zero = some (.int .u8 0))
    (hsize : i.size = 1) (hby : i.bytes = 1)
    (v : Value) (n : Nat) (xs : List Value) (hs : a.eval sl = v) (hown : w.ownsRow base e 1 v n xs) (s : ByteArray) (hx : a.eval x = .string s)
    (h63 : n + s.size ≤ maxLen) (hbytes : n + s.size ≤ 140737488355328) (hbase : base ≤ w.heap.size)
    (h : ∀ v' w', w'.ownsRow base e 1 v' (n + s.size) (xs ++ Lib.strCells s) → w.grownBy w' v.ownBlock → (v'.ownBlock = v.ownBlock ∨ v'.ownBlock = some w.heap.size) → wpList P ops Q rest (a.put o.dst v') w') : wpList P ops Q (o :: rest) a w := by
  refine wpList_plain hgd fun K hK => ?_
  obtain ⟨v', w', hr, h2, h3, h4⟩ := Lib.run_append_own_string (P := P) w base t u o.type e i ht hu hi hz hsize hby v n xs hown s h63 hbytes hbase
  have h5 := string_lies (P := P) w base t u o.type e i ht hu hi hz hsize hby v n xs hown s h63 hbytes hr h4
  unfold Oper.wp execOp
  simp only [ho, resolve, invoke, builtin, Sem.run_bind, Sem.run_pure, Result.andThen_ok, List.map_toArray, List.map_cons, List.map_nil, hs, hx, hr]
  exact hK _ _ (h v' w' h2 h3 h5)

theorem byteCells_eq (l : List UInt8) : Lib.byteCells l = bcells l := rfl
/-- A builder at b that holds the bytes l in the row v. -/
structure Bt (w : World) (base b : Nat) (l : List UInt8) (v : Value) : Prop where
  lies : ∃ p, (p = .pointer none ∨ p = .pointer (some ⟨b, 0, none⟩)) ∧ w.heap[b]? = some (.cells #[p, v] 65 (0, 0))
  row : w.ownsRow base 5 1 v l.length (bcells l)
  ne : v.ownBlock ≠ some b
  lo : base ≤ b
theorem Bt.bd {w : World} {base b : Nat} {l : List UInt8} {v : Value} (h : Bt w base b l v) (hb : base ≤ w.heap.size) : Bd w base b l := by
  obtain ⟨p, hp, h1⟩ := h.lies
  have key : Lib.BuilderAtF 65 5 base b p (Lib.byteCells l) w := ⟨h.lo, v, h1, by rw [Lib.byteCells_length]; exact World.ownsRowF_of h.row, h.ne⟩
  refine ⟨?_, hb⟩
  rcases hp with rfl | rfl
  · exact .inl key
  · exact .inr key
theorem Bt.new (w : World) : Bt (w.alloc (.cells #[.pointer none, .slice none 0 0] 65)) w.heap.size w.heap.size [] (.slice none 0 0) :=
  ⟨⟨_, .inl rfl, heap_alloc_new w _⟩, World.ownsRow_nil _ _ _ _, by simp [Value.ownBlock], Nat.le_refl _⟩
theorem Bt.tu {O : Nat → Prop} {A B : World} {base b : Nat} {l : List UInt8} {v : Value} (h : Bt A base b l v) (hT : Tu O A B) (hb : ¬ O b) (hv : ∀ k, v.ownBlock = some k → ¬ O k) : Bt B base b l v := by
  obtain ⟨p, hp, h1⟩ := h.lies
  exact ⟨⟨p, hp, (hT.block b (lt_of_block h1) hb).trans h1⟩, own_kept h.row (fun k e => hT.block k (h.row.lt k e).2 (hv k e)), h.ne, h.lo⟩
theorem Bt.under {A B : World} {base b : Nat} {l : List UInt8} {v : Value} (h : Bt A base b l v) (hT : Below A.heap.size A B) : Bt B base b l v := by
  obtain ⟨p, hp, h1⟩ := h.lies
  exact ⟨⟨p, hp, (hT.block b (lt_of_block h1)).trans h1⟩, own_kept h.row (fun k e => hT.block k (h.row.lt k e).2), h.ne, h.lo⟩
/-- Behind copyCheck. -/
theorem copyCheck_t (base b : Nat) (l : List UInt8) (v : Value) (w : World) (h : Bt w base b l v) :
    Calls Tryz.prog 72 #[.pointer (some ⟨b, 0, none⟩)] w fun e w' => e = .returned (.tuple #[]) ∧ w'.heap[b]? = some (.cells #[.pointer (some ⟨b, 0, none⟩), v] 65 (0, 0)) ∧ w'.ownsRow base 5 1 v l.length (bcells l) ∧ Tu (fun k => k = b) w w' ∧ w'.heap.size = w.heap.size := by
  obtain ⟨p, hp, h1⟩ := h.lies
  rcases hp with rfl | rfl
  · refine (Any.Builder_copyCheck_fresh { Tryz.lays166 with } Tryz.bldExtra.toX72 b w (by rw [cell_of_row w b _ _ _ _ h1]; rfl) (by simp [World.shape?, h1, Tryz.bld_ren]) (frozen_of_row w b 0 _ _ h1)).mono ?_
    rintro e w' ⟨rfl, rfl⟩
    refine ⟨rfl, heap_setCell_same w b 0 _ _ _ h1, own_kept h.row (fun k e => heap_setCell_other w ⟨b, 0, none⟩ k _ (fun e2 => h.ne (by rw [e, e2]))), Tu.setCell (O := fun k => k = b) (p := ⟨b, 0, none⟩) (Tu.refl _ w) (fun _ => rfl) _, by simp⟩
  · refine (Any.Builder_copyCheck_used { Tryz.lays166 with } Tryz.bldExtra.toX72 b w (by rw [cell_of_row w b _ _ _ _ h1]; rfl)).mono ?_
    rintro e w' ⟨rfl, rfl⟩
    exact ⟨rfl, h1, h.row, Tu.refl _ _, rfl⟩
/-- What a write leaves. -/
def BtE (w : World) (base b : Nat) (l : List UInt8) (v : Value) (w' : World) : Prop :=
  ∃ v', Bt w' base b l v' ∧ Tu (fun k => k = b ∨ v.ownBlock = some k) w w' ∧ (v'.ownBlock = v.ownBlock ∨ ∃ g, v'.ownBlock = some g ∧ w.heap.size ≤ g)

set_option maxRecDepth 100000 in
set_option maxHeartbeats 1000000 in
theorem wstr_t (base b : Nat) (l : List UInt8) (v : Value) (s : ByteArray) (w : World) (h : Bt w base b l v) (hb : base ≤ w.heap.size) (hlen : l.length + s.size ≤ 140737488355328) :
    Calls Tryz.prog 36 #[.pointer (some ⟨b, 0, none⟩), .string s] w fun e w' => e = .returned (.tuple #[.int .i64 s.size, .nilIface]) ∧ BtE w base b (l ++ s.data.toList) v w' := by
  obtain ⟨i0, hi, hz0, hz1, hz2⟩ := info_parts Tryz.infoByte
  have C := copyCheck_t base b l v w h
  have HH : Hid _ := h
  clear h
  go_enter Tryz.func36, Tryz.ntmps36
  go_wp2_with fail
  refine C.mono ?_
  rintro e w1 ⟨rfl, h1, h2, h3, h4⟩
  have c1 : w1.cell? ⟨b, 1, none⟩ = some v := by rw [cell_of_row w1 b _ _ _ _ h1]; rfl
  have H1 : Hid _ := h1
  have H3 : Hid _ := h3
  have hbl := lt_of_block h1
  clear C h1 h3
  go_wp2_with (at_builtin; refine wpList_append_str_far _ rfl _ _ 63 9 rfl base 5 i0 Tryz.underlying63 Tryz.underlying9 hi hz0 hz1 hz2 _ _ _ rfl h2 s rfl ?d1 ?d2 ?d3 ?_)
  case d1 => unfold maxLen; omega
  case d2 => omega
  case d3 => omega
  intro v2 w2 hown hgr hat
  have g1 : w2.heap[b]? = some (.cells #[.pointer (some ⟨b, 0, none⟩), v] 65 (0, 0)) := (hgr.block b hbl (fun e => HH.out.ne e.symm)).trans H1.out
  have d1 : w2.cell? ⟨b, 1, none⟩ = some v := by rw [cell_of_row w2 b _ _ _ _ g1]; rfl
  have f1 := frozen_of_row w2 b 1 _ _ g1
  have G1 : Hid _ := g1
  have HO : Hid _ := hown
  have HG : Hid _ := hgr
  have HA : Hid _ := hat
  have hk2 : ∀ k, v2.ownBlock = some k → k ≠ b := fun k e e2 => by
    rcases HA.out with h | h
    · exact HH.out.ne (by rw [← h, e, e2])
    · rw [h] at e; cases e; omega
  have HK2 : Hid _ := hk2
  obtain ⟨ao, n', cap, rfl⟩ : ∃ ao n' cap, v2 = .slice ao n' cap := by
    rcases hown.2 with ⟨hv, _⟩ | ⟨g, cap, cur, hv, _⟩
    · exact ⟨_, _, _, hv⟩
    · exact ⟨_, _, _, hv⟩
  clear g1 hown hgr hat h2 hk2
  go_wp2_with fail
  go_ret2
  refine ⟨rfl, .slice ao n' cap, ⟨⟨_, .inr rfl, heap_setCell_same w2 b 1 _ _ _ G1.out⟩, ?_, ?_, HH.out.lo⟩, ?_, ?_⟩
  · have e1 : bcells (l ++ s.data.toList) = bcells l ++ Lib.strCells s := by rw [bcells_append]; rfl
    have e2 : (l ++ s.data.toList).length = l.length + s.size := by rw [List.length_append, Ln.szL]
    rw [e1, e2]
    exact own_kept HO.out (fun k e => heap_setCell_other w2 ⟨b, 1, none⟩ k _ (HK2.out k e))
  · exact fun e => HK2.out b e rfl
  · have t1 : Tu (fun k => v.ownBlock = some k) w1 w2 := ⟨HG.out.os, HG.out.tape, HG.out.output, HG.out.size, fun k hk hn => HG.out.block k hk (fun e => hn e.symm)⟩
    exact ((H3.out.mono (fun _ _ e => .inl e)).trans t1 (fun _ _ e => .inr e)).setCell (p := ⟨b, 1, none⟩) (fun _ => .inl rfl) _
  · rcases HA.out with h | h
    · exact .inl h
    · exact .inr ⟨_, h, by omega⟩

set_option maxRecDepth 100000 in
set_option maxHeartbeats 1000000 in
theorem wbyte_t (base b : Nat) (l : List UInt8) (v : Value) (c : UInt8) (w : World) (h : Bt w base b l v) (hb : base ≤ w.heap.size) (hlen : l.length + 1 ≤ 140737488355328) :
    Calls Tryz.prog 37 #[.pointer (some ⟨b, 0, none⟩), .int .u8 (c.toNat : Int)] w fun e w' => e = .returned .nilIface ∧ BtE w base b (l ++ [c]) v w' := by
  obtain ⟨i0, hi, hz0, hz1, hz2⟩ := info_parts Tryz.infoByte
  have C := copyCheck_t base b l v w h
  have HH : Hid _ := h
  clear h
  go_enter Tryz.func37, Tryz.ntmps37
  go_wp2_with fail
  refine C.mono ?_
  rintro e w1 ⟨rfl, h1, h2, h3, h4⟩
  have c1 : w1.cell? ⟨b, 1, none⟩ = some v := by rw [cell_of_row w1 b _ _ _ _ h1]; rfl
  have H1 : Hid _ := h1
  have H3 : Hid _ := h3
  have hbl := lt_of_block h1
  have H4 : Hid _ := h4
  have hbz : (w1.alloc (.cells #[.int .u8 (c.toNat : Int)] 5)).heap.size = w1.heap.size + 1 := by simp
  have hbw : base ≤ w1.heap.size := by omega
  clear C h1 h3 h4
  go_wp2_with (at_builtin; refine Ft.wpList_append_far _ rfl _ _ 63 rfl base 5 i0 (.int .u8 0) 1 1 Tryz.underlying63 hi hz0 hz1 hz2 rfl (by decide) _ _ _ rfl (h2.alloc _) ⟨w1.heap.size, 0, none⟩ 1 1 [.int .u8 (c.toNat : Int)] rfl rfl (cell_one_new _ _ _) ?d0 ?d1 ?d2 ?d3 ?_)
  case d0 => intro u hu; simp at hu; subst hu; rfl
  case d1 => unfold maxLen; omega
  case d2 => omega
  case d3 => simp; omega
  intro v2 w2 hown hgr _ hat
  have g1 : w2.heap[b]? = some (.cells #[.pointer (some ⟨b, 0, none⟩), v] 65 (0, 0)) := (hgr.block b (by simp; omega) (fun e => HH.out.ne e.symm)).trans ((heap_alloc_old w1 _ hbl).trans H1.out)
  have d1 : w2.cell? ⟨b, 1, none⟩ = some v := by rw [cell_of_row w2 b _ _ _ _ g1]; rfl
  have f1 := frozen_of_row w2 b 1 _ _ g1
  have G1 : Hid _ := g1
  have HO : Hid _ := hown
  have HG : Hid _ := hgr
  have HA : Hid (v2.ownBlock = v.ownBlock ∨ ∃ g, v2.ownBlock = some g ∧ w1.heap.size ≤ g) := hat.imp id (fun e => ⟨_, e, by simp⟩)
  have hk2 : ∀ k, v2.ownBlock = some k → k ≠ b := fun k e e2 => by
    rcases HA.out with h | ⟨g, h, hg⟩
    · exact HH.out.ne (by rw [← h, e, e2])
    · rw [h] at e; cases e; omega
  have HK2 : Hid _ := hk2
  obtain ⟨ao, n', cap, rfl⟩ : ∃ ao n' cap, v2 = .slice ao n' cap := by
    rcases hown.2 with ⟨hv, _⟩ | ⟨g, cap, cur, hv, _⟩
    · exact ⟨_, _, _, hv⟩
    · exact ⟨_, _, _, hv⟩
  clear g1 hown hgr hat h2 hk2
  go_wp2_with fail
  go_ret
  refine ⟨rfl, .slice ao n' cap, ⟨⟨_, .inr rfl, heap_setCell_same w2 b 1 _ _ _ G1.out⟩, ?_, fun e => HK2.out b e rfl, HH.out.lo⟩, ?_, ?_⟩
  · have e1 : bcells (l ++ [c]) = bcells l ++ [.int .u8 (c.toNat : Int)] := by rw [bcells_append]; rfl
    have e2 : (l ++ [c]).length = l.length + 1 := by simp
    rw [e1, e2]
    exact own_kept HO.out (fun k e => heap_setCell_other w2 ⟨b, 1, none⟩ k _ (HK2.out k e))
  · have t1 : Tu (fun k => v.ownBlock = some k) w1 w2 := by
      have y := (Below.refl w1.heap.size w1).alloc (Nat.le_refl _) (.cells #[.int .u8 (c.toNat : Int)] 5)
      exact ⟨HG.out.os.trans y.os, HG.out.tape.trans y.tape, HG.out.output.trans y.output, Nat.le_trans y.size HG.out.size, fun k hk hn => (HG.out.block k (by simp; omega) (fun e => hn e.symm)).trans (y.block k hk)⟩
    exact ((H3.out.mono (fun _ _ e => .inl e)).trans t1 (fun _ _ e => .inr e)).setCell (p := ⟨b, 1, none⟩) (fun _ => .inl rfl) _
  · rcases HA.out with h | ⟨g, h, hg⟩
    · exact .inl h
    · exact .inr ⟨_, h, by have := H4.out; omega⟩
end Go.Proofs.YtfbhofomcenabaaGreatDoor
namespace Go.Proofs.YtfbhofomcenabaaGreatDoor
open Go.RowKit

namespace Ft
theorem alone_k {T : FT} (h : aloneT T = true) : T.k = 1 ∨ T.k = 2 ∨ T.k = 3 := by
  unfold aloneT at h
  split at h
  · rename_i e; exact .inl e
  · rename_i e; exact .inr (.inl e)
  · rename_i e; exact .inr (.inr e)
  · cases h
theorem wk_right (T : FT) : ∀ p, belT T p = none → (∀ s ∈ p, Pl.nameB s = true) → ∀ x ∈ wkT.wkL none p T.kids, (∀ s ∈ x.1, Pl.nameB s = true) ∧ x.1 ≠ [] ∧ x.1.length ≤ 64 ∧ aloneT x.2.2 = true := by
  induction T using FT.ind with
  | h T ih =>
  intro p hb hp
  rw [belT_eq] at hb
  have key : ∀ (l : List FT), (∀ i (hi : i < l.length) p, belT (l[i]) p = none → (∀ s ∈ p, Pl.nameB s = true) → ∀ x ∈ wkT.wkL none p (l[i]).kids, (∀ s ∈ x.1, Pl.nameB s = true) ∧ x.1 ≠ [] ∧ x.1.length ≤ 64 ∧ aloneT x.2.2 = true) → ∀ b, belT.belL b l p = none → ∀ x ∈ wkT.wkL b p l, (∀ s ∈ x.1, Pl.nameB s = true) ∧ x.1 ≠ [] ∧ x.1.length ≤ 64 ∧ aloneT x.2.2 = true := by
    intro l
    induction l with
    | nil => intro _ b _ x hx; rw [wkT.wkL] at hx; cases hx
    | cons y r ihr =>
      intro h b hl x hx
      rw [belT.belL] at hl
      split at hl
      · cases hl
      · rename_i hbad
        have hn : Pl.nameB y.nm = true ∧ p.length + 1 ≤ 64 ∧ aloneT y = true := by
          simp [badB] at hbad
          exact ⟨hbad.1.1.1, by omega, hbad.2⟩
        have hp2 : ∀ s ∈ p ++ [y.nm], Pl.nameB s = true := fun s hs => by
          rcases List.mem_append.1 hs with hs | hs
          · exact hp s hs
          · rw [List.mem_singleton.1 hs]; exact hn.1
        split at hl
        · cases hl
        · rename_i hk
          rw [wkT.wkL, wk_eq] at hx
          rcases List.mem_append.1 hx with hx | hx
          · rcases List.mem_cons.1 hx with rfl | hx
            · exact ⟨hp2, by simp, by simp only [List.length_append, List.length_cons, List.length_nil]; omega, hn.2.2⟩
            · exact h 0 (by simp) (p ++ [y.nm]) hk hp2 x hx
          · exact ihr (fun i hi => h (i + 1) (by simpa using hi)) _ hl x hx
  exact key T.kids (fun i hi p => ih i hi p) none hb
theorem wk_dat (T : FT) : ∀ b p, szT.szL T.kids = true → ∀ x ∈ wkT.wkL b p T.kids, x.2.2.d.size ≤ 1048576 := by
  induction T using FT.ind with
  | h T ih =>
  intro b p hs
  have key : ∀ (l : List FT), szT.szL l = true → (∀ i (hi : i < l.length) b p, szT.szL (l[i]).kids = true → ∀ x ∈ wkT.wkL b p (l[i]).kids, x.2.2.d.size ≤ 1048576) → ∀ b, ∀ x ∈ wkT.wkL b p l, x.2.2.d.size ≤ 1048576 := by
    intro l
    induction l with
    | nil => intro _ _ b x hx; rw [wkT.wkL] at hx; cases hx
    | cons y r ihr =>
      intro hl h b x hx
      rw [szT.szL] at hl
      simp only [Bool.and_eq_true, decide_eq_true_eq] at hl
      rw [wkT.wkL, wk_eq] at hx
      rcases List.mem_append.1 hx with hx | hx
      · rcases List.mem_cons.1 hx with rfl | hx
        · exact hl.1.1.2
        · have hk : szT.szL y.kids = true := by have := hl.1.2; rw [FT.eta y, szT] at this; exact this
          exact h 0 (by simp) none (p ++ [y.nm]) hk x (by simpa using hx)
      · exact ihr hl.2 (fun i hi => h (i + 1) (by simpa using hi)) _ x hx
  exact key T.kids hs (fun i hi b p hz => ih i hi b p hz) b
/-- What is yielded below the root of a right tree. -/
theorem wk_in {T : FT} (hr : rightT T = true) (hz : szT T = true) {x : It} (hx : x ∈ wkT none [] T) (hp : x.1.length ≠ 0) : (∀ s ∈ x.1, Pl.nameB s = true) ∧ x.1 ≠ [] ∧ x.1.length ≤ 64 ∧ aloneT x.2.2 = true ∧ x.2.2.d.size ≤ 1048576 := by
  have hz2 : szT.szL T.kids = true := by rw [FT.eta T, szT] at hz; exact hz
  rw [wk_eq] at hx
  rcases List.mem_cons.1 hx with rfl | hx
  · exact (hp rfl).elim
  · have h := wk_right T [] (right_bel hr) (fun s hs => by cases hs) x hx
    exact ⟨h.1, h.2.1, h.2.2.1, h.2.2.2, wk_dat T none [] hz2 x hx⟩
theorem names_sum : ∀ (p : List ByteArray), (∀ s ∈ p, Pl.nameB s = true) → Pl.sumP p ≤ 256 * p.length := fun p h => Pl.sumP_names p (List.all_eq_true.2 h)
theorem prtL_app (l m : List It) : prtL (l ++ m) = prtL l ++ prtL m := by simp [prtL]
/-- A front's text is no longer. -/
theorem prtL_front {l m : List It} (h : l <+: m) : (prtL l).length ≤ (prtL m).length := by
  obtain ⟨r, rfl⟩ := h
  rw [prtL_app, List.length_append]
  omega
end Ft
end Go.Proofs.YtfbhofomcenabaaGreatDoor
