/- What lines.List answers: a text written so that each byte can be told, in rows. -/
import Derived.Test.YtpoimhkfajppmaaDoorLTell
import Derived.Deep.RegionWith
namespace Go.Proofs.YtpoimhkfajppmaaDoor
open Go.RowKit

theorem own_zero {w : World} {base : Nat} {e : TypeId} {v : Value} {l : List UInt8} (h : w.ownsRow base e 1 v l.length (bcells l)) :
    (v = .slice none 0 0) ∨ ∃ g n cap, v = .slice (some ⟨g, 0, none⟩) n cap ∧ n ≤ cap ∧ cap ≤ maxLen ∧ w.ownsRow base e 1 (.slice (some ⟨g, 0, none⟩) 0 cap) 0 (bcells []) := by
  rcases h.2 with ⟨hv, hn⟩ | ⟨g, cap, cur, hv, hbg, hg, h1, h2, h3, h4⟩
  · exact .inl hv
  · exact .inr ⟨g, l.length, cap, hv, h1, h2, ⟨by simp [bcells], .inr ⟨g, cap, cur, rfl, hbg, hg, Nat.zero_le _, h2, h3, by simp [bcells]⟩⟩⟩

theorem own_news {w : World} {base : Nat} {e : TypeId} {g cap : Nat} {l : List UInt8} (h : w.ownsRow base e 1 (.slice (some ⟨g, 0, none⟩) l.length cap) l.length (bcells l)) :
    ∀ j u, (bcells l)[j]? = some u → w.cell? ((⟨g, 0, none⟩ : Addr).add j) = some u := h.cells (g := g) rfl

theorem Tabs.drew {w : World} (h : Tabs w) : Tabs w.drew := ⟨h.size, h.lets, h.octs⟩

theorem own_byte_one (l : List UInt8) : ∀ u ∈ bcells l, u.oneCell' = true := by
  intro u hu
  obtain ⟨b, _, rfl⟩ := List.mem_map.1 hu
  rfl

theorem own_cap {w : World} {base : Nat} {e : TypeId} {size g n cap : Nat} {xs : List Value} (h : w.ownsRow base e size (.slice (some ⟨g, 0, none⟩) n cap) n xs) : n ≤ cap ∧ cap ≤ maxLen := by
  rcases h.2 with ⟨h0, _⟩ | ⟨g', cap', cur, hv, _, _, h1, h2, _⟩
  · cases h0
  · cases hv; exact ⟨h1, h2⟩
/-- What appending to a row (vo) leaves of another one (vn). -/
theorem grow_keeps0 {w w2 w3 : World} {vo vn v3 : Value} {L N : List UInt8} (hw : 2 ≤ w.heap.size) (hB : Below w.heap.size w w2) (T : Tabs w2) (hn : w2.ownsRow w.heap.size 5 1 vn N.length (bcells N)) (ho : w2.ownsRow w.heap.size 5 1 vo L.length (bcells L)) (hap : vo.ownBlock = none ∨ vo.ownBlock ≠ vn.ownBlock)
    (hgr : w2.grownBy w3 vo.ownBlock) (hat : v3.ownBlock = vo.ownBlock ∨ v3.ownBlock = some w2.heap.size) :
    w3.ownsRow w.heap.size 5 1 vn N.length (bcells N) ∧ Hid (v3.ownBlock = none ∨ v3.ownBlock ≠ vn.ownBlock) ∧ Tabs w3 ∧ Below w.heap.size w w3 := by
  have hsz := hB.size
  have hB3 : Below w.heap.size w w3 := hB.grown hgr hsz (fun g hg => (ho.lt g hg).1)
  have hne : vn.ownBlock = none ∨ vn.ownBlock ≠ vo.ownBlock := by
    rcases hap with h | h
    · rw [h]; cases hv : vn.ownBlock
      · exact .inl rfl
      · exact .inr (by simp)
    · exact .inr (fun e => h e.symm)
  refine ⟨hn.kept hgr hne, ?_, T.below hw (⟨hgr.os, hgr.tape, hgr.output, hgr.size, fun k hk => hgr.block k (by omega) (fun e => by have := (ho.lt k e.symm).1; omega)⟩ : Below w.heap.size w2 w3), hB3⟩
  rcases hat with e | e
  · rw [show v3.ownBlock = vo.ownBlock from e]; exact hap
  · right
    rw [e]
    intro q
    have := (hn.lt _ q.symm).2
    omega
theorem grow_keeps {w w2 w3 : World} {vo vn v3 : Value} {L N : List UInt8} {o : Obj} {m : Nat} (hw : 2 ≤ w.heap.size) (hB : Below w.heap.size w w2) (T : Tabs w2) (hn : w2.ownsRow w.heap.size 5 1 vn N.length (bcells N)) (ho : w2.ownsRow w.heap.size 5 1 vo L.length (bcells L)) (hap : vo.ownBlock = none ∨ vo.ownBlock ≠ vn.ownBlock)
    (hgr : (w2.alloc o).grownBy w3 vo.ownBlock) (hat : v3.ownBlock = vo.ownBlock ∨ v3.ownBlock = some m) (hm : m = w2.heap.size + 1 := by rfl) :
    w3.ownsRow w.heap.size 5 1 vn N.length (bcells N) ∧ Hid (v3.ownBlock = none ∨ v3.ownBlock ≠ vn.ownBlock) ∧ Tabs w3 ∧ Below w.heap.size w w3 :=
  grow_keeps0 hw (hB.alloc hB.size o) (T.alloc o) (hn.alloc o) (ho.alloc o) hap hgr (by rw [hm] at hat; simpa using hat)
/-- What telling into one row leaves of another one, of the tables and of old memory. -/
theorem tell_keeps {w wr w2 : World} {vo vn v2 : Value} {L : List UInt8} (hw : 2 ≤ w.heap.size) (hnx : Below w.heap.size w wr) (Tr : Tabs wr) (ho : wr.ownsRow w.heap.size 5 1 vo L.length (bcells L)) (hn : ∀ g, vn.ownBlock = some g → w.heap.size ≤ g) (hap : vo.ownBlock = none ∨ vo.ownBlock ≠ vn.ownBlock)
    (hgr : wr.drew.grownBy w2 vn.ownBlock) (hat : v2.ownBlock = vn.ownBlock ∨ ∃ g, v2.ownBlock = some g ∧ wr.drew.heap.size ≤ g) :
    w2.ownsRow w.heap.size 5 1 vo L.length (bcells L) ∧ Hid (vo.ownBlock = none ∨ vo.ownBlock ≠ v2.ownBlock) ∧ Tabs w2 ∧ Below w.heap.size w w2 := by
  have hsz := hnx.size
  have hB : Below w.heap.size w w2 := hnx.drew.grown hgr hsz hn
  refine ⟨ho.drew.kept hgr hap, ?_, Tr.below hw (⟨hgr.os, hgr.tape, hgr.output, hgr.size, fun k hk => hgr.block k (by show k < wr.heap.size; omega) (fun e => by have := hn k e.symm; omega)⟩ : Below w.heap.size wr w2), hB⟩
  rcases hap with h | h
  · exact .inl h
  · rcases hat with e | ⟨g, e, hg⟩
    · right; rw [e]; exact h
    · right
      rw [e]
      intro q
      have h1 := (ho.lt g q).2
      have h2 : wr.heap.size ≤ g := hg
      omega

set_option maxRecDepth 100000 in
set_option maxHeartbeats 2000000 in
theorem list_any (s : ByteArray) (width : Int) (w : World) (T : Tabs w) (hs : s.size ≤ 16777216) (hw : -9223372036854775808 ≤ width) (hw2 : width ≤ 9223372036854775807) :
    Calls Tryd.prog 33 #[.string s, .int .i64 width] w fun e w' => e = .returned (.tuple #[.string (Ln.listP s width).1, .int .i64 (Ln.listP s width).2]) ∧ Below w.heap.size w w' := by
  obtain ⟨i0, hi, hz0, hz1, hz2⟩ := info_parts Tryd.infoByte
  have hsz2 := T.size
  by_cases h0 : width < 0
  · have HR : Hid (Ln.listP s width = (Ln.bs [], 2)) := by show _ = _; rw [Ln.listP, if_pos h0]
    go_enter Tryd.func33, Tryd.ntmps33
    go_wp2
    go_ret2
    exact ⟨by rw [HR.out]; rfl, Below.refl _ _⟩
  have HR : Hid (Ln.listP s width = (Ln.bs ((Ln.listSt width s.data.toList).1 ++ [36, 10]), 0)) := by show _ = _; rw [Ln.listP, if_neg h0]
  go_enter Tryd.func33, Tryd.ntmps33
  go_wp2
  go_loopw [6, 7, 8, 14] (fun vo vn r i wr => ∃ (k q : Nat) (L N : List UInt8), k ≤ s.size ∧ i = .int .i64 k ∧ r = .int .i64 q ∧ Hid (Ln.listSt width (s.data.toList.take k) = (L, q)) ∧ L.length ≤ 6 * k ∧ q ≤ 4 * k ∧ N.length ≤ 4 ∧
      wr.ownsRow w.heap.size 5 1 vo L.length (bcells L) ∧ wr.ownsRow w.heap.size 5 1 vn N.length (bcells N) ∧ Hid (vo.ownBlock = none ∨ vo.ownBlock ≠ vn.ownBlock) ∧ Tabs wr ∧ Below w.heap.size w wr)
    (fun _ _ _ i _ => s.size - (intOf i).toNat)
  case atStart => exact ⟨0, 0, [], [], Nat.zero_le _, rfl, rfl, rfl, Nat.le_refl _, Nat.le_refl _, by simp, World.ownsRow_nil _ _ _ _, World.ownsRow_nil _ _ _ _, .inl rfl, T, Below.refl _ _⟩
  case round =>
    obtain ⟨k, q, L, N, hk, rfl, rfl, HL, hL, hq, hN, ho, hn, hap, Tr, hnx⟩ := hrel
    have hsz := hnx.size
    by_cases hlt : k < s.size
    · have hst := Ln.listSt_snoc width s k hlt
      rw [HL.out] at hst
      have htl := Ln.told_len s[k]
      have HB := @Ln.list_break width (L, q) s[k]
      have HO := @Ln.list_on width (L, q) s[k]
      rw [← hst] at HB HO
      have HB' : Hid (1 < width ∧ 0 < q ∧ width - 1 < (q : Int) + (Ln.toldL s[k]).length → Ln.listSt width (s.data.toList.take (k + 1)) = (L ++ [92, 10] ++ Ln.toldL s[k], (Ln.toldL s[k]).length)) := HB
      have HO' : Hid (¬ (1 < width ∧ 0 < q ∧ width - 1 < (q : Int) + (Ln.toldL s[k]).length) → Ln.listSt width (s.data.toList.take (k + 1)) = (L ++ Ln.toldL s[k], q + (Ln.toldL s[k]).length)) := HO
      clear HB HO hst
      rcases own_zero hn with rfl | ⟨g1, n1, c1, rfl, hnc, hcm, hown0⟩
      · go_wp2_with fail
        go_region_with (go_at_call 35; refine (tell_any (.slice none 0 0) [] s[k] w.heap.size _ Tr.drew hsz (World.ownsRow_nil _ _ _ _) (by simp)).mono ?_; rintro e w2 ⟨v2, rfl, hown2, hgr2, hat2⟩)
        obtain ⟨ho2, hap2, T2, hB2⟩ := tell_keeps hsz2 hnx Tr ho (fun g hg => by cases hg) hap.out hgr2 hat2
        have hsB2 := hB2.size
        obtain ⟨t, ht⟩ : ∃ t, Ln.toldL s[k] = t := ⟨_, rfl⟩
        have hown2 : w2.ownsRow w.heap.size 5 1 v2 t.length (bcells t) := by rw [← ht]; exact hown2
        rw [ht] at HB' HO' htl
        clear ht ho hn hgr2 hat2 hap hnx hsz Tr
        obtain ⟨g2, c2, rfl, hbg2, hgl2⟩ := hown2.form (by omega)
        have hcap2 := (own_cap hown2).1
        have hmx2 : c2 ≤ 9223372036854775807 := (own_cap hown2).2
        by_cases p : 1 < width ∧ 0 < q ∧ width - 1 < (q : Int) + t.length
        · have HS : Hid (Ln.listSt width (s.data.toList.take (k + 1)) = (L ++ [92, 10] ++ t, t.length)) := HB'.out p
          obtain ⟨p1, p2, p3⟩ := p
          have p2' : (0 : Int) < (q : Int) := by omega
          clear HB' HO' p2
          go_wp2_with (at_builtin; refine wpList_append_own_at _ rfl (.tmp 38) (.tmp 39) 53 rfl w.heap.size 5 i0 (.int .u8 0) 1 1 Tryd.underlying53 hi hz0 hz1 hz2 rfl (by decide) _ _ _ rfl (ho2.alloc _) ⟨w2.heap.size, 0, none⟩ 2 2 [.int .u8 92, .int .u8 10] rfl rfl (cell_two_new _ _ _ _) ?c2 ?c3 ?c4 ?c5 ?_)
          case c2 => exact one_ints (k := .u8) _
          case c3 => unfold maxLen; omega
          case c4 => omega
          case c5 => simp; omega
          intro v3 w3 hown3 hgr3 _ hat3
          have ho3 : w3.ownsRow w.heap.size 5 1 v3 (L ++ [92, 10]).length (bcells (L ++ [92, 10])) := by rw [bcells_append, List.length_append]; exact hown3
          obtain ⟨hn3, hap3, T3, hB3⟩ := grow_keeps hsz2 hB2 T2 (o := .cells #[.int .u8 92, .int .u8 10] 5) hown2 ho2 hap2.out hgr3 hat3
          have hsB3 := hB3.size
          clear hgr3 hat3 hown3 ho2 hown2 T2 hB2 hap2
          have hl3 : (L ++ [92, 10]).length ≤ 6 * k + 2 := by simp; omega
          generalize L ++ [92, 10] = L3 at *
          go_wp2_with (at_builtin; refine wpList_append_own_at _ rfl (.tmp 41) (.tmp 42) 53 rfl w.heap.size 5 i0 (.int .u8 0) 1 1 Tryd.underlying53 hi hz0 hz1 hz2 rfl (by decide) _ _ _ rfl ho3 ⟨g2, 0, none⟩ t.length c2 (bcells t) rfl (by rw [bcells_length]; omega) (own_news hn3) (own_byte_one t) ?d3 ?d4 ?d5 ?_)
          case d3 => unfold maxLen; omega
          case d4 => omega
          case d5 => exact hsB3
          intro v4 w4 hown4 hgr4 _ hat4
          have ho4 : w4.ownsRow w.heap.size 5 1 v4 (L3 ++ t).length (bcells (L3 ++ t)) := by rw [bcells_append, List.length_append]; exact hown4
          obtain ⟨hn4, hap4, T4, hB4⟩ := grow_keeps0 hsz2 hB3 T3 hn3 ho3 hap3.out hgr4 hat4
          clear hgr4 hat4 hown4 ho3 hn3 T3 hB3 hap3
          go_wp2
          go_roundw
          case rel => exact ⟨k + 1, t.length, L3 ++ t, t, by omega, by go_num, by go_num, HS, by simp; omega, by omega, by omega, ho4, hn4, hap4, T4, hB4⟩
          case measure => simp [intOf]; omega
        · have HS : Hid (Ln.listSt width (s.data.toList.take (k + 1)) = (L ++ t, q + t.length)) := HO'.out p
          clear HB' HO'
          have hw1 : (q : Int) + t.length ≤ 134217728 := by omega
          have cases3 : (decide ((1 : Int) < width) = false) ∨ (1 < width ∧ q = 0) ∨ (1 < width ∧ (0 : Int) < (q : Int) ∧ ¬ (width - 1 < (q : Int) + (t.length : Int))) := by
            by_cases a : 1 < width
            · by_cases b : 0 < q
              · right; right; exact ⟨a, by omega, by omega⟩
              · right; left; exact ⟨a, by omega⟩
            · left; simpa using a
          clear p
          rcases cases3 with p1 | ⟨p1, rfl⟩ | ⟨p1, p2, p3⟩
          all_goals
            go_wp2_with (at_builtin; refine wpList_append_own_at _ rfl (.tmp 41) (.tmp 42) 53 rfl w.heap.size 5 i0 (.int .u8 0) 1 1 Tryd.underlying53 hi hz0 hz1 hz2 rfl (by decide) _ _ _ rfl ho2 ⟨g2, 0, none⟩ t.length c2 (bcells t) rfl (by rw [bcells_length]; omega) (own_news hown2) (own_byte_one t) (by unfold maxLen; omega) (by omega) hsB2 ?_)
            intro v4 w4 hown4 hgr4 _ hat4
            have ho4 : w4.ownsRow w.heap.size 5 1 v4 (L ++ t).length (bcells (L ++ t)) := by rw [bcells_append, List.length_append]; exact hown4
            obtain ⟨hn4, hap4, T4, hB4⟩ := grow_keeps0 hsz2 hB2 T2 hown2 ho2 hap2.out hgr4 hat4
            clear hgr4 hat4 hown4 ho2 hown2 T2 hB2 hap2
            go_wp2
            go_roundw
            case rel => exact ⟨k + 1, _, L ++ t, t, by omega, by go_num, by go_num, HS, by simp; omega, by omega, by omega, ho4, hn4, hap4, T4, hB4⟩
            case measure => simp [intOf]; omega
      · unfold maxLen at hcm
        go_wp2_with fail
        go_region_with (go_at_call 35; refine (tell_any (.slice (some ⟨g1, 0, none⟩) 0 c1) [] s[k] w.heap.size _ Tr.drew hsz hown0 (by simp)).mono ?_; rintro e w2 ⟨v2, rfl, hown2, hgr2, hat2⟩)
        obtain ⟨ho2, hap2, T2, hB2⟩ := tell_keeps hsz2 hnx Tr ho (fun g hg => (hn.lt g hg).1) hap.out hgr2 hat2
        have hsB2 := hB2.size
        obtain ⟨t, ht⟩ : ∃ t, Ln.toldL s[k] = t := ⟨_, rfl⟩
        have hown2 : w2.ownsRow w.heap.size 5 1 v2 t.length (bcells t) := by rw [← ht]; exact hown2
        rw [ht] at HB' HO' htl
        clear ht ho hn hgr2 hat2 hap hnx hsz Tr
        obtain ⟨g2, c2, rfl, hbg2, hgl2⟩ := hown2.form (by omega)
        have hcap2 := (own_cap hown2).1
        have hmx2 : c2 ≤ 9223372036854775807 := (own_cap hown2).2
        by_cases p : 1 < width ∧ 0 < q ∧ width - 1 < (q : Int) + t.length
        · have HS : Hid (Ln.listSt width (s.data.toList.take (k + 1)) = (L ++ [92, 10] ++ t, t.length)) := HB'.out p
          obtain ⟨p1, p2, p3⟩ := p
          have p2' : (0 : Int) < (q : Int) := by omega
          clear HB' HO' p2
          go_wp2_with (at_builtin; refine wpList_append_own_at _ rfl (.tmp 38) (.tmp 39) 53 rfl w.heap.size 5 i0 (.int .u8 0) 1 1 Tryd.underlying53 hi hz0 hz1 hz2 rfl (by decide) _ _ _ rfl (ho2.alloc _) ⟨w2.heap.size, 0, none⟩ 2 2 [.int .u8 92, .int .u8 10] rfl rfl (cell_two_new _ _ _ _) ?c2 ?c3 ?c4 ?c5 ?_)
          case c2 => exact one_ints (k := .u8) _
          case c3 => unfold maxLen; omega
          case c4 => omega
          case c5 => simp; omega
          intro v3 w3 hown3 hgr3 _ hat3
          have ho3 : w3.ownsRow w.heap.size 5 1 v3 (L ++ [92, 10]).length (bcells (L ++ [92, 10])) := by rw [bcells_append, List.length_append]; exact hown3
          obtain ⟨hn3, hap3, T3, hB3⟩ := grow_keeps hsz2 hB2 T2 (o := .cells #[.int .u8 92, .int .u8 10] 5) hown2 ho2 hap2.out hgr3 hat3
          have hsB3 := hB3.size
          clear hgr3 hat3 hown3 ho2 hown2 T2 hB2 hap2
          have hl3 : (L ++ [92, 10]).length ≤ 6 * k + 2 := by simp; omega
          generalize L ++ [92, 10] = L3 at *
          go_wp2_with (at_builtin; refine wpList_append_own_at _ rfl (.tmp 41) (.tmp 42) 53 rfl w.heap.size 5 i0 (.int .u8 0) 1 1 Tryd.underlying53 hi hz0 hz1 hz2 rfl (by decide) _ _ _ rfl ho3 ⟨g2, 0, none⟩ t.length c2 (bcells t) rfl (by rw [bcells_length]; omega) (own_news hn3) (own_byte_one t) ?d3 ?d4 ?d5 ?_)
          case d3 => unfold maxLen; omega
          case d4 => omega
          case d5 => exact hsB3
          intro v4 w4 hown4 hgr4 _ hat4
          have ho4 : w4.ownsRow w.heap.size 5 1 v4 (L3 ++ t).length (bcells (L3 ++ t)) := by rw [bcells_append, List.length_append]; exact hown4
          obtain ⟨hn4, hap4, T4, hB4⟩ := grow_keeps0 hsz2 hB3 T3 hn3 ho3 hap3.out hgr4 hat4
          clear hgr4 hat4 hown4 ho3 hn3 T3 hB3 hap3
          go_wp2
          go_roundw
          case rel => exact ⟨k + 1, t.length, L3 ++ t, t, by omega, by go_num, by go_num, HS, by simp; omega, by omega, by omega, ho4, hn4, hap4, T4, hB4⟩
          case measure => simp [intOf]; omega
        · have HS : Hid (Ln.listSt width (s.data.toList.take (k + 1)) = (L ++ t, q + t.length)) := HO'.out p
          clear HB' HO'
          have hw1 : (q : Int) + t.length ≤ 134217728 := by omega
          have cases3 : (decide ((1 : Int) < width) = false) ∨ (1 < width ∧ q = 0) ∨ (1 < width ∧ (0 : Int) < (q : Int) ∧ ¬ (width - 1 < (q : Int) + (t.length : Int))) := by
            by_cases a : 1 < width
            · by_cases b : 0 < q
              · right; right; exact ⟨a, by omega, by omega⟩
              · right; left; exact ⟨a, by omega⟩
            · left; simpa using a
          clear p
          rcases cases3 with p1 | ⟨p1, rfl⟩ | ⟨p1, p2, p3⟩
          all_goals
            go_wp2_with (at_builtin; refine wpList_append_own_at _ rfl (.tmp 41) (.tmp 42) 53 rfl w.heap.size 5 i0 (.int .u8 0) 1 1 Tryd.underlying53 hi hz0 hz1 hz2 rfl (by decide) _ _ _ rfl ho2 ⟨g2, 0, none⟩ t.length c2 (bcells t) rfl (by rw [bcells_length]; omega) (own_news hown2) (own_byte_one t) (by unfold maxLen; omega) (by omega) hsB2 ?_)
            intro v4 w4 hown4 hgr4 _ hat4
            have ho4 : w4.ownsRow w.heap.size 5 1 v4 (L ++ t).length (bcells (L ++ t)) := by rw [bcells_append, List.length_append]; exact hown4
            obtain ⟨hn4, hap4, T4, hB4⟩ := grow_keeps0 hsz2 hB2 T2 hown2 ho2 hap2.out hgr4 hat4
            clear hgr4 hat4 hown4 ho2 hown2 T2 hB2 hap2
            go_wp2
            go_roundw
            case rel => exact ⟨k + 1, _, L ++ t, t, by omega, by go_num, by go_num, HS, by simp; omega, by omega, by omega, ho4, hn4, hap4, T4, hB4⟩
            case measure => simp [intOf]; omega
    · have HE : Hid (Ln.listSt width s.data.toList = (L, q)) := by have := HL.out; rwa [Ln.take_all s k (by omega)] at this
      have HE2 : Hid (Ln.listP s width = (Ln.bs (L ++ [36, 10]), 0)) := by have := HR.out; rwa [HE.out] at this
      clear HL HR HE
      go_wp2_with (at_builtin; refine wpList_append_own_at _ rfl _ _ 53 rfl w.heap.size 5 i0 (.int .u8 0) 1 1 Tryd.underlying53 hi hz0 hz1 hz2 rfl (by decide) _ _ _ rfl (ho.alloc _) ⟨wr.heap.size, 0, none⟩ 2 2 [.int .u8 36, .int .u8 10] rfl rfl (cell_two_new _ _ _ _) ?c2 ?c3 ?c4 ?c5 ?_)
      case c2 => exact one_ints (k := .u8) _
      case c3 => unfold maxLen; omega
      case c4 => omega
      case c5 => simp; omega
      intro v3 w3 hown3 hgr3 _ _
      have hB3 : Below w.heap.size w w3 := (hnx.alloc hsz _).grown hgr3 (by simp; omega) (fun g hg => (ho.lt g hg).1)
      have ho3 : w3.ownsRow w.heap.size 5 1 v3 (L ++ [36, 10]).length (bcells (L ++ [36, 10])) := by rw [bcells_append, List.length_append]; exact hown3
      have hl3 : (L ++ [36, 10]).length = L.length + 2 := by simp
      obtain ⟨g3, c3, rfl, _, _⟩ := ho3.form (by omega)
      have hcv := conv_own ho3
      rw [hl3] at hcv ⊢
      clear hl3 ho3 hown3
      go_wp2
      go_ret2
      exact ⟨by rw [HE2.out]; rfl, hB3⟩
end Go.Proofs.YtpoimhkfajppmaaDoor
