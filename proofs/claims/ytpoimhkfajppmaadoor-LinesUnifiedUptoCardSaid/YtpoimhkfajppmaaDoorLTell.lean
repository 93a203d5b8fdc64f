/- What lines.tell answers: a byte, told, behind what was there. -/
import Derived.Test.YtpoimhkfajppmaaDoorLTabs
import Derived.Maps.AppendAt
namespace Go.Proofs.YtpoimhkfajppmaaDoor
open Go.RowKit

theorem grown_below {w w1 w' : World} {row : Option Nat} (hb : Below w.heap.size w w1) (h : w1.grownBy w' row) : w.grownBy w' row :=
  ⟨h.os.trans hb.os, h.tape.trans hb.tape, h.output.trans hb.output, Nat.le_trans hb.size h.size, fun k hk hne => (h.block k (Nat.lt_of_lt_of_le hk hb.size) hne).trans (hb.block k hk)⟩
theorem at_ge {w : World} {v v' : Value} {m : Nat} (h : v'.ownBlock = v.ownBlock ∨ v'.ownBlock = some m) (hm : w.heap.size ≤ m) : v'.ownBlock = v.ownBlock ∨ ∃ g, v'.ownBlock = some g ∧ w.heap.size ≤ g := by
  rcases h with h | h
  · exact .inl h
  · exact .inr ⟨_, h, hm⟩
theorem alloc_below (w : World) (o : Obj) : Below w.heap.size w (w.alloc o) := (Below.refl _ _).alloc (Nat.le_refl _) o

theorem cell_four_new (w : World) (a b c d : Value) (t : TypeId) : ∀ j u, [a, b, c, d][j]? = some u → (w.alloc (.cells #[a, b, c, d] t)).cell? ((⟨w.heap.size, 0, none⟩ : Addr).add j) = some u := by
  intro j u hj
  match j, hj with
  | 0, hj => simp at hj; subst hj; simp [Addr.add]
  | 1, hj => simp at hj; subst hj; simp [Addr.add]
  | 2, hj => simp at hj; subst hj; simp [Addr.add]
  | 3, hj => simp at hj; subst hj; simp [Addr.add]
  | j + 4, hj => simp at hj

theorem one_ints {k : IntKind} (l : List Value) (h : ∀ u ∈ l, ∃ n, u = .int k n := by simp) : ∀ u ∈ l, u.oneCell' = true := fun u hu => by
  obtain ⟨n, rfl⟩ := h u hu
  rfl
theorem bcells_oct (b : UInt8) : bcells [92, 48 + b / 64, 48 + b / 8 % 8, 48 + b % 8] = [.int .u8 92, .int .u8 (48 + (b.toNat : Int) / 64), .int .u8 (48 + (b.toNat : Int) / 8 % 8), .int .u8 (48 + (b.toNat : Int) % 8)] := by
  have hb : b.toNat < 256 := b.toNat_lt
  have e1 : (48 + b / 64).toNat = 48 + b.toNat / 64 := by simp [UInt8.toNat_add, UInt8.toNat_div]; omega
  have e2 : (48 + b / 8 % 8).toNat = 48 + b.toNat / 8 % 8 := by simp [UInt8.toNat_add, UInt8.toNat_div, UInt8.toNat_mod]; omega
  have e3 : (48 + b % 8).toNat = 48 + b.toNat % 8 := by simp [UInt8.toNat_add, UInt8.toNat_mod]; omega
  simp only [bcells, List.map_cons, List.map_nil, e1, e2, e3]
  simp
theorem bcells_let {n : Nat} (h : n < 256) : bcells [92, UInt8.ofNat n] = [.int .u8 92, .int .u8 (n : Int)] := by
  simp only [bcells, List.map_cons, List.map_nil, UInt8.toNat_ofNat', Nat.mod_eq_of_lt (show n < 2 ^ 8 by omega)]
  rfl

set_option maxRecDepth 100000 in
set_option maxHeartbeats 2000000 in
theorem tell_any (v : Value) (l : List UInt8) (b : UInt8) (base : Nat) (w : World) (T : Tabs w) (hbase : base ≤ w.heap.size) (hown : w.ownsRow base 5 1 v l.length (bcells l)) (hl : l.length ≤ 1073741824) :
    Calls Tryd.prog 35 #[v, .int .u8 b.toNat] w fun e w' => ∃ v', e = .returned v' ∧ w'.ownsRow base 5 1 v' (l ++ Ln.toldL b).length (bcells (l ++ Ln.toldL b)) ∧ w.grownBy w' v.ownBlock ∧
      (v'.ownBlock = v.ownBlock ∨ ∃ g, v'.ownBlock = some g ∧ w.heap.size ≤ g) := by
  obtain ⟨i0, hi, hz0, hz1, hz2⟩ := info_parts Tryd.infoByte
  have hbn : b.toNat < 256 := b.toNat_lt
  cases h1 : ((b.toNat : Int) == 92)
  · by_cases h2 : b.toNat < 14
    · have hc : w.cell? ⟨0, b.toNat, none⟩ = some (.int .u8 (Ln.lets.getD b.toNat 0 : Nat)) := T.lets _ h2
      obtain ⟨n, hn⟩ : ∃ n, Ln.lets.getD b.toNat 0 = n := ⟨_, rfl⟩
      rw [hn] at hc
      have HN : Hid (Ln.lets.getD b.toNat 0 = n) := hn
      clear hn
      by_cases h3 : n = 0
      · subst h3
        have h3' : (((0 : Nat) : Int) != 0) = false := rfl
        have hL : Ln.letB b = 0 := HN.out
        cases h4 : Ln.octB b.toNat b.toNat
        · have HT : Hid (Ln.toldL b = [b]) := Ln.told_plain h1 hL h4
          clear hL
          go_enter Tryd.func35, Tryd.ntmps35
          go_wp2_with fail
          refine (oct_any _ _ _ T (by omega)).mono ?_
          rintro e w1 ⟨rfl, hbo⟩
          have hown1 := own_below hown hbo
          have hbs := hbo.size
          go_wp2_with (at_builtin; refine wpList_append_own_at _ rfl (.tmp 46) (.tmp 48) 53 rfl base 5 i0 (.int .u8 0) 1 1 Tryd.underlying53 hi hz0 hz1 hz2 rfl (by decide) _ _ _ rfl (hown1.alloc _) ⟨w1.heap.size, 0, none⟩ 1 1 [.int .u8 (b.toNat : Int)] rfl rfl (cell_one_new _ _ _) ?c2 ?c3 ?c4 ?c5 ?_)
          case c2 => exact one_ints (k := .u8) _
          case c3 => unfold maxLen; omega
          case c4 => omega
          case c5 => simp; omega
          intro v' w2 hown' hgrow _ hat
          have R1 : w.grownBy w2 v.ownBlock := grown_below (hbo.trans ((Below.refl _ _).alloc hbs _)) hgrow
          have R2 := at_ge (w := w) hat (by omega)
          have R3 : w2.ownsRow base 5 1 v' (l ++ Ln.toldL b).length (bcells (l ++ Ln.toldL b)) := by
            rw [HT.out, bcells_append, List.length_append]; show w2.ownsRow base 5 1 v' (l.length + 1) (bcells l ++ [.int .u8 (b.toNat : Int)]); exact hown'
          clear hgrow hat hown'
          go_wp2
          go_ret
          exact ⟨v', rfl, R3, R1, R2⟩
        · have HT : Hid (Ln.toldL b = [92, 48 + b / 64, 48 + b / 8 % 8, 48 + b % 8]) := Ln.told_oct h1 hL h4
          clear hL
          go_enter Tryd.func35, Tryd.ntmps35
          go_wp2_with fail
          refine (oct_any _ _ _ T (by omega)).mono ?_
          rintro e w1 ⟨rfl, hbo⟩
          have hown1 := own_below hown hbo
          have hbs := hbo.size
          go_wp2_with (at_builtin; refine wpList_append_own_at _ rfl (.tmp 33) (.tmp 44) 53 rfl base 5 i0 (.int .u8 0) 1 1 Tryd.underlying53 hi hz0 hz1 hz2 rfl (by decide) _ _ _ rfl (hown1.alloc _) ⟨w1.heap.size, 0, none⟩ 4 4 [.int .u8 92, .int .u8 (48 + (b.toNat : Int) / 64), .int .u8 (48 + (b.toNat : Int) / 8 % 8), .int .u8 (48 + (b.toNat : Int) % 8)] rfl rfl (cell_four_new _ _ _ _ _ _) ?c2 ?c3 ?c4 ?c5 ?_)
          case c2 => exact one_ints (k := .u8) _
          case c3 => unfold maxLen; omega
          case c4 => omega
          case c5 => simp; omega
          intro v' w2 hown' hgrow _ hat
          have R1 : w.grownBy w2 v.ownBlock := grown_below (hbo.trans ((Below.refl _ _).alloc hbs _)) hgrow
          have R2 := at_ge (w := w) hat (by omega)
          have R3 : w2.ownsRow base 5 1 v' (l ++ Ln.toldL b).length (bcells (l ++ Ln.toldL b)) := by
            rw [HT.out, bcells_append, List.length_append]; rw [bcells_oct]; exact hown'
          clear hgrow hat hown'
          go_wp2
          go_ret
          exact ⟨v', rfl, R3, R1, R2⟩
      · have h3' : ((n : Int) != 0) = true := by simp; omega
        have hL : Ln.letB b = n := HN.out
        have HT : Hid (Ln.toldL b = [92, UInt8.ofNat n]) := by rw [← hL]; exact Ln.told_let h1 (by rw [hL]; exact h3)
        have HNb : n < 256 := by rw [← hL]; exact Ln.let_lt b
        clear hL
        go_enter Tryd.func35, Tryd.ntmps35
        go_wp2_with (at_builtin; refine wpList_append_own_at _ rfl (.tmp 21) (.tmp 25) 53 rfl base 5 i0 (.int .u8 0) 1 1 Tryd.underlying53 hi hz0 hz1 hz2 rfl (by decide) _ _ _ rfl (hown.alloc _) ⟨w.heap.size, 0, none⟩ 2 2 [.int .u8 92, .int .u8 (n : Int)] rfl rfl (cell_two_new _ _ _ _) ?c2 ?c3 ?c4 ?c5 ?_)
        case c2 => exact one_ints (k := .u8) _
        case c3 => unfold maxLen; omega
        case c4 => omega
        case c5 => simp; omega
        intro v' w2 hown' hgrow _ hat
        have R1 : w.grownBy w2 v.ownBlock := grown_below (alloc_below w _) hgrow
        have R2 := at_ge (w := w) hat (by omega)
        have R3 : w2.ownsRow base 5 1 v' (l ++ Ln.toldL b).length (bcells (l ++ Ln.toldL b)) := by
          rw [HT.out, bcells_append, List.length_append]; rw [bcells_let HNb]; exact hown'
        clear hgrow hat hown'
        go_wp2
        go_ret
        exact ⟨v', rfl, R3, R1, R2⟩
    · have h2' : decide ((b.toNat : Int) < 14) = false := by simp; omega
      have hL : Ln.letB b = 0 := Ln.let_big (by omega)
      cases h4 : Ln.octB b.toNat b.toNat
      · have HT : Hid (Ln.toldL b = [b]) := Ln.told_plain h1 hL h4
        clear hL
        go_enter Tryd.func35, Tryd.ntmps35
        go_wp2_with fail
        refine (oct_any _ _ _ T (by omega)).mono ?_
        rintro e w1 ⟨rfl, hbo⟩
        have hown1 := own_below hown hbo
        have hbs := hbo.size
        go_wp2_with (at_builtin; refine wpList_append_own_at _ rfl (.tmp 46) (.tmp 48) 53 rfl base 5 i0 (.int .u8 0) 1 1 Tryd.underlying53 hi hz0 hz1 hz2 rfl (by decide) _ _ _ rfl (hown1.alloc _) ⟨w1.heap.size, 0, none⟩ 1 1 [.int .u8 (b.toNat : Int)] rfl rfl (cell_one_new _ _ _) ?c2 ?c3 ?c4 ?c5 ?_)
        case c2 => exact one_ints (k := .u8) _
        case c3 => unfold maxLen; omega
        case c4 => omega
        case c5 => simp; omega
        intro v' w2 hown' hgrow _ hat
        have R1 : w.grownBy w2 v.ownBlock := grown_below (hbo.trans ((Below.refl _ _).alloc hbs _)) hgrow
        have R2 := at_ge (w := w) hat (by omega)
        have R3 : w2.ownsRow base 5 1 v' (l ++ Ln.toldL b).length (bcells (l ++ Ln.toldL b)) := by
          rw [HT.out, bcells_append, List.length_append]; show w2.ownsRow base 5 1 v' (l.length + 1) (bcells l ++ [.int .u8 (b.toNat : Int)]); exact hown'
        clear hgrow hat hown'
        go_wp2
        go_ret
        exact ⟨v', rfl, R3, R1, R2⟩
      · have HT : Hid (Ln.toldL b = [92, 48 + b / 64, 48 + b / 8 % 8, 48 + b % 8]) := Ln.told_oct h1 hL h4
        clear hL
        go_enter Tryd.func35, Tryd.ntmps35
        go_wp2_with fail
        refine (oct_any _ _ _ T (by omega)).mono ?_
        rintro e w1 ⟨rfl, hbo⟩
        have hown1 := own_below hown hbo
        have hbs := hbo.size
        go_wp2_with (at_builtin; refine wpList_append_own_at _ rfl (.tmp 33) (.tmp 44) 53 rfl base 5 i0 (.int .u8 0) 1 1 Tryd.underlying53 hi hz0 hz1 hz2 rfl (by decide) _ _ _ rfl (hown1.alloc _) ⟨w1.heap.size, 0, none⟩ 4 4 [.int .u8 92, .int .u8 (48 + (b.toNat : Int) / 64), .int .u8 (48 + (b.toNat : Int) / 8 % 8), .int .u8 (48 + (b.toNat : Int) % 8)] rfl rfl (cell_four_new _ _ _ _ _ _) ?c2 ?c3 ?c4 ?c5 ?_)
        case c2 => exact one_ints (k := .u8) _
        case c3 => unfold maxLen; omega
        case c4 => omega
        case c5 => simp; omega
        intro v' w2 hown' hgrow _ hat
        have R1 : w.grownBy w2 v.ownBlock := grown_below (hbo.trans ((Below.refl _ _).alloc hbs _)) hgrow
        have R2 := at_ge (w := w) hat (by omega)
        have R3 : w2.ownsRow base 5 1 v' (l ++ Ln.toldL b).length (bcells (l ++ Ln.toldL b)) := by
          rw [HT.out, bcells_append, List.length_append]; rw [bcells_oct]; exact hown'
        clear hgrow hat hown'
        go_wp2
        go_ret
        exact ⟨v', rfl, R3, R1, R2⟩
  · have hb : b = 92 := by rw [← UInt8.toNat_inj]; simp at h1; simp; omega
    have HT : Hid (Ln.toldL b = [92, 92]) := by rw [hb]; rfl
    clear hb
    go_enter Tryd.func35, Tryd.ntmps35
    go_wp2_with (at_builtin; refine wpList_append_own_at _ rfl _ _ 53 rfl base 5 i0 (.int .u8 0) 1 1 Tryd.underlying53 hi hz0 hz1 hz2 rfl (by decide) _ _ _ rfl (hown.alloc _) ⟨w.heap.size, 0, none⟩ 2 2 [.int .u8 92, .int .u8 92] rfl rfl (cell_two_new _ _ _ _) ?c2 ?c3 ?c4 ?c5 ?_)
    case c2 => intro u hu; simp at hu; subst hu; rfl
    case c3 => unfold maxLen; omega
    case c4 => omega
    case c5 => simp; omega
    intro v' w1 hown' hgrow _ hat
    have R1 : w.grownBy w1 v.ownBlock := grown_below (alloc_below w _) hgrow
    have R2 := at_ge (w := w) hat (by omega)
    clear hgrow hat
    go_wp2
    go_ret
    exact ⟨v', rfl, by rw [HT.out, bcells_append, List.length_append]; exact hown', R1, R2⟩
end Go.Proofs.YtpoimhkfajppmaaDoor
