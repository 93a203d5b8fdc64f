/- Slices of lines in a world; what lines.Join and lines.Count answer. -/
import Derived.Test.YtpoimhkfajppmaaDoorLTell
namespace Go.Proofs.YtpoimhkfajppmaaDoor
open Go.RowKit

def lcells (l : List (ByteArray × Bool)) : List Value := l.flatMap fun x => [.string x.1, .bool x.2]
theorem lcells_length (l : List (ByteArray × Bool)) : (lcells l).length = l.length * 2 := by
  induction l with
  | nil => rfl
  | cons x r ih => simp only [lcells, List.flatMap_cons, List.length_append, List.length_cons, List.length_nil] at ih ⊢; omega
theorem lcells_append (a b : List (ByteArray × Bool)) : lcells (a ++ b) = lcells a ++ lcells b := by simp [lcells]
theorem lcells_get : ∀ (l : List (ByteArray × Bool)) (i : Nat) (h : i < l.length), (lcells l)[i * 2]? = some (.string (l[i]'h).1) ∧ (lcells l)[i * 2 + 1]? = some (.bool (l[i]'h).2)
  | [], i, h => absurd h (by simp)
  | x :: r, 0, h => by simp [lcells]
  | x :: r, i + 1, h => by
    have ih := lcells_get r i (by simpa using h)
    have e1 : (i + 1) * 2 = i * 2 + 1 + 1 := by omega
    have e2 : (i + 1) * 2 + 1 = i * 2 + 1 + 1 + 1 := by omega
    have e3 : lcells (x :: r) = .string x.1 :: .bool x.2 :: lcells r := rfl
    rw [e2, e1, e3]
    simpa using ih

/-- The slice at address a, of capacity cap, reads in w as the lines l. -/
structure Lns (w : World) (a : Option Addr) (cap : Nat) (l : List (ByteArray × Bool)) : Prop where
  len : l.length ≤ 67108864
  nil : a = none → cap = 0
  room : l.length ≤ cap
  most : cap ≤ maxLen
  size : ∀ x ∈ l, x.1.size ≤ 67108864
  cells : ∀ i (h : i < l.length), ∃ b off, a = some ⟨b, off, none⟩ ∧ b < w.heap.size ∧ w.cell? ⟨b, off + i * 2, none⟩ = some (.string (l[i]'h).1) ∧ w.cell? ⟨b, off + i * 2 + 1, none⟩ = some (.bool (l[i]'h).2)

theorem Lns.below {w w' : World} {a : Option Addr} {cap : Nat} {l : List (ByteArray × Bool)} (h : Lns w a cap l) (hb : Below w.heap.size w w') : Lns w' a cap l := by
  refine ⟨h.len, h.nil, h.room, h.most, h.size, fun i hi => ?_⟩
  obtain ⟨b, off, e, hlt, h1, h2⟩ := h.cells i hi
  exact ⟨b, off, e, Nat.lt_of_lt_of_le hlt hb.size, (hb.cell (p := ⟨b, off + i * 2, none⟩) hlt).trans h1, (hb.cell (p := ⟨b, off + i * 2 + 1, none⟩) hlt).trans h2⟩
theorem Lns.alloc {w : World} {a : Option Addr} {cap : Nat} {l : List (ByteArray × Bool)} (h : Lns w a cap l) (o : Obj) : Lns (w.alloc o) a cap l := h.below (alloc_below w o)

theorem own_lns {w : World} {base : Nat} {e : TypeId} {v : Value} {l : List (ByteArray × Bool)} (h : w.ownsRow base e 2 v l.length (lcells l)) (hlen : l.length ≤ 67108864) (hsz : ∀ x ∈ l, x.1.size ≤ 67108864) :
    ∃ a cap, v = .slice a l.length cap ∧ Lns w a cap l := by
  rcases h.2 with ⟨hv, hn⟩ | ⟨g, cap, cur, hv, hb, hg, hcap, hmax, hsize, htake⟩
  · exact ⟨none, 0, by rw [hv, hn], hlen, fun _ => rfl, by omega, Nat.zero_le _, hsz, fun i hi => absurd hi (by omega)⟩
  · refine ⟨some ⟨g, 0, none⟩, cap, hv, hlen, fun h => (by cases h), hcap, hmax, hsz, fun i hi => ⟨g, 0, rfl, lt_of_block hg, ?_, ?_⟩⟩
    · subst hv
      rw [Nat.zero_add, h.cellAt (i * 2) (by omega)]; exact (lcells_get l i hi).1
    · subst hv
      rw [Nat.zero_add, h.cellAt (i * 2 + 1) (by omega)]; exact (lcells_get l i hi).2

theorem Tryd.infoLine : (Tryd.prog.info? 38).map (fun i => (i.zero, i.size, i.bytes)) = some (some (.agg #[.string ⟨#[]⟩, .bool false]), 2, 24) := by kernel_rfl

set_option maxRecDepth 100000 in
set_option maxHeartbeats 1000000 in
theorem ljoin_any (a : Option Addr) (cap : Nat) (l : List (ByteArray × Bool)) (w : World) (h : Lns w a cap l) (ht : Ln.tot l ≤ 67108864) :
    Calls Tryd.prog 22 #[.slice a l.length cap] w fun e w' => e = .returned (.string (Ln.bs (Ln.joinL l))) ∧ Below w.heap.size w w' := by
  obtain ⟨i0, hi, hz0, hz1, hz2⟩ := info_parts Tryd.infoByte
  have hl := h.len
  go_enter Tryd.func22, Tryd.ntmps22
  go_wp2
  go_loopw [3, 8] (fun v i wr => ∃ k : Nat, k ≤ l.length ∧ i = .int .i64 k ∧ wr.ownsRow w.heap.size 5 1 v (Ln.joinL (l.take k)).length (bcells (Ln.joinL (l.take k))) ∧ Below w.heap.size w wr) (fun _ i _ => l.length - (intOf i).toNat)
  case atStart => exact ⟨0, Nat.zero_le _, rfl, World.ownsRow_nil _ _ _ _, Below.refl _ _⟩
  case round =>
    obtain ⟨k, hk, rfl, hown, hnx⟩ := hrel
    have hsz := hnx.size
    by_cases hlt : k < l.length
    · obtain ⟨b, off, rfl, hb0, hc1, hc2⟩ := h.cells k hlt
      have d1 : wr.cell? ⟨b, off + k * 2, none⟩ = some (.string (l[k]'hlt).1) := (hnx.cell (p := ⟨b, off + k * 2, none⟩) hb0).trans hc1
      have d2 : wr.cell? ⟨b, off + k * 2 + 1, none⟩ = some (.bool (l[k]'hlt).2) := (hnx.cell (p := ⟨b, off + k * 2 + 1, none⟩) hb0).trans hc2
      have HT : Hid (Ln.joinL (l.take (k + 1)) = Ln.joinL (l.take k) ++ (l[k]'hlt).1.data.toList ++ (if (l[k]'hlt).2 then [10] else [])) := Ln.joinL_snoc l k hlt
      have hbd : (Ln.joinL (l.take k)).length + (l[k]'hlt).1.size + 1 ≤ 67108864 := by
        have h1 := Ln.joinL_length (l.take k)
        have h2 := Ln.tot_take_le l (k + 1)
        rw [List.take_succ_eq_append_getElem hlt, Ln.tot_append] at h2
        simp only [Ln.tot] at h2
        omega
      generalize l[k]'hlt = x at *
      obtain ⟨x1, x2⟩ := x
      have hbd : (Ln.joinL (l.take k)).length + x1.size + 1 ≤ 67108864 := hbd
      generalize Ln.joinL (l.take k) = J at *
      clear hc1 hc2
      go_wp2_with (at_builtin; refine Lib.wpList_append_own_string _ rfl (.tmp 12) (.tmp 14) 53 9 rfl w.heap.size 5 i0 Tryd.underlying53 Tryd.underlying9 hi hz0 hz1 hz2 _ _ _ rfl (hown.alloc _) x1 rfl ?d1 ?d2 ?d3 ?_)
      case d1 => unfold maxLen; omega
      case d2 => omega
      case d3 => first | omega | (simp; omega)
      intro v1 w1 hown1 hgrow1 _
      have hb1 : Below w.heap.size w w1 := (hnx.alloc hsz _).grown hgrow1 (by simp; omega) (fun g hg => (hown.lt g hg).1)
      have hs1 := hb1.size
      have hc1 : w1.cell? ⟨wr.heap.size, 1, none⟩ = some (.bool x2) := hgrow1.cell (a := ⟨wr.heap.size, 1, none⟩) (v := .bool x2) (by simp) (fun e => by have := (hown.lt _ e.symm).2; exact absurd this (by show ¬ wr.heap.size < wr.heap.size; omega))
      have hown2 : w1.ownsRow w.heap.size 5 1 v1 (J ++ x1.data.toList).length (bcells (J ++ x1.data.toList)) := by rw [bcells_append, List.length_append, Ln.szL]; exact hown1
      have hJ2 : (J ++ x1.data.toList).length + 1 ≤ 67108864 := by rw [List.length_append, Ln.szL]; omega
      generalize J ++ x1.data.toList = J2 at *
      clear hgrow1 hown1 hown d1 d2
      cases x2
      · have HT' : Hid (Ln.joinL (l.take (k + 1)) = J2) := by show _ = _; rw [HT.out]; simp
        go_wp2_with fail
        go_roundw
        case rel => exact ⟨k + 1, by omega, by go_num, by rw [HT'.out]; exact hown2, hb1⟩
        case measure => simp [intOf]; omega
      · have HT' : Hid (Ln.joinL (l.take (k + 1)) = J2 ++ [10]) := by show _ = _; rw [HT.out]; simp
        go_wp2_with (at_builtin; refine wpList_append_own _ rfl (.tmp 18) (.tmp 19) 53 rfl w.heap.size 5 i0 (.int .u8 0) 1 1 Tryd.underlying53 hi hz0 hz1 hz2 rfl (by decide) _ _ _ rfl (hown2.alloc _) ⟨w1.heap.size, 0, none⟩ 1 1 [.int .u8 10] rfl rfl (cell_one_new _ _ _) ?c2 ?c3 ?c4 ?c5 ?_)
        case c2 => first | exact one_ints (k := .u8) _ | rfl | (intro u hu; simp at hu; subst hu; rfl)
        case c3 => unfold maxLen; omega
        case c4 => omega
        case c5 => first | omega | (simp; omega)
        intro v3 w3 hown3 hgr3 _
        have hB3 : Below w.heap.size w w3 := (hb1.alloc hs1 _).grown hgr3 (by simp; omega) (fun g hg => (hown2.lt g hg).1)
        have ho3 : w3.ownsRow w.heap.size 5 1 v3 (J2 ++ [10]).length (bcells (J2 ++ [10])) := by rw [bcells_append, List.length_append]; exact hown3
        clear hgr3 hown3
        go_wp2
        go_roundw
        case rel => exact ⟨k + 1, by omega, by go_num, by rw [HT'.out]; exact ho3, hB3⟩
        case measure => simp [intOf]; omega
    · have htk : l.take k = l := List.take_of_length_le (by omega)
      rw [htk] at hown
      clear htk
      obtain ⟨J, hJ⟩ : ∃ J, Ln.joinL l = J := ⟨_, rfl⟩
      rw [hJ] at hown
      have HJ : Hid (Ln.joinL l = J) := hJ
      clear hJ
      rcases hown.2 with ⟨hv, hn⟩ | ⟨g, cp, cur, hv, _⟩
      · subst hv
        have ho : J = [] := List.eq_nil_of_length_eq_zero hn
        subst ho
        have hcv : (convert 53 9 (.slice none 0 0)).run Tryd.prog wr = .ok (.string ByteArray.empty) wr := run_convert_bytes_nil wr 53 5 Tryd.underlying53 Tryd.underlying5 0 0 9 Tryd.underlying9
        go_wp2_with fail
        go_ret
        rw [HJ.out]
        exact ⟨rfl, hnx⟩
      · subst hv
        have hcv := conv_own hown
        go_wp2_with fail
        go_ret
        rw [HJ.out]
        exact ⟨rfl, hnx⟩

set_option maxRecDepth 100000 in
set_option maxHeartbeats 1000000 in
theorem rjoin_any (a : Option Addr) (cap : Nat) (l : List (ByteArray × Bool)) (w : World) (h : Lns w a cap l) (ht : Ln.tot l ≤ 67108864) :
    Calls Tryd.prog 23 #[.slice a l.length cap] w fun e w' => e = .returned (.string (Ln.bs (Ln.joinL l))) ∧ Below w.heap.size w w' := by
  obtain ⟨i0, hi, hz0, hz1, hz2⟩ := info_parts Tryd.infoByte
  have hl := h.len
  go_enter Tryd.func23, Tryd.ntmps23
  go_wp2
  go_loopw [3, 8] (fun v i wr => ∃ k : Nat, k ≤ l.length ∧ i = .int .i64 k ∧ wr.ownsRow w.heap.size 5 1 v (Ln.joinL (l.take k)).length (bcells (Ln.joinL (l.take k))) ∧ Below w.heap.size w wr) (fun _ i _ => l.length - (intOf i).toNat)
  case atStart => exact ⟨0, Nat.zero_le _, rfl, World.ownsRow_nil _ _ _ _, Below.refl _ _⟩
  case round =>
    obtain ⟨k, hk, rfl, hown, hnx⟩ := hrel
    have hsz := hnx.size
    by_cases hlt : k < l.length
    · obtain ⟨b, off, rfl, hb0, hc1, hc2⟩ := h.cells k hlt
      have d1 : wr.cell? ⟨b, off + k * 2, none⟩ = some (.string (l[k]'hlt).1) := (hnx.cell (p := ⟨b, off + k * 2, none⟩) hb0).trans hc1
      have d2 : wr.cell? ⟨b, off + k * 2 + 1, none⟩ = some (.bool (l[k]'hlt).2) := (hnx.cell (p := ⟨b, off + k * 2 + 1, none⟩) hb0).trans hc2
      have HT : Hid (Ln.joinL (l.take (k + 1)) = Ln.joinL (l.take k) ++ (l[k]'hlt).1.data.toList ++ (if (l[k]'hlt).2 then [10] else [])) := Ln.joinL_snoc l k hlt
      have hbd : (Ln.joinL (l.take k)).length + (l[k]'hlt).1.size + 1 ≤ 67108864 := by
        have h1 := Ln.joinL_length (l.take k)
        have h2 := Ln.tot_take_le l (k + 1)
        rw [List.take_succ_eq_append_getElem hlt, Ln.tot_append] at h2
        simp only [Ln.tot] at h2
        omega
      generalize l[k]'hlt = x at *
      obtain ⟨x1, x2⟩ := x
      have hbd : (Ln.joinL (l.take k)).length + x1.size + 1 ≤ 67108864 := hbd
      generalize Ln.joinL (l.take k) = J at *
      clear hc1 hc2
      go_wp2_with (at_builtin; refine Lib.wpList_append_own_string _ rfl (.tmp 12) (.tmp 14) 53 9 rfl w.heap.size 5 i0 Tryd.underlying53 Tryd.underlying9 hi hz0 hz1 hz2 _ _ _ rfl (hown.alloc _) x1 rfl ?d1 ?d2 ?d3 ?_)
      case d1 => unfold maxLen; omega
      case d2 => omega
      case d3 => first | omega | (simp; omega)
      intro v1 w1 hown1 hgrow1 _
      have hb1 : Below w.heap.size w w1 := (hnx.alloc hsz _).grown hgrow1 (by simp; omega) (fun g hg => (hown.lt g hg).1)
      have hs1 := hb1.size
      have hc1 : w1.cell? ⟨wr.heap.size, 1, none⟩ = some (.bool x2) := hgrow1.cell (a := ⟨wr.heap.size, 1, none⟩) (v := .bool x2) (by simp) (fun e => by have := (hown.lt _ e.symm).2; exact absurd this (by show ¬ wr.heap.size < wr.heap.size; omega))
      have hown2 : w1.ownsRow w.heap.size 5 1 v1 (J ++ x1.data.toList).length (bcells (J ++ x1.data.toList)) := by rw [bcells_append, List.length_append, Ln.szL]; exact hown1
      have hJ2 : (J ++ x1.data.toList).length + 1 ≤ 67108864 := by rw [List.length_append, Ln.szL]; omega
      generalize J ++ x1.data.toList = J2 at *
      clear hgrow1 hown1 hown d1 d2
      cases x2
      · have HT' : Hid (Ln.joinL (l.take (k + 1)) = J2) := by show _ = _; rw [HT.out]; simp
        go_wp2_with fail
        go_roundw
        case rel => exact ⟨k + 1, by omega, by go_num, by rw [HT'.out]; exact hown2, hb1⟩
        case measure => simp [intOf]; omega
      · have HT' : Hid (Ln.joinL (l.take (k + 1)) = J2 ++ [10]) := by show _ = _; rw [HT.out]; simp
        go_wp2_with (at_builtin; refine wpList_append_own _ rfl (.tmp 18) (.tmp 19) 53 rfl w.heap.size 5 i0 (.int .u8 0) 1 1 Tryd.underlying53 hi hz0 hz1 hz2 rfl (by decide) _ _ _ rfl (hown2.alloc _) ⟨w1.heap.size, 0, none⟩ 1 1 [.int .u8 10] rfl rfl (cell_one_new _ _ _) ?c2 ?c3 ?c4 ?c5 ?_)
        case c2 => first | exact one_ints (k := .u8) _ | rfl | (intro u hu; simp at hu; subst hu; rfl)
        case c3 => unfold maxLen; omega
        case c4 => omega
        case c5 => first | omega | (simp; omega)
        intro v3 w3 hown3 hgr3 _
        have hB3 : Below w.heap.size w w3 := (hb1.alloc hs1 _).grown hgr3 (by simp; omega) (fun g hg => (hown2.lt g hg).1)
        have ho3 : w3.ownsRow w.heap.size 5 1 v3 (J2 ++ [10]).length (bcells (J2 ++ [10])) := by rw [bcells_append, List.length_append]; exact hown3
        clear hgr3 hown3
        go_wp2
        go_roundw
        case rel => exact ⟨k + 1, by omega, by go_num, by rw [HT'.out]; exact ho3, hB3⟩
        case measure => simp [intOf]; omega
    · have htk : l.take k = l := List.take_of_length_le (by omega)
      rw [htk] at hown
      clear htk
      obtain ⟨J, hJ⟩ : ∃ J, Ln.joinL l = J := ⟨_, rfl⟩
      rw [hJ] at hown
      have HJ : Hid (Ln.joinL l = J) := hJ
      clear hJ
      rcases hown.2 with ⟨hv, hn⟩ | ⟨g, cp, cur, hv, _⟩
      · subst hv
        have ho : J = [] := List.eq_nil_of_length_eq_zero hn
        subst ho
        have hcv : (convert 53 9 (.slice none 0 0)).run Tryd.prog wr = .ok (.string ByteArray.empty) wr := run_convert_bytes_nil wr 53 5 Tryd.underlying53 Tryd.underlying5 0 0 9 Tryd.underlying9
        go_wp2_with fail
        go_ret
        rw [HJ.out]
        exact ⟨rfl, hnx⟩
      · subst hv
        have hcv := conv_own hown
        go_wp2_with fail
        go_ret
        rw [HJ.out]
        exact ⟨rfl, hnx⟩

end Go.Proofs.YtpoimhkfajppmaaDoor
