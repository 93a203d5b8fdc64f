/- Slices of lines in a world. What lines.Split, lines.Count, lines.First, and the reference's Split, First and Same answer. -/
import Derived.Test.YtcloljkaojnipaaGreatDoorPgI
import Derived.Test.YtcloljkaojnipaaGreatDoorPgQ
import Derived.Deep.QuietTactic
import Derived.BigQuiet
namespace Go.Proofs.YtcloljkaojnipaaGreatDoor
open Go.RowKit

def lcells (l : List (ByteArray × Bool)) : List Value := l.flatMap fun x => [.string x.1, .bool x.2]
theorem lcells_length (l : List (ByteArray × Bool)) : (lcells l).length = l.length * 2 := by
  induction l with
  | nil => rfl
  | cons x r ih => simp only [lcells, List.flatMap_cons, List.length_append, List.length_cons, List.length_nil] at ih ⊢; omega
theorem lcells_append (a b : List (ByteArray × Bool)) : lcells (a ++ b) = lcells a ++ lcells b := by simp [lcells]
theorem lcells_get : ∀ (l : List (ByteArray × Bool)) (i : Nat) (h : i < l.length), (lcells l)[i * 2]? = some (.string (l[i]'h).1) ∧ (lcells l)[i * 2 + 1]? = some (.bool (l[i]'h).2)
  | [], i, h => absurd h (by simp)
  | x :: r, 0, h => by simp [lcells]
  | x :: r, i + 1, h => by
    have ih := lcells_get r i (by simpa using h)
    have e1 : (i + 1) * 2 = i * 2 + 1 + 1 := by omega
    have e2 : (i + 1) * 2 + 1 = i * 2 + 1 + 1 + 1 := by omega
    have e3 : lcells (x :: r) = .string x.1 :: .bool x.2 :: lcells r := rfl
    rw [e2, e1, e3]
    simpa using ih

/-- The slice at address a, of capacity cap, reads in w as the lines l. -/
structure Lns (w : World) (a : Option Addr) (cap : Nat) (l : List (ByteArray × Bool)) : Prop where
  len : l.length ≤ 67108864
  nil : a = none → cap = 0
  room : l.length ≤ cap
  most : cap ≤ maxLen
  size : ∀ x ∈ l, x.1.size ≤ 67108864
  cells : ∀ i (h : i < l.length), ∃ b off, a = some ⟨b, off, none⟩ ∧ b < w.heap.size ∧ w.cell? ⟨b, off + i * 2, none⟩ = some (.string (l[i]'h).1) ∧ w.cell? ⟨b, off + i * 2 + 1, none⟩ = some (.bool (l[i]'h).2)

theorem Lns.below {w w' : World} {a : Option Addr} {cap : Nat} {l : List (ByteArray × Bool)} (h : Lns w a cap l) (hb : Below w.heap.size w w') : Lns w' a cap l := by
  refine ⟨h.len, h.nil, h.room, h.most, h.size, fun i hi => ?_⟩
  obtain ⟨b, off, e, hlt, h1, h2⟩ := h.cells i hi
  exact ⟨b, off, e, Nat.lt_of_lt_of_le hlt hb.size, (hb.cell (p := ⟨b, off + i * 2, none⟩) hlt).trans h1, (hb.cell (p := ⟨b, off + i * 2 + 1, none⟩) hlt).trans h2⟩
theorem Lns.alloc {w : World} {a : Option Addr} {cap : Nat} {l : List (ByteArray × Bool)} (h : Lns w a cap l) (o : Obj) : Lns (w.alloc o) a cap l := h.below (alloc_below w o)

theorem own_lns {w : World} {base : Nat} {e : TypeId} {v : Value} {l : List (ByteArray × Bool)} (h : w.ownsRow base e 2 v l.length (lcells l)) (hlen : l.length ≤ 67108864) (hsz : ∀ x ∈ l, x.1.size ≤ 67108864) :
    ∃ a cap, v = .slice a l.length cap ∧ Lns w a cap l := by
  rcases h.2 with ⟨hv, hn⟩ | ⟨g, cap, cur, hv, hb, hg, hcap, hmax, hsize, htake⟩
  · exact ⟨none, 0, by rw [hv, hn], hlen, fun _ => rfl, by omega, Nat.zero_le _, hsz, fun i hi => absurd hi (by omega)⟩
  · refine ⟨some ⟨g, 0, none⟩, cap, hv, hlen, fun h => (by cases h), hcap, hmax, hsz, fun i hi => ⟨g, 0, rfl, lt_of_block hg, ?_, ?_⟩⟩
    · subst hv
      rw [Nat.zero_add, h.cellAt (i * 2) (by omega)]; exact (lcells_get l i hi).1
    · subst hv
      rw [Nat.zero_add, h.cellAt (i * 2 + 1) (by omega)]; exact (lcells_get l i hi).2

theorem Tryz.infoLine : (Tryz.prog.info? 66).map (fun i => (i.zero, i.size, i.bytes)) = some (some (.agg #[.string ⟨#[]⟩, .bool false]), 2, 24) := by kernel_rfl
end Go.Proofs.YtcloljkaojnipaaGreatDoor
namespace Go.Proofs.YtcloljkaojnipaaGreatDoor
open Go.RowKit

set_option maxRecDepth 100000 in
set_option maxHeartbeats 1000000 in
theorem split_any (s : ByteArray) (w : World) (hs : s.size ≤ 33554432) :
    Calls Tryz.prog 45 #[.string s] w fun e w' => ∃ v, e = .returned v ∧ w'.ownsRow w.heap.size 66 2 v (Ln.splB s).length (lcells (Ln.splB s)) ∧ Below w.heap.size w w' := by
  obtain ⟨i0, hi, hz0, hz1, hz2⟩ := info_parts Tryz.infoLine
  go_enter Tryz.func45, Tryz.ntmps45
  go_wp2
  go_loopw [3, 4, 8] (fun v f i wr => ∃ (k q : Nat) (done : List (ByteArray × Bool)), q ≤ k ∧ k ≤ s.size ∧ i = .int .i64 k ∧ f = .int .i64 q ∧ done.length ≤ k ∧ Hid (Ln.Apart s done q k) ∧ wr.ownsRow w.heap.size 66 2 v done.length (lcells done) ∧ Below w.heap.size w wr)
    (fun _ _ i _ => s.size - (intOf i).toNat)
  case atStart => exact ⟨0, 0, [], Nat.le_refl _, Nat.zero_le _, rfl, rfl, Nat.le_refl _, Ln.apart_start s, World.ownsRow_nil _ _ _ _, Below.refl _ _⟩
  case round =>
    obtain ⟨k, q, done, hq, hk, rfl, rfl, hd, HA, hown, hnx⟩ := hrel
    have hsz := hnx.size
    by_cases hlt : k < s.size
    · cases hc : ((s[k].toNat : Int) == 10)
      · have HR : Hid (Ln.Apart s done q (k + 1)) := Ln.apart_other hq hlt hc HA.out
        go_wp2
        go_roundw
        case rel => exact ⟨k + 1, q, done, by omega, by omega, by go_num, rfl, by omega, HR, hown, hnx⟩
        case measure => simp [intOf]; omega
      · have HR : Hid (Ln.Apart s (done ++ [(s.extract q k, true)]) (k + 1) (k + 1)) := Ln.apart_lf hlt hc HA.out
        go_wp2_with (at_builtin; refine wpList_append_own _ rfl (.tmp 15) (.tmp 21) 63 rfl w.heap.size 66 i0 (.agg #[.string ⟨#[]⟩, .bool false]) 2 24 Tryz.underlying63 hi hz0 hz1 hz2 rfl (by decide) _ _ _ rfl (hown.alloc _) ⟨wr.heap.size, 0, none⟩ 1 1 [.string (s.extract q k), .bool true] rfl rfl (cell_two_new _ _ _ _) ?c2 ?c3 ?c4 ?c5 ?_)
        case c2 => first | rfl | (intro u hu; simp at hu; rcases hu with rfl | rfl <;> rfl)
        case c3 => unfold maxLen; omega
        case c4 => omega
        case c5 => first | omega | (simp; omega)
        intro v' w1 hown' hgrow _
        have hb1 : Below w.heap.size w w1 := (hnx.alloc hsz _).grown hgrow (by simp; omega) (fun g hg => (hown.lt g hg).1)
        have ho3 : w1.ownsRow w.heap.size 66 2 v' (done ++ [(s.extract q k, true)]).length (lcells (done ++ [(s.extract q k, true)])) := by rw [lcells_append, List.length_append]; exact hown'
        clear hgrow hown' hown
        go_wp2
        go_roundw
        case rel => exact ⟨k + 1, k + 1, done ++ [(s.extract q k, true)], by omega, by omega, by go_num, by go_num, by simp; omega, HR, ho3, hb1⟩
        case measure => simp [intOf]; omega
    · by_cases hqs : q < s.size
      · have HE : Hid (Ln.splB s = done ++ [(s.extract q s.size, false)]) := Ln.apart_end (by omega) HA.out hqs
        have hqi : (q : Int) < (s.size : Int) := by omega
        go_wp2_with (at_builtin; refine wpList_append_own _ rfl (.tmp 30) (.tmp 35) 63 rfl w.heap.size 66 i0 (.agg #[.string ⟨#[]⟩, .bool false]) 2 24 Tryz.underlying63 hi hz0 hz1 hz2 rfl (by decide) _ _ _ rfl (hown.alloc _) ⟨wr.heap.size, 0, none⟩ 1 1 [.string (s.extract q s.size), .bool false] rfl rfl (cell_two_new _ _ _ _) ?c2 ?c3 ?c4 ?c5 ?_)
        case c2 => first | rfl | (intro u hu; simp at hu; rcases hu with rfl | rfl <;> rfl)
        case c3 => unfold maxLen; omega
        case c4 => omega
        case c5 => first | omega | (simp; omega)
        intro v' w1 hown' hgrow _
        have hb1 : Below w.heap.size w w1 := (hnx.alloc hsz _).grown hgrow (by simp; omega) (fun g hg => (hown.lt g hg).1)
        have ho3 : w1.ownsRow w.heap.size 66 2 v' (done ++ [(s.extract q s.size, false)]).length (lcells (done ++ [(s.extract q s.size, false)])) := by rw [lcells_append, List.length_append]; exact hown'
        clear hgrow hown' hown
        go_wp2
        go_ret
        exact ⟨_, rfl, by rw [HE.out]; exact ho3, hb1⟩
      · have HE : Hid (Ln.splB s = done) := Ln.apart_full (by omega) HA.out hqs
        go_wp2_with fail
        go_ret
        exact ⟨_, rfl, by rw [HE.out]; exact hown, hnx⟩

set_option maxRecDepth 100000 in
set_option maxHeartbeats 1000000 in
theorem rsplit_any (s : ByteArray) (w : World) (hs : s.size ≤ 33554432) :
    Calls Tryz.prog 47 #[.string s] w fun e w' => ∃ v, e = .returned v ∧ w'.ownsRow w.heap.size 66 2 v (Ln.splB s).length (lcells (Ln.splB s)) ∧ Below w.heap.size w w' := by
  obtain ⟨i0, hi, hz0, hz1, hz2⟩ := info_parts Tryz.infoLine
  go_enter Tryz.func47, Tryz.ntmps47
  go_wp2
  go_loopw [3, 4, 5] (fun v f i wr => ∃ (k q : Nat) (done : List (ByteArray × Bool)), q ≤ k ∧ k ≤ s.size ∧ i = .int .i64 k ∧ f = .int .i64 q ∧ done.length ≤ k ∧ Hid (Ln.Apart s done q k) ∧ wr.ownsRow w.heap.size 66 2 v done.length (lcells done) ∧ Below w.heap.size w wr)
    (fun _ _ i _ => s.size - (intOf i).toNat)
  case atStart => exact ⟨0, 0, [], Nat.le_refl _, Nat.zero_le _, rfl, rfl, Nat.le_refl _, Ln.apart_start s, World.ownsRow_nil _ _ _ _, Below.refl _ _⟩
  case round =>
    obtain ⟨k, q, done, hq, hk, rfl, rfl, hd, HA, hown, hnx⟩ := hrel
    have hsz := hnx.size
    by_cases hlt : k < s.size
    · cases hc : ((s[k].toNat : Int) == 10)
      · have HR : Hid (Ln.Apart s done q (k + 1)) := Ln.apart_other hq hlt hc HA.out
        go_wp2
        go_roundw
        case rel => exact ⟨k + 1, q, done, by omega, by omega, by go_num, rfl, by omega, HR, hown, hnx⟩
        case measure => simp [intOf]; omega
      · have HR : Hid (Ln.Apart s (done ++ [(s.extract q k, true)]) (k + 1) (k + 1)) := Ln.apart_lf hlt hc HA.out
        go_wp2_with (at_builtin; refine wpList_append_own _ rfl _ _ 63 rfl w.heap.size 66 i0 (.agg #[.string ⟨#[]⟩, .bool false]) 2 24 Tryz.underlying63 hi hz0 hz1 hz2 rfl (by decide) _ _ _ rfl (hown.alloc _) ⟨wr.heap.size, 0, none⟩ 1 1 [.string (s.extract q k), .bool true] rfl rfl (cell_two_new _ _ _ _) ?c2 ?c3 ?c4 ?c5 ?_)
        case c2 => first | rfl | (intro u hu; simp at hu; rcases hu with rfl | rfl <;> rfl)
        case c3 => unfold maxLen; omega
        case c4 => omega
        case c5 => first | omega | (simp; omega)
        intro v' w1 hown' hgrow _
        have hb1 : Below w.heap.size w w1 := (hnx.alloc hsz _).grown hgrow (by simp; omega) (fun g hg => (hown.lt g hg).1)
        have ho3 : w1.ownsRow w.heap.size 66 2 v' (done ++ [(s.extract q k, true)]).length (lcells (done ++ [(s.extract q k, true)])) := by rw [lcells_append, List.length_append]; exact hown'
        clear hgrow hown' hown
        go_wp2
        go_roundw
        case rel => exact ⟨k + 1, k + 1, done ++ [(s.extract q k, true)], by omega, by omega, by go_num, by go_num, by simp; omega, HR, ho3, hb1⟩
        case measure => simp [intOf]; omega
    · by_cases hqs : q < s.size
      · have HE : Hid (Ln.splB s = done ++ [(s.extract q s.size, false)]) := Ln.apart_end (by omega) HA.out hqs
        have hqi : (q : Int) < (s.size : Int) := by omega
        go_wp2_with (at_builtin; refine wpList_append_own _ rfl _ _ 63 rfl w.heap.size 66 i0 (.agg #[.string ⟨#[]⟩, .bool false]) 2 24 Tryz.underlying63 hi hz0 hz1 hz2 rfl (by decide) _ _ _ rfl (hown.alloc _) ⟨wr.heap.size, 0, none⟩ 1 1 [.string (s.extract q s.size), .bool false] rfl rfl (cell_two_new _ _ _ _) ?c2 ?c3 ?c4 ?c5 ?_)
        case c2 => first | rfl | (intro u hu; simp at hu; rcases hu with rfl | rfl <;> rfl)
        case c3 => unfold maxLen; omega
        case c4 => omega
        case c5 => first | omega | (simp; omega)
        intro v' w1 hown' hgrow _
        have hb1 : Below w.heap.size w w1 := (hnx.alloc hsz _).grown hgrow (by simp; omega) (fun g hg => (hown.lt g hg).1)
        have ho3 : w1.ownsRow w.heap.size 66 2 v' (done ++ [(s.extract q s.size, false)]).length (lcells (done ++ [(s.extract q s.size, false)])) := by rw [lcells_append, List.length_append]; exact hown'
        clear hgrow hown' hown
        go_wp2
        go_ret
        exact ⟨_, rfl, by rw [HE.out]; exact ho3, hb1⟩
      · have HE : Hid (Ln.splB s = done) := Ln.apart_full (by omega) HA.out hqs
        go_wp2_with fail
        go_ret
        exact ⟨_, rfl, by rw [HE.out]; exact hown, hnx⟩
end Go.Proofs.YtcloljkaojnipaaGreatDoor
