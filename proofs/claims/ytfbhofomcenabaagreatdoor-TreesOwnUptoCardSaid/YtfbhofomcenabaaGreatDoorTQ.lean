/- Rows of files as they are told, of the call's own. Slices of lines in a world. What lines.Split answers. -/
import Derived.Test.YtfbhofomcenabaaGreatDoorFBld
import Derived.Test.YtfbhofomcenabaaGreatDoorTF
import Derived.Test.YtfbhofomcenabaaGreatDoorTJ
import Derived.Deep.QuietTactic
import Derived.BigQuiet
namespace Go.Proofs.YtfbhofomcenabaaGreatDoor
open Go.RowKit

namespace Ft
abbrev Te := Td × Option Addr × Nat
/-- An element's three cells. -/
def tdL (y : Te) : List Value := [.slice y.2.1 y.1.1.length y.2.2, .int .u8 (y.1.2.1 : Int), .string y.1.2.2]
def tcells (L : List Te) : List Value := L.flatMap tdL
theorem tcells_snoc (L : List Te) (y : Te) : tcells (L ++ [y]) = tcells L ++ tdL y := by simp [tcells]
theorem tdL_one (y : Te) : ∀ u ∈ tdL y, u.oneCell' = true := by
  intro u hu
  simp only [tdL, List.mem_cons, List.not_mem_nil, or_false] at hu
  rcases hu with rfl | rfl | rfl <;> rfl
theorem tcells_at : ∀ (L : List Te) (i : Nat) (h : i < L.length) (j : Nat), j < 3 → (tcells L)[i * 3 + j]? = (tdL (L[i]))[j]?
  | [], i, h, _, _ => absurd h (by simp)
  | x :: r, 0, _, j, hj => by
    simp only [tcells, List.flatMap_cons, Nat.zero_mul, Nat.zero_add, List.getElem_cons_zero]
    rw [List.getElem?_append_left (by simp [tdL]; omega)]
  | x :: r, i + 1, h, j, hj => by
    have ih := tcells_at r i (by simpa using h) j hj
    simp only [tcells, List.flatMap_cons, List.getElem_cons_succ] at ih ⊢
    rw [List.getElem?_append_right (by simp [tdL]; omega), ← ih]
    congr 1
    simp [tdL]; omega
theorem td_cells (w : World) (x : Td) (a : Option Addr) (c : Nat) : ∀ j u, (tdL (x, a, c))[j]? = some u → (w.alloc (.cells (tdA x a c) 83)).cell? ((⟨w.heap.size, 0, none⟩ : Addr).add j) = some u := by
  intro j u hu
  have h := td_new w x a c
  rw [add_at]
  match j, hu with
  | 0, hu => rw [← hu]; exact h.c0
  | 1, hu => rw [← hu]; exact h.c1
  | 2, hu => rw [← hu]; exact h.c2
  | j + 3, hu => cases hu
/-- A row of the call's own that reads as files as they are told. -/
def TRow (w : World) (base : Nat) (v : Value) (l : List Td) : Prop :=
  ∃ L : List Te, L.map (·.1) = l ∧ w.ownsRow base 83 3 v L.length (tcells L) ∧ ∀ y ∈ L, Strs w y.2.1 y.2.2 y.1.1 ∧ Ofs base v.ownBlock y.2.1 y.1.1
theorem TRow.empty (w : World) (base : Nat) : TRow w base (.slice none 0 0) [] := ⟨[], rfl, World.ownsRow_nil _ _ _ _, fun x h => absurd h (by simp)⟩
theorem TRow.below {w w' : World} {base : Nat} {v : Value} {l : List Td} (h : TRow w base v l) (hb : Below w.heap.size w w') : TRow w' base v l := by
  obtain ⟨L, h1, h2, h3⟩ := h
  exact ⟨L, h1, own_below h2 hb, fun y hy => ⟨(h3 y hy).1.below hb, (h3 y hy).2⟩⟩
theorem TRow.own {w : World} {base : Nat} {v : Value} {l : List Td} (h : TRow w base v l) : ∀ k, v.ownBlock = some k → k < w.heap.size := by
  obtain ⟨L, _, ox, _⟩ := h
  exact fun k hk => (ox.lt k hk).2
/-- An element put behind a row. -/
theorem trow_snoc {w w' : World} {base m : Nat} {v v' : Value} {L : List Te} {x : Te} {o : Obj} (he : ∀ y ∈ L, Strs w y.2.1 y.2.2 y.1.1 ∧ Ofs base v.ownBlock y.2.1 y.1.1) (hx : Strs w x.2.1 x.2.2 x.1.1 ∧ Ofs base v.ownBlock x.2.1 x.1.1)
    (own' : w'.ownsRow base 83 3 v' (L.length + 1) (tcells L ++ tdL x)) (hgr : (w.alloc o).grownBy w' v.ownBlock) (hat : v'.ownBlock = v.ownBlock ∨ v'.ownBlock = some m) (hm : w.heap.size ≤ m) : TRow w' base v' (L.map (·.1) ++ [x.1]) := by
  refine ⟨L ++ [x], by simp, by rw [tcells_snoc, List.length_append]; exact own', fun y hy => ?_⟩
  have hk : Strs w y.2.1 y.2.2 y.1.1 ∧ Ofs base v.ownBlock y.2.1 y.1.1 := by
    rcases List.mem_append.1 hy with h | h
    · exact he y h
    · rw [List.mem_singleton.1 h]; exact hx
  refine ⟨strs_grown (hk.1.below ((Below.refl _ _).alloc (Nat.le_refl _) o)) hgr (fun hl ad e => (hk.2 hl ad e).2), fun hl ad e => ⟨(hk.2 hl ad e).1, ?_⟩⟩
  rcases hat with q | q
  · rw [q]; exact (hk.2 hl ad e).2
  · rw [q]
    intro z
    have h1 := strs_lt hk.1 hl ad e
    have h2 := Option.some.inj z
    omega
/-- It reads so. -/
theorem TRow.tds {w : World} {base : Nat} {v : Value} {l : List Td} (h : TRow w base v l) (hl : l.length ≤ 1048576) : ∃ a cap, v = .slice a l.length cap ∧ Tds w a cap l := by
  obtain ⟨L, h1, h2, h3⟩ := h
  have hn : L.length = l.length := by rw [← h1]; simp
  rcases h2.2 with ⟨hv, hz⟩ | ⟨g, cap, cur, hv, hb, hg, hcap, hmax, hsize, htake⟩
  · exact ⟨none, 0, by rw [hv, ← hn, hz], hl, fun _ => rfl, by omega, Nat.zero_le _, fun i hi => absurd hi (by omega)⟩
  · refine ⟨some ⟨g, 0, none⟩, cap, by rw [hv, hn], hl, fun e => (by cases e), by omega, hmax, fun i hi => ?_⟩
    have hi' : i < L.length := by omega
    have e : l[i] = (L[i]).1 := by simp only [← h1, List.getElem_map]
    have key : ∀ j, j < 3 → w.cell? ⟨g, 0 + i * 3 + j, none⟩ = (tdL (L[i]))[j]? := fun j hj => by
      subst hv
      rw [Nat.zero_add, h2.cellAt (i * 3 + j) (by omega)]; exact tcells_at L i hi' j hj
    rw [e]
    exact ⟨g, 0, (L[i]).2.1, (L[i]).2.2, rfl, lt_of_block hg, key 0 (by omega), key 1 (by omega), key 2 (by omega), (h3 _ (List.getElem_mem hi')).1⟩
/-- A line's path has at most 64 names. -/
theorem line_len (s : List UInt8) (x : Td) : (lineR s x).1.1.length ≤ 64 := by
  unfold lineR
  split
  · simp [td0]
  · split
    · simp [td0]
    · split
      · simp [td0]
      · rename_i p hp
        have hl : p.length ≤ 64 := by
          unfold namR at hp
          split at hp
          · rename_i h
            cases hp; exact h.2.1
          · cases hp
        split
        · simp [td0]
        · split
          · simp [td0]
          · split
            · simp [td0]
            · exact hl
end Ft
theorem Tryz.infoTold : (Tryz.prog.info? 83).map (fun i => (i.zero, i.size, i.bytes)) = some (some (.agg #[.slice none 0 0, .int .u8 0, .string ⟨#[]⟩]), 3, 48) := by kernel_rfl
/-- The results: a struct in a cell, a number in a slot, a struct in a cell. -/
theorem results_ctc_at {fn : Func} {p u q : Tmp} {ty tz : TypeId} (h : fn.results = #[.cell p ty, .tmp u, .cell q tz]) (tmps : Array Value) (w : World) (g g' : Nat) (t t' : TypeId) (cs cs' : Array Value) (fr fr' : Nat × Nat) (fs fs' : Array Field)
    (hp : tmps.getD p undef = .pointer (some ⟨g, 0, none⟩)) (hg : w.heap[g]? = some (.cells cs t fr))
    (hu : Tryz.prog.underlying ty = some (.struct fs)) (hi : (Tryz.prog.info? ty).map (·.size) = some cs.size)
    (hp' : tmps.getD q undef = .pointer (some ⟨g', 0, none⟩)) (hg' : w.heap[g']? = some (.cells cs' t' fr'))
    (hu' : Tryz.prog.underlying tz = some (.struct fs')) (hi' : (Tryz.prog.info? tz).map (·.size) = some cs'.size) {v : Value} (hv : tmps.getD u undef = v) :
    (results fn tmps).run Tryz.prog w = .ok (.tuple #[.agg cs, v, .agg cs']) w := by
  have e1 : tmps[p]?.getD undef = .pointer (some ⟨g, 0, none⟩) := by simpa using hp
  have e2 : tmps[u]?.getD undef = v := by simpa using hv
  have e3 : tmps[q]?.getD undef = .pointer (some ⟨g', 0, none⟩) := by simpa using hp'
  simp [results, h, e1, e2, e3, asAddr, run_loadVar_row w g t ty cs fr _ hg hu rfl hi, run_loadVar_row w g' t' tz cs' fr' _ hg' hu' rfl hi', Sem.run_bind, Result.andThen]
end Go.Proofs.YtfbhofomcenabaaGreatDoor
namespace Go.Proofs.YtfbhofomcenabaaGreatDoor
open Go.RowKit

def lcells (l : List (ByteArray × Bool)) : List Value := l.flatMap fun x => [.string x.1, .bool x.2]
theorem lcells_length (l : List (ByteArray × Bool)) : (lcells l).length = l.length * 2 := by
  induction l with
  | nil => rfl
  | cons x r ih => simp only [lcells, List.flatMap_cons, List.length_append, List.length_cons, List.length_nil] at ih ⊢; omega
theorem lcells_append (a b : List (ByteArray × Bool)) : lcells (a ++ b) = lcells a ++ lcells b := by simp [lcells]
theorem lcells_get : ∀ (l : List (ByteArray × Bool)) (i : Nat) (h : i < l.length), (lcells l)[i * 2]? = some (.string (l[i]'h).1) ∧ (lcells l)[i * 2 + 1]? = some (.bool (l[i]'h).2)
  | [], i, h => absurd h (by simp)
  | x :: r, 0, h => by simp [lcells]
  | x :: r, i + 1, h => by
    have ih := lcells_get r i (by simpa using h)
    have e1 : (i + 1) * 2 = i * 2 + 1 + 1 := by omega
    have e2 : (i + 1) * 2 + 1 = i * 2 + 1 + 1 + 1 := by omega
    have e3 : lcells (x :: r) = .string x.1 :: .bool x.2 :: lcells r := rfl
    rw [e2, e1, e3]
    simpa using ih

/-- The slice at address a, of capacity cap, reads in w as the lines l. -/
structure Lns (w : World) (a : Option Addr) (cap : Nat) (l : List (ByteArray × Bool)) : Prop where
  len : l.length ≤ 67108864
  nil : a = none → cap = 0
  room : l.length ≤ cap
  most : cap ≤ maxLen
  size : ∀ x ∈ l, x.1.size ≤ 67108864
  cells : ∀ i (h : i < l.length), ∃ b off, a = some ⟨b, off, none⟩ ∧ b < w.heap.size ∧ w.cell? ⟨b, off + i * 2, none⟩ = some (.string (l[i]'h).1) ∧ w.cell? ⟨b, off + i * 2 + 1, none⟩ = some (.bool (l[i]'h).2)

theorem Lns.below {w w' : World} {a : Option Addr} {cap : Nat} {l : List (ByteArray × Bool)} (h : Lns w a cap l) (hb : Below w.heap.size w w') : Lns w' a cap l := by
  refine ⟨h.len, h.nil, h.room, h.most, h.size, fun i hi => ?_⟩
  obtain ⟨b, off, e, hlt, h1, h2⟩ := h.cells i hi
  exact ⟨b, off, e, Nat.lt_of_lt_of_le hlt hb.size, (hb.cell (p := ⟨b, off + i * 2, none⟩) hlt).trans h1, (hb.cell (p := ⟨b, off + i * 2 + 1, none⟩) hlt).trans h2⟩
theorem Lns.alloc {w : World} {a : Option Addr} {cap : Nat} {l : List (ByteArray × Bool)} (h : Lns w a cap l) (o : Obj) : Lns (w.alloc o) a cap l := h.below (alloc_below w o)

theorem own_lns {w : World} {base : Nat} {e : TypeId} {v : Value} {l : List (ByteArray × Bool)} (h : w.ownsRow base e 2 v l.length (lcells l)) (hlen : l.length ≤ 67108864) (hsz : ∀ x ∈ l, x.1.size ≤ 67108864) :
    ∃ a cap, v = .slice a l.length cap ∧ Lns w a cap l := by
  rcases h.2 with ⟨hv, hn⟩ | ⟨g, cap, cur, hv, hb, hg, hcap, hmax, hsize, htake⟩
  · exact ⟨none, 0, by rw [hv, hn], hlen, fun _ => rfl, by omega, Nat.zero_le _, hsz, fun i hi => absurd hi (by omega)⟩
  · refine ⟨some ⟨g, 0, none⟩, cap, hv, hlen, fun h => (by cases h), hcap, hmax, hsz, fun i hi => ⟨g, 0, rfl, lt_of_block hg, ?_, ?_⟩⟩
    · subst hv
      rw [Nat.zero_add, h.cellAt (i * 2) (by omega)]; exact (lcells_get l i hi).1
    · subst hv
      rw [Nat.zero_add, h.cellAt (i * 2 + 1) (by omega)]; exact (lcells_get l i hi).2

theorem Tryz.infoLine : (Tryz.prog.info? 87).map (fun i => (i.zero, i.size, i.bytes)) = some (some (.agg #[.string ⟨#[]⟩, .bool false]), 2, 24) := by kernel_rfl
end Go.Proofs.YtfbhofomcenabaaGreatDoor
namespace Go.Proofs.YtfbhofomcenabaaGreatDoor
open Go.RowKit

set_option maxRecDepth 100000 in
set_option maxHeartbeats 1000000 in
theorem split_any (s : ByteArray) (w : World) (hs : s.size ≤ 1099511627776) :
    Calls Tryz.prog 43 #[.string s] w fun e w' => ∃ v, e = .returned v ∧ w'.ownsRow w.heap.size 87 2 v (Ln.splB s).length (lcells (Ln.splB s)) ∧ Below w.heap.size w w' := by
  obtain ⟨i0, hi, hz0, hz1, hz2⟩ := info_parts Tryz.infoLine
  go_enter Tryz.func43, Tryz.ntmps43
  go_wp2
  go_loopw [3, 4, 8] (fun v f i wr => ∃ (k q : Nat) (done : List (ByteArray × Bool)), q ≤ k ∧ k ≤ s.size ∧ i = .int .i64 k ∧ f = .int .i64 q ∧ done.length ≤ k ∧ Hid (Ln.Apart s done q k) ∧ wr.ownsRow w.heap.size 87 2 v done.length (lcells done) ∧ Below w.heap.size w wr)
    (fun _ _ i _ => s.size - (intOf i).toNat)
  case atStart => exact ⟨0, 0, [], Nat.le_refl _, Nat.zero_le _, rfl, rfl, Nat.le_refl _, Ln.apart_start s, World.ownsRow_nil _ _ _ _, Below.refl _ _⟩
  case round =>
    obtain ⟨k, q, done, hq, hk, rfl, rfl, hd, HA, hown, hnx⟩ := hrel
    have hsz := hnx.size
    by_cases hlt : k < s.size
    · cases hc : ((s[k].toNat : Int) == 10)
      · have HR : Hid (Ln.Apart s done q (k + 1)) := Ln.apart_other hq hlt hc HA.out
        go_wp2
        go_roundw
        case rel => exact ⟨k + 1, q, done, by omega, by omega, by go_num, rfl, by omega, HR, hown, hnx⟩
        case measure => simp [intOf]; omega
      · have HR : Hid (Ln.Apart s (done ++ [(s.extract q k, true)]) (k + 1) (k + 1)) := Ln.apart_lf hlt hc HA.out
        go_wp2_with (at_builtin; refine wpList_append_own _ rfl (.tmp 15) (.tmp 21) 84 rfl w.heap.size 87 i0 (.agg #[.string ⟨#[]⟩, .bool false]) 2 24 Tryz.underlying84 hi hz0 hz1 hz2 rfl (by decide) _ _ _ rfl (hown.alloc _) ⟨wr.heap.size, 0, none⟩ 1 1 [.string (s.extract q k), .bool true] rfl rfl (cell_two_new _ _ _ _) ?c2 ?c3 ?c4 ?c5 ?_)
        case c2 => first | rfl | (intro u hu; simp at hu; rcases hu with rfl | rfl <;> rfl)
        case c3 => unfold maxLen; omega
        case c4 => omega
        case c5 => first | omega | (simp; omega)
        intro v' w1 hown' hgrow _
        have hb1 : Below w.heap.size w w1 := (hnx.alloc hsz _).grown hgrow (by simp; omega) (fun g hg => (hown.lt g hg).1)
        have ho3 : w1.ownsRow w.heap.size 87 2 v' (done ++ [(s.extract q k, true)]).length (lcells (done ++ [(s.extract q k, true)])) := by rw [lcells_append, List.length_append]; exact hown'
        clear hgrow hown' hown
        go_wp2
        go_roundw
        case rel => exact ⟨k + 1, k + 1, done ++ [(s.extract q k, true)], by omega, by omega, by go_num, by go_num, by simp; omega, HR, ho3, hb1⟩
        case measure => simp [intOf]; omega
    · by_cases hqs : q < s.size
      · have HE : Hid (Ln.splB s = done ++ [(s.extract q s.size, false)]) := Ln.apart_end (by omega) HA.out hqs
        have hqi : (q : Int) < (s.size : Int) := by omega
        go_wp2_with (at_builtin; refine wpList_append_own _ rfl (.tmp 30) (.tmp 35) 84 rfl w.heap.size 87 i0 (.agg #[.string ⟨#[]⟩, .bool false]) 2 24 Tryz.underlying84 hi hz0 hz1 hz2 rfl (by decide) _ _ _ rfl (hown.alloc _) ⟨wr.heap.size, 0, none⟩ 1 1 [.string (s.extract q s.size), .bool false] rfl rfl (cell_two_new _ _ _ _) ?c2 ?c3 ?c4 ?c5 ?_)
        case c2 => first | rfl | (intro u hu; simp at hu; rcases hu with rfl | rfl <;> rfl)
        case c3 => unfold maxLen; omega
        case c4 => omega
        case c5 => first | omega | (simp; omega)
        intro v' w1 hown' hgrow _
        have hb1 : Below w.heap.size w w1 := (hnx.alloc hsz _).grown hgrow (by simp; omega) (fun g hg => (hown.lt g hg).1)
        have ho3 : w1.ownsRow w.heap.size 87 2 v' (done ++ [(s.extract q s.size, false)]).length (lcells (done ++ [(s.extract q s.size, false)])) := by rw [lcells_append, List.length_append]; exact hown'
        clear hgrow hown' hown
        go_wp2
        go_ret
        exact ⟨_, rfl, by rw [HE.out]; exact ho3, hb1⟩
      · have HE : Hid (Ln.splB s = done) := Ln.apart_full (by omega) HA.out hqs
        go_wp2_with fail
        go_ret
        exact ⟨_, rfl, by rw [HE.out]; exact hown, hnx⟩
end Go.Proofs.YtfbhofomcenabaaGreatDoor
