/- A row of files of the call's own, and an append onto it. A file written into a block. What the reference's find answers: the file at a path, or the error. strings.Compare as this program holds it is the function that the library's contract speaks of. Names held against each other, plain; what the comparison in trees.find answers. Where a name stands among files by rising names: what slices.BinarySearchFunc and trees.find answer. -/
import Derived.Test.YtfbhofomcenabaaGreatDoorTA
import Derived.Deep.DeepAppendWide
import Derived.Laws.OwnMore
import Derived.Tactics
import Derived.Test.YtfbhofomcenabaaGreatDoorStrs
import Derived.Deep.DeepCutAuto
import Derived.Shelf.Lays
import Derived.Shelf.Small.Strs
import Derived.Test.YtfbhofomcenabaaGreatDoorChecked
namespace Go.Proofs.YtfbhofomcenabaaGreatDoor
open Go Go.RowKit

namespace Ft
theorem append_lies {P : Program} (w : World) (base : Nat) (t ty e : TypeId) (i : TypeInfo) (z : Value) (size bytes : Nat) (ht : P.underlying t = some (.slice e)) (hi : P.info? e = some i) (hz : i.zero = some z)
    (hsize : i.size = size) (hby : i.bytes = bytes) (v : Value) (n : Nat) (xs : List Value) (hown : w.ownsRow base e size v n xs)
    (a : Addr) (m c : Nat) (news : List Value) (hl : news.length = m * size) (hnews : ∀ j u, news[j]? = some u → w.cell? (a.add j) = some u) (h1 : ∀ u ∈ news, u.oneCell' = true)
    (h63 : n + m ≤ maxLen) (hbytes : ((n + m) + (n + m) / 4 + 192) * bytes ≤ 281474976710656) {v' : Value} {w' : World}
    (hr : (Builtin.append_ #[t, t] ty #[v, .slice (some a) m c]).run P w = .ok v' w') (hnil : v' = .slice none 0 0 ↔ v = .slice none 0 0 ∧ m = 0) : v'.ownBlock = v.ownBlock ∨ v'.ownBlock = some w.heap.size := by
  subst hsize
  subst hby
  unfold maxLen at h63
  rcases hown.2 with ⟨rfl, rfl⟩ | ⟨g, cap, cur, rfl, hbg, hg, hnc, hcm, hcs, htake⟩
  · by_cases hm : m = 0
    · left
      rw [hnil.2 ⟨rfl, hm⟩]
    · right
      have hb : m * i.bytes ≤ 281474976710656 := Nat.le_trans (Nat.mul_le_mul_right _ (by omega)) hbytes
      have h2 := run_append_nil (P := P) w t ty e i z ht hi hz a m c news hl hnews (by omega) (by omega) hb
      rw [hr] at h2
      cases h2
      rfl
  · by_cases hroom : n + m ≤ cap
    · left
      obtain ⟨w2, h2, _⟩ := run_append_fits (P := P) w base t ty e i i.size ht hi rfl g n cap xs hown a m c news hl hnews h1 hroom
      rw [hr] at h2
      cases h2
      rfl
    · right
      have holds : ∀ j u, xs[j]? = some u → w.cell? ((⟨g, 0, none⟩ : Addr).add j) = some u := hown.cells (g := g) rfl
      have h2 := run_append_grow (P := P) w t ty e i z ht hi hz ⟨g, 0, none⟩ n cap xs hown.1 holds a m c news hl hnews (by omega) (by omega) (growslice_fits_wide (by omega) hbytes)
      rw [hr] at h2
      cases h2
      rfl
theorem wpList_append_far {P : Program} (w : World) {ops : Array Oper} {rest : List Oper} {o : Oper} {a : Act} {Q : Exit → Act → World → Prop} (hgd : o.guard = none) (s x : Operand) (t : TypeId)
    (ho : o.op = .call { callee := .builtin .append, args := #[s, x], argTypes := #[t, t] })
    (base : Nat) (e : TypeId) (i : TypeInfo) (z : Value) (size bytes : Nat) (ht : P.underlying t = some (.slice e)) (hi : P.info? e = some i) (hz : i.zero = some z)
    (hsize : i.size = size) (hby : i.bytes = bytes) (hzs : z.cells.size = size) (hsz : 0 < size)
    (v : Value) (n : Nat) (xs : List Value) (hs : a.eval s = v) (hown : w.ownsRow base e size v n xs)
    (ad : Addr) (m c : Nat) (news : List Value) (hx : a.eval x = .slice (some ad) m c) (hl : news.length = m * size) (hnews : ∀ j u, news[j]? = some u → w.cell? (ad.add j) = some u) (h1 : ∀ u ∈ news, u.oneCell' = true)
    (h63 : n + m ≤ maxLen) (hbytes : ((n + m) + (n + m) / 4 + 192) * bytes ≤ 281474976710656) (hbase : base ≤ w.heap.size)
    (h : ∀ v' w', w'.ownsRow base e size v' (n + m) (xs ++ news) → w.grownBy w' v.ownBlock → (v' = .slice none 0 0 ↔ v = .slice none 0 0 ∧ m = 0) → (v'.ownBlock = v.ownBlock ∨ v'.ownBlock = some w.heap.size) → wpList P ops Q rest (a.put o.dst v') w') :
    wpList P ops Q (o :: rest) a w := by
  refine wpList_plain hgd fun K hK => ?_
  obtain ⟨v', w', hr, h2, h3, h4⟩ := run_append_own_wide (P := P) w base t o.type e i z size bytes ht hi hz hsize hby hzs hsz v n xs hown ad m c news hl hnews h1 h63 hbytes hbase
  have h5 := append_lies w base t o.type e i z size bytes ht hi hz hsize hby v n xs hown ad m c news hl hnews h1 h63 hbytes hr h4
  unfold Oper.wp execOp
  simp only [ho, resolve, invoke, builtin, Sem.run_bind, Sem.run_pure, Result.andThen_ok, List.map_toArray, List.map_cons, List.map_nil, hs, hx, hr]
  exact hK _ _ (h v' w' h2 h3 h4 h5)

theorem add_at (g j : Nat) : (⟨g, 0, none⟩ : Addr).add j = ⟨g, j, none⟩ := by unfold Addr.add; split <;> simp_all
/-- A file's four cells, as a list. -/
def fourL (x : FT × Option Addr × Nat) : List Value := [.string x.1.nm, .int .u8 (x.1.k : Int), .string x.1.d, .slice x.2.1 x.1.kids.length x.2.2]
def fcells (L : List (FT × Option Addr × Nat)) : List Value := L.flatMap fourL
theorem fcells_snoc (L : List (FT × Option Addr × Nat)) (x : FT × Option Addr × Nat) : fcells (L ++ [x]) = fcells L ++ fourL x := by simp [fcells]
theorem fcells_at : ∀ (L : List (FT × Option Addr × Nat)) (i : Nat) (h : i < L.length) (j : Nat), j < 4 → (fcells L)[i * 4 + j]? = (fourL (L[i]))[j]?
  | x :: L, 0, _, j, hj => by
    rw [fcells, List.flatMap_cons, List.getElem?_append_left (by simp [fourL]; omega)]; simp
  | x :: L, i + 1, h, j, hj => by
    rw [fcells, List.flatMap_cons, List.getElem?_append_right (by simp [fourL]; omega)]
    have e : (i + 1) * 4 + j - (fourL x).length = i * 4 + j := by simp [fourL]; omega
    rw [e]
    have := fcells_at L i (by simpa using h) j hj
    rw [fcells] at this
    rw [this]; rfl
/-- A row of the call's own that reads as the trees l, none of which has a part in it. -/
def FRow (w : World) (base : Nat) (v : Value) (l : List FT) : Prop :=
  ∃ L : List (FT × Option Addr × Nat), L.map (·.1) = l ∧ w.ownsRow base 25 4 v L.length (fcells L) ∧ ∀ x ∈ L, Fd w (fun b => base ≤ b ∧ b < w.heap.size ∧ some b ≠ v.ownBlock) x.1 x.2.1 x.2.2
theorem FRow.empty (w : World) (base : Nat) : FRow w base (.slice none 0 0) [] := ⟨[], rfl, World.ownsRow_nil _ _ _ _, fun x h => absurd h (by simp)⟩
theorem FRow.below {w w' : World} {base : Nat} {v : Value} {l : List FT} (h : FRow w base v l) (hb : Below w.heap.size w w') : FRow w' base v l := by
  obtain ⟨L, h1, h2, h3⟩ := h
  exact ⟨L, h1, own_below h2 hb, fun x hx => (h3 x hx).same (fun b hp => hb.block b hp.2.1) (fun b hp => ⟨hp.1, Nat.lt_of_lt_of_le hp.2.1 hb.size, hp.2.2⟩)⟩
theorem FRow.nd {w : World} {base : Nat} {v : Value} {T : FT} (h : FRow w base v T.kids) (hl : T.kids.length ≤ 1048576) : ∃ a cap, v = .slice a T.kids.length cap ∧ Fd w (fun b => base ≤ b ∧ b < w.heap.size) T a cap := by
  obtain ⟨L, h1, h2, h3⟩ := h
  have hn : L.length = T.kids.length := by rw [← h1]; simp
  rcases h2.2 with ⟨hv, hz⟩ | ⟨g, cap, cur, hv, hb, hg, hcap, hmax, hsize, htake⟩
  · refine ⟨none, 0, by rw [hv, ← hn, hz], .mk (fun _ => (none, 0)) hl (fun _ => rfl) (by omega) (Nat.zero_le _) (fun i hi => absurd hi (by omega)) (fun i hi => absurd hi (by omega))⟩
  · have hk : ∀ i (hi : i < T.kids.length), ∃ h' : i < L.length, T.kids[i] = (L[i]).1 := fun i hi => ⟨by omega, by simp only [← h1, List.getElem_map]⟩
    refine ⟨some ⟨g, 0, none⟩, cap, by rw [hv, hn], .mk (fun i => ((L[i]?).map (·.2)).getD (none, 0)) hl (fun h => by cases h) (by omega) hmax (fun i hi => ⟨g, 0, rfl, ⟨hb, lt_of_block hg⟩, ?_⟩) (fun i hi => ?_)⟩
    · obtain ⟨hi', e⟩ := hk i hi
      have key : ∀ j, j < 4 → w.cell? ⟨g, 0 + i * 4 + j, none⟩ = (fourL (L[i]))[j]? := fun j hj => by
        subst hv
        rw [Nat.zero_add, h2.cellAt (i * 4 + j) (by omega)]; exact fcells_at L i hi' j hj
      rw [e]
      simp only [List.getElem?_eq_getElem hi', Option.map_some, Option.getD_some]
      exact ⟨key 0 (by omega), key 1 (by omega), key 2 (by omega), key 3 (by omega)⟩
    · obtain ⟨hi', e⟩ := hk i hi
      rw [e]
      simp only [List.getElem?_eq_getElem hi', Option.map_some, Option.getD_some]
      exact (h3 _ (List.getElem_mem hi')).mono (fun b hp => ⟨hp.1, hp.2.1⟩)
/-- A tree put behind a row of trees. -/
theorem frow_snoc {w w' : World} {base m : Nat} {v v' : Value} {L : List (FT × Option Addr × Nat)} {x : FT × Option Addr × Nat} {o : Obj} (he : ∀ y ∈ L, Fd w (fun b => base ≤ b ∧ b < w.heap.size ∧ some b ≠ v.ownBlock) y.1 y.2.1 y.2.2)
    (hx : Fd w (fun b => base ≤ b ∧ b < w.heap.size ∧ some b ≠ v.ownBlock) x.1 x.2.1 x.2.2) (own' : w'.ownsRow base 25 4 v' (L.length + 1) (fcells L ++ fourL x)) (hgr : (w.alloc o).grownBy w' v.ownBlock) (hat : v'.ownBlock = v.ownBlock ∨ v'.ownBlock = some m) (hm : w.heap.size ≤ m) : FRow w' base v' (L.map (·.1) ++ [x.1]) := by
  refine ⟨L ++ [x], by simp, by rw [fcells_snoc, List.length_append]; exact own', fun y hy => ?_⟩
  have hsz : w.heap.size ≤ w'.heap.size := by have := hgr.size; simp at this; omega
  have key : ∀ b, (base ≤ b ∧ b < w.heap.size ∧ some b ≠ v.ownBlock) → w'.heap[b]? = w.heap[b]? := fun b hp => by
    rw [hgr.block b (by simp; omega) (fun e => hp.2.2 e), heap_alloc_old w o hp.2.1]
  have kq : ∀ b, (base ≤ b ∧ b < w.heap.size ∧ some b ≠ v.ownBlock) → (base ≤ b ∧ b < w'.heap.size ∧ some b ≠ v'.ownBlock) := fun b hp => by
    refine ⟨hp.1, by omega, ?_⟩
    rcases hat with e | e
    · rw [e]; exact hp.2.2
    · rw [e]; intro q; injection q with q; omega
  rcases List.mem_append.1 hy with h | h
  · exact (he y h).same key kq
  · rw [List.mem_singleton.1 h]; exact hx.same key kq
end Ft
theorem Tryz.infoFile : (Tryz.prog.info? 25).map (fun i => (i.zero, i.size, i.bytes)) = some (some (.agg #[.string ⟨#[]⟩, .int .u8 0, .string ⟨#[]⟩, .slice none 0 0]), 4, 64) := by kernel_rfl
end Go.Proofs.YtfbhofomcenabaaGreatDoor
namespace Go.Proofs.YtfbhofomcenabaaGreatDoor
open Go.RowKit

namespace Ft
/-- The zero file. -/
def zF : FT := .mk ⟨#[]⟩ 0 ⟨#[]⟩ []
theorem file_zero (w : World) : FileAt (w.alloc (.cells #[.string ⟨#[]⟩, .int .u8 0, .string ⟨#[]⟩, .slice none 0 0] 25)) w.heap.size zF none 0 := file_new w zF none 0
theorem FileAt.setCell {w : World} {g : Nat} {T : FT} {a : Option Addr} {cap : Nat} (h : FileAt w g T a cap) {ad : Addr} (v : Value) (hne : g ≠ ad.block) : FileAt (w.setCell ad v) g T a cap := by
  unfold FileAt; rw [heap_setCell_other w ad g v hne]; exact h
theorem FileAt.putK {w : World} {g : Nat} {T : FT} {a : Option Addr} {cap : Nat} (h : FileAt w g T a cap) (l : List FT) (a' : Option Addr) (cap' : Nat) : FileAt (w.setCell ⟨g, 3, none⟩ (.slice a' l.length cap')) g (.mk T.nm T.k T.d l) a' cap' :=
  heap_setCell_same w g 3 _ _ (.slice a' l.length cap') h
/-- The world behind a file's being written. -/
abbrev putF (w : World) (g : Nat) (T : FT) (a : Option Addr) (cap : Nat) : World := (((w.setCell ⟨g, 0, none⟩ (.string T.nm)).setCell ⟨g, 1, none⟩ (.int .u8 (T.k : Int))).setCell ⟨g, 2, none⟩ (.string T.d)).setCell ⟨g, 3, none⟩ (.slice a T.kids.length cap)
theorem put4 {w : World} {g : Nat} {t : TypeId} {x0 x1 x2 x3 y0 y1 y2 y3 : Value} (h : w.heap[g]? = some (.cells #[x0, x1, x2, x3] t (0, 0))) : ((((w.setCell ⟨g, 0, none⟩ y0).setCell ⟨g, 1, none⟩ y1).setCell ⟨g, 2, none⟩ y2).setCell ⟨g, 3, none⟩ y3).heap[g]? = some (.cells #[y0, y1, y2, y3] t (0, 0)) := by
  have h0 : (w.setCell ⟨g, 0, none⟩ y0).heap[g]? = some (.cells #[y0, x1, x2, x3] t (0, 0)) := heap_setCell_same _ g 0 _ _ y0 h
  have h1 : ((w.setCell ⟨g, 0, none⟩ y0).setCell ⟨g, 1, none⟩ y1).heap[g]? = some (.cells #[y0, y1, x2, x3] t (0, 0)) := heap_setCell_same _ g 1 _ _ y1 h0
  have h2 : (((w.setCell ⟨g, 0, none⟩ y0).setCell ⟨g, 1, none⟩ y1).setCell ⟨g, 2, none⟩ y2).heap[g]? = some (.cells #[y0, y1, y2, x3] t (0, 0)) := heap_setCell_same _ g 2 _ _ y2 h1
  have h3 : ((((w.setCell ⟨g, 0, none⟩ y0).setCell ⟨g, 1, none⟩ y1).setCell ⟨g, 2, none⟩ y2).setCell ⟨g, 3, none⟩ y3).heap[g]? = some (.cells #[y0, y1, y2, y3] t (0, 0)) := heap_setCell_same _ g 3 _ _ y3 h2
  exact h3
theorem FileAt.putF {w : World} {g : Nat} {T0 : FT} {a0 : Option Addr} {c0 : Nat} (h : FileAt w g T0 a0 c0) (T : FT) (a : Option Addr) (cap : Nat) : FileAt (putF w g T a cap) g T a cap := put4 h
theorem putF_below {w a0 : World} {g B : Nat} {T : FT} {a : Option Addr} {cap : Nat} (h : Below B a0 w) (hB : B ≤ g) : Below B a0 (putF w g T a cap) :=
  (((h.setCell (p := ⟨g, 0, none⟩) hB _).setCell (p := ⟨g, 1, none⟩) hB _).setCell (p := ⟨g, 2, none⟩) hB _).setCell (p := ⟨g, 3, none⟩) hB _
theorem putF_other {w : World} {g b : Nat} {T : FT} {a : Option Addr} {cap : Nat} (hne : b ≠ g) : (putF w g T a cap).heap[b]? = w.heap[b]? := by
  rw [heap_setCell_other _ ⟨g, 3, none⟩ b _ hne, heap_setCell_other _ ⟨g, 2, none⟩ b _ hne, heap_setCell_other _ ⟨g, 1, none⟩ b _ hne, heap_setCell_other _ ⟨g, 0, none⟩ b _ hne]
theorem four_new (w : World) (T : FT) (a : Option Addr) (cap : Nat) : ∀ j u, (fourL (T, a, cap))[j]? = some u → (w.alloc (.cells (fdA T a cap) 25)).cell? ((⟨w.heap.size, 0, none⟩ : Addr).add j) = some u := by
  intro j u hu
  have h := (file_new w T a cap).four
  rw [add_at]
  match j, hu with
  | 0, hu => rw [← hu]; exact h.c0
  | 1, hu => rw [← hu]; exact h.c1
  | 2, hu => rw [← hu]; exact h.c2
  | 3, hu => rw [← hu]; exact h.c3
  | j + 4, hu => cases hu
theorem four_one (x : FT × Option Addr × Nat) : ∀ u, u ∈ fourL x → u.oneCell' = true := by
  intro u hu
  simp only [fourL, List.mem_cons, List.not_mem_nil, or_false] at hu
  rcases hu with rfl | rfl | rfl | rfl <;> rfl
end Ft
end Go.Proofs.YtfbhofomcenabaaGreatDoor
namespace Go.Proofs.YtfbhofomcenabaaGreatDoor
open Go.RowKit

namespace Ft
/-- The first of some files that has a name. -/
def kidN : List FT → ByteArray → Option FT
  | [], _ => none
  | y :: r, x => if (y.nm.toList == x.toList) = true then some y else kidN r x
theorem kid_hit {l : List FT} {x : ByteArray} {i : Nat} (h : i < l.length) (hx : ((l[i]).nm.toList == x.toList) = true) : kidN (l.drop i) x = some (l[i]) := by
  rw [List.drop_eq_getElem_cons h, kidN, if_pos hx]
theorem kid_miss {l : List FT} {x : ByteArray} {i : Nat} (h : i < l.length) (hx : ((l[i]).nm.toList == x.toList) = false) : kidN (l.drop i) x = kidN (l.drop (i + 1)) x := by
  rw [List.drop_eq_getElem_cons h, kidN, if_neg (by rw [hx]; simp)]
/-- Where a path leads in a tree, or the error. -/
def lookR : FT → List ByteArray → Sum Nat FT
  | T, [] => .inr T
  | T, x :: r => if T.k = 1 then match kidN T.kids x with
    | none => .inl 31
    | some y => lookR y r
    else .inl 32
theorem look_end {T : FT} {p : List ByteArray} {k : Nat} (h : p.length ≤ k) : lookR T (p.drop k) = .inr T := by rw [List.drop_eq_nil_of_le h, lookR]
theorem look_nodir {T : FT} {p : List ByteArray} {k : Nat} (h : k < p.length) (hk : T.k ≠ 1) : lookR T (p.drop k) = .inl 32 := by rw [List.drop_eq_getElem_cons h, lookR, if_neg hk]
theorem look_none {T : FT} {p : List ByteArray} {k : Nat} (h : k < p.length) (hk : T.k = 1) (hn : kidN T.kids (p[k]) = none) : lookR T (p.drop k) = .inl 31 := by rw [List.drop_eq_getElem_cons h, lookR, if_pos hk, hn]
theorem look_on {T U : FT} {p : List ByteArray} {k : Nat} (h : k < p.length) (hk : T.k = 1) (hn : kidN T.kids (p[k]) = some U) : lookR T (p.drop k) = lookR U (p.drop (k + 1)) := by rw [List.drop_eq_getElem_cons h, lookR, if_pos hk, hn]
/-- The file at hand lies in its block, a zero one behind it. -/
def FnAt (w : World) (U : FT) (a : Option Addr) (c : Nat) (wx : World) : Prop := FileAt wx w.heap.size U a c ∧ Fd wx (· < w.heap.size) U a c ∧ FileAt wx (w.heap.size + 1) zF none 0 ∧ Below w.heap.size w wx
theorem FnAt.alloc {w : World} {U : FT} {a : Option Addr} {c : Nat} {wx : World} (h : FnAt w U a c wx) (o : Obj) : FnAt w U a c (wx.alloc o) :=
  ⟨h.1.alloc o, h.2.1.under ((Below.refl _ _).alloc h.2.2.2.size o), h.2.2.1.alloc o, h.2.2.2.alloc h.2.2.2.size o⟩
/-- Another file takes its place. -/
theorem FnAt.put {w : World} {U U' : FT} {a a' : Option Addr} {c c' : Nat} {wx : World} (h : FnAt w U a c wx) (h' : Fd wx (· < w.heap.size) U' a' c') : FnAt w U' a' c' (putF wx w.heap.size U' a' c') :=
  ⟨h.1.putF U' a' c', h'.under (putF_below (Below.refl _ wx) (Nat.le_refl _)), (putF_other (by omega)).trans h.2.2.1, putF_below h.2.2.2 (Nat.le_refl _)⟩
/-- What find answers. -/
def FindIs (r : Sum Nat FT) (U : FT) (code : Int) : Prop := match r with
  | .inl n => U = zF ∧ code = (n : Nat)
  | .inr T => U = T ∧ code = 0
def FndE (w : World) (r : Sum Nat FT) (e : Ending) (w' : World) : Prop := ∃ U a c code, e = .returned (.tuple #[fdV U a c, .int .i64 code]) ∧ Hid (FindIs r U code ∧ Fd w' (· < w.heap.size) U a c ∧ Below w.heap.size w w')
theorem results_fil {fn : Func} {p q : Tmp} (h : fn.results = #[.cell p 25, .tmp q]) (tmps : Array Value) (w : World) (g : Nat) (T : FT) (a : Option Addr) (c : Nat)
    (hp : tmps.getD p undef = .pointer (some ⟨g, 0, none⟩)) (hg : FileAt w g T a c) : (results fn tmps).run Tryz.prog w = .ok (.tuple #[fdV T a c, tmps.getD q undef]) w := by
  have hp' : tmps[p]?.getD undef = .pointer (some ⟨g, 0, none⟩) := by simpa using hp
  have hl := run_loadVar_row (P := Tryz.prog) w g 25 25 (fdA T a c) (0, 0) _ hg Tryz.underlying25 rfl (by kernel_rfl)
  simp [results, h, hp', asAddr, hl, fdV]
theorem fd_zero (w : World) (P : Nat → Prop) : Fd w P zF none 0 := .mk (fun _ => (none, 0)) (by simp [zF, FT.kids]) (fun _ => rfl) (by simp [zF, FT.kids]) (Nat.zero_le _) (fun i h => absurd h (by simp [zF, FT.kids])) (fun i h => absurd h (by simp [zF, FT.kids]))
/-- The end: a file is put into the answer's block. -/
theorem fn_end {w : World} {U V : FT} {a b : Option Addr} {c d : Nat} {wx : World} (h : FnAt w U a c wx) (hV : Fd wx (· < w.heap.size) V b d) : FileAt (putF wx (w.heap.size + 1) V b d) (w.heap.size + 1) V b d ∧ Fd (putF wx (w.heap.size + 1) V b d) (· < w.heap.size) V b d ∧ Below w.heap.size w (putF wx (w.heap.size + 1) V b d) :=
  ⟨h.2.2.1.putF V b d, hV.under (putF_below (Below.refl _ wx) (by omega)), putF_below h.2.2.2 (by omega)⟩
end Ft

set_option maxRecDepth 100000 in
set_option maxHeartbeats 4000000 in
theorem rfind_any (T : Ft.FT) (p : List ByteArray) (a ap : Option Addr) (cap cp : Nat) (w : World) (hN : Ft.Fd w (· < w.heap.size) T a cap) (hP : Strs w ap cp p) :
    Calls Tryz.prog 49 #[Ft.fdV T a cap, .slice ap p.length cp] w (Ft.FndE w (Ft.lookR T p)) := by
  obtain ⟨W, hW⟩ : ∃ W, W = (w.alloc (.cells (Ft.fdA T a cap) 25)).alloc (.cells #[.string ⟨#[]⟩, .int .u8 0, .string ⟨#[]⟩, .slice none 0 0] 25) := ⟨_, rfl⟩
  have hB : Below w.heap.size w W := by rw [hW]; exact ((Below.refl _ _).alloc (Nat.le_refl _) _).alloc (by simp) _
  have hF : Ft.FnAt w T a cap W := by
    refine ⟨?_, hN.under hB, ?_, hB⟩
    · rw [hW]; exact (Ft.file_new w T a cap).alloc _
    · rw [hW]
      have := Ft.file_zero (w.alloc (.cells (Ft.fdA T a cap) 25))
      simpa using this
  have HW : Hid (W = (w.alloc (.cells (Ft.fdA T a cap) 25)).alloc (.cells #[.string ⟨#[]⟩, .int .u8 0, .string ⟨#[]⟩, .slice none 0 0] 25)) := hW
  have HF : Hid (Ft.FnAt w T a cap W) := hF
  have HP : Hid (Strs w ap cp p) := hP
  have hpl := hP.len
  have hTl := hN.room.1
  clear hW hB hF hN hP
  simp only [Ft.fdA] at HW
  simp only [Ft.fdV, Ft.fdA]
  go_enter Tryz.func49, Tryz.ntmps49
  go_upto_region 1 with fail
  rw [← HW.out]
  clear HW
  go_wp2_with fail
  go_loopw [13] (fun iv wr => ∃ (k : Nat) (U : Ft.FT) (b : Option Addr) (c : Nat), k ≤ p.length ∧ iv = .int .i64 (k : Int) ∧ Hid (Ft.FnAt w U b c wr) ∧ Hid (Ft.lookR T p = Ft.lookR U (p.drop k))) (fun iv _ => p.length - (intOf iv).toNat)
  case atStart => exact ⟨0, T, a, cap, Nat.zero_le _, rfl, HF, rfl⟩
  case round =>
    clear HF
    obtain ⟨k, U, b, c, hk, rfl, HF, HL⟩ := hrel
    obtain ⟨q0, q1, q2, q3⟩ := HF.out.1.four
    have z0 : wr.cell? ⟨w.heap.size + 1, 0, none⟩ = some (.string ⟨#[]⟩) := HF.out.2.2.1.four.c0
    have z1 : wr.cell? ⟨w.heap.size + 1, 1, none⟩ = some (.int .u8 0) := HF.out.2.2.1.four.c1
    have z2 : wr.cell? ⟨w.heap.size + 1, 2, none⟩ = some (.string ⟨#[]⟩) := HF.out.2.2.1.four.c2
    have z3 : wr.cell? ⟨w.heap.size + 1, 3, none⟩ = some (.slice none 0 0) := HF.out.2.2.1.four.c3
    have zf := HF.out.2.2.1.frozen
    have hsz := HF.out.2.2.2.size
    have hUl := HF.out.2.1.room.1
    by_cases hlt : k < p.length
    · obtain ⟨bp, op, rfl, hbp, hcp⟩ := (HP.out.below HF.out.2.2.2).cells k hlt
      have i1 : (k : Int) < (p.length : Int) := by omega
      have HN0 : Hid (U.k ≠ 1 → Ft.lookR T p = .inl 32) := fun q => HL.out.trans (Ft.look_nodir hlt q)
      have HN1 : Hid (U.k = 1 → Ft.kidN U.kids (p[k]) = none → Ft.lookR T p = .inl 31) := fun q r => HL.out.trans (Ft.look_none hlt q r)
      have HN2 : Hid (∀ V, U.k = 1 → Ft.kidN U.kids (p[k]) = some V → Ft.lookR T p = Ft.lookR V (p.drop (k + 1))) := fun V q r => HL.out.trans (Ft.look_on hlt q r)
      clear HL
      generalize p[k] = x at *
      cases hd : ((U.k : Int) != 1)
      · have hd1 : U.k = 1 := by simp at hd; omega
        clear z0 z1 z2 z3 zf
        go_wp2_with fail
        go_loopw [8, 10, 24] (fun v8 _ jv wr => ∃ j : Nat, j ≤ U.kids.length ∧ jv = .int .i64 (j : Int) ∧ v8 = .bool false ∧ Hid (Ft.FnAt w U b c wr) ∧ Hid (Ft.kidN U.kids x = Ft.kidN (U.kids.drop j) x)) (fun _ _ jv _ => U.kids.length - (intOf jv).toNat)
        case atStart => exact ⟨0, Nat.zero_le _, rfl, rfl, HF, rfl⟩
        case round =>
          obtain ⟨j, hj, rfl, rfl, HG, HK⟩ := hrel
          clear q0 q1 q2 q3 HF hsz
          have hsz := HG.out.2.2.2.size
          by_cases hjl : j < U.kids.length
          · obtain ⟨bk, ok, a', c', rfl, hbk, h4, hsub⟩ := HG.out.2.1.kid hjl
            obtain ⟨r0, r1, r2, r3⟩ := h4
            have j1 : (j : Int) < (U.kids.length : Int) := by omega
            have HKh : Hid (((U.kids[j]).nm.toList == x.toList) = true → Ft.kidN U.kids x = some (U.kids[j])) := fun q => HK.out.trans (Ft.kid_hit hjl q)
            have HKm : Hid (((U.kids[j]).nm.toList == x.toList) = false → Ft.kidN U.kids x = Ft.kidN (U.kids.drop (j + 1)) x) := fun q => HK.out.trans (Ft.kid_miss hjl q)
            have hsl := hsub.room.1
            have HS : Hid _ := hsub
            clear hsub HK
            generalize U.kids[j] = V at *
            have HG2 : Hid (Ft.FnAt w U (some ⟨bk, ok, none⟩) c (wr.alloc (.cells (Ft.fdA V a' c') 25))) := HG.out.alloc _
            have HS2 : Hid (Ft.Fd (wr.alloc (.cells (Ft.fdA V a' c') 25)) (· < w.heap.size) V a' c') := HS.out.under ((Below.refl _ _).alloc hsz _)
            cases hx : (V.nm.toList == x.toList)
            · have HE : Hid (Ft.kidN U.kids x = Ft.kidN (U.kids.drop (j + 1)) x) := HKm.out hx
              go_wp2_with fail
              go_roundw
              case rel => exact ⟨j + 1, by omega, by go_num, rfl, HG2, HE⟩
              case measure => simp [intOf]; omega
            · have HE : Hid (Ft.lookR T p = Ft.lookR V (p.drop (k + 1))) := HN2.out V hd1 (HKh.out hx)
              have HF2 : Hid (Ft.FnAt w V a' c' (Ft.putF (wr.alloc (.cells (Ft.fdA V a' c') 25)) w.heap.size V a' c')) := HG2.out.put HS2.out
              obtain ⟨q0, q1, q2, q3⟩ := HG2.out.1.four
              have qf := HG2.out.1.frozen
              simp only [Ft.fdA] at q0 q1 q2 q3 qf
              clear HN0 HN1 HN2 HKh HKm HG HG2 HS HS2
              go_wp2_with fail
              go_roundw
              case rel => first | exact ⟨k + 1, V, a', c', by omega, by go_num, HF2, HE⟩ | exact ⟨_, ⟨k + 1, V, a', c', by omega, by go_num, HF2, HE⟩, rfl⟩ | exact ⟨_, _, ⟨k + 1, V, a', c', by omega, by go_num, HF2, HE⟩, rfl⟩ | exact ⟨_, _, _, ⟨k + 1, V, a', c', by omega, by go_num, HF2, HE⟩, rfl⟩ | exact ⟨_, _, _, _, ⟨k + 1, V, a', c', by omega, by go_num, HF2, HE⟩, rfl⟩ | exact ⟨_, _, _, _, _, ⟨k + 1, V, a', c', by omega, by go_num, HF2, HE⟩, rfl⟩ | exact ⟨_, _, _, _, _, _, ⟨k + 1, V, a', c', by omega, by go_num, HF2, HE⟩, rfl⟩ | exact ⟨_, _, _, _, _, _, _, ⟨k + 1, V, a', c', by omega, by go_num, HF2, HE⟩, rfl⟩ | exact ⟨_, _, _, _, _, _, _, _, ⟨k + 1, V, a', c', by omega, by go_num, HF2, HE⟩, rfl⟩ | exact ⟨_, _, _, _, _, _, _, _, _, ⟨k + 1, V, a', c', by omega, by go_num, HF2, HE⟩, rfl⟩ | exact ⟨_, _, _, _, _, _, _, _, _, _, ⟨k + 1, V, a', c', by omega, by go_num, HF2, HE⟩, rfl⟩ | exact ⟨_, _, _, _, _, _, _, _, _, _, _, ⟨k + 1, V, a', c', by omega, by go_num, HF2, HE⟩, rfl⟩ | exact ⟨_, _, _, _, _, _, _, _, _, _, _, _, ⟨k + 1, V, a', c', by omega, by go_num, HF2, HE⟩, rfl⟩ | exact ⟨_, _, _, _, _, _, _, _, _, _, _, _, _, ⟨k + 1, V, a', c', by omega, by go_num, HF2, HE⟩, rfl⟩ | exact ⟨_, _, _, _, _, _, _, _, _, _, _, _, _, _, ⟨k + 1, V, a', c', by omega, by go_num, HF2, HE⟩, rfl⟩ | exact ⟨_, _, _, _, _, _, _, _, _, _, _, _, _, _, _, ⟨k + 1, V, a', c', by omega, by go_num, HF2, HE⟩, rfl⟩ | exact ⟨_, _, _, _, _, _, _, _, _, _, _, _, _, _, _, _, ⟨k + 1, V, a', c', by omega, by go_num, HF2, HE⟩, rfl⟩ | exact ⟨_, _, _, _, _, _, _, _, _, _, _, _, _, _, _, _, _, ⟨k + 1, V, a', c', by omega, by go_num, HF2, HE⟩, rfl⟩ | exact ⟨_, _, _, _, _, _, _, _, _, _, _, _, _, _, _, _, _, _, ⟨k + 1, V, a', c', by omega, by go_num, HF2, HE⟩, rfl⟩ | exact ⟨_, _, _, _, _, _, _, _, _, _, _, _, _, _, _, _, _, _, _, ⟨k + 1, V, a', c', by omega, by go_num, HF2, HE⟩, rfl⟩ | exact ⟨_, _, _, _, _, _, _, _, _, _, _, _, _, _, _, _, _, _, _, _, ⟨k + 1, V, a', c', by omega, by go_num, HF2, HE⟩, rfl⟩ | exact ⟨_, _, _, _, _, _, _, _, _, _, _, _, _, _, _, _, _, _, _, _, _, ⟨k + 1, V, a', c', by omega, by go_num, HF2, HE⟩, rfl⟩ | exact ⟨_, _, _, _, _, _, _, _, _, _, _, _, _, _, _, _, _, _, _, _, _, _, ⟨k + 1, V, a', c', by omega, by go_num, HF2, HE⟩, rfl⟩ | exact ⟨_, _, _, _, _, _, _, _, _, _, _, _, _, _, _, _, _, _, _, _, _, _, _, ⟨k + 1, V, a', c', by omega, by go_num, HF2, HE⟩, rfl⟩ | exact ⟨_, _, _, _, _, _, _, _, _, _, _, _, _, _, _, _, _, _, _, _, _, _, _, _, ⟨k + 1, V, a', c', by omega, by go_num, HF2, HE⟩, rfl⟩ | exact ⟨_, _, _, _, _, _, _, _, _, _, _, _, _, _, _, _, _, _, _, _, _, _, _, _, _, ⟨k + 1, V, a', c', by omega, by go_num, HF2, HE⟩, rfl⟩ | exact ⟨_, _, _, _, _, _, _, _, _, _, _, _, _, _, _, _, _, _, _, _, _, _, _, _, _, _, ⟨k + 1, V, a', c', by omega, by go_num, HF2, HE⟩, rfl⟩ | exact ⟨_, _, _, _, _, _, _, _, _, _, _, _, _, _, _, _, _, _, _, _, _, _, _, _, _, _, _, ⟨k + 1, V, a', c', by omega, by go_num, HF2, HE⟩, rfl⟩ | exact ⟨_, _, _, _, _, _, _, _, _, _, _, _, _, _, _, _, _, _, _, _, _, _, _, _, _, _, _, _, ⟨k + 1, V, a', c', by omega, by go_num, HF2, HE⟩, rfl⟩ | exact ⟨_, _, _, _, _, _, _, _, _, _, _, _, _, _, _, _, _, _, _, _, _, _, _, _, _, _, _, _, _, ⟨k + 1, V, a', c', by omega, by go_num, HF2, HE⟩, rfl⟩ | exact ⟨_, _, _, _, _, _, _, _, _, _, _, _, _, _, _, _, _, _, _, _, _, _, _, _, _, _, _, _, _, _, ⟨k + 1, V, a', c', by omega, by go_num, HF2, HE⟩, rfl⟩ | exact ⟨_, _, _, _, _, _, _, _, _, _, _, _, _, _, _, _, _, _, _, _, _, _, _, _, _, _, _, _, _, _, _, ⟨k + 1, V, a', c', by omega, by go_num, HF2, HE⟩, rfl⟩ | exact ⟨_, _, _, _, _, _, _, _, _, _, _, _, _, _, _, _, _, _, _, _, _, _, _, _, _, _, _, _, _, _, _, _, ⟨k + 1, V, a', c', by omega, by go_num, HF2, HE⟩, rfl⟩ | exact ⟨_, _, _, _, _, _, _, _, _, _, _, _, _, _, _, _, _, _, _, _, _, _, _, _, _, _, _, _, _, _, _, _, _, ⟨k + 1, V, a', c', by omega, by go_num, HF2, HE⟩, rfl⟩
              case measure => simp [intOf]; omega
          · have HE : Hid (Ft.lookR T p = .inl 31) := by
              refine HN1.out hd1 ?_
              rw [HK.out, List.drop_eq_nil_of_le (by omega)]; rfl
            have j1 : ¬ (j : Int) < (U.kids.length : Int) := by omega
            have z0 : wr.cell? ⟨w.heap.size + 1, 0, none⟩ = some (.string ⟨#[]⟩) := HG.out.2.2.1.four.c0
            have z1 : wr.cell? ⟨w.heap.size + 1, 1, none⟩ = some (.int .u8 0) := HG.out.2.2.1.four.c1
            have z2 : wr.cell? ⟨w.heap.size + 1, 2, none⟩ = some (.string ⟨#[]⟩) := HG.out.2.2.1.four.c2
            have z3 : wr.cell? ⟨w.heap.size + 1, 3, none⟩ = some (.slice none 0 0) := HG.out.2.2.1.four.c3
            have zf := HG.out.2.2.1.frozen
            clear HN0 HN1 HN2
            go_wp2_with fail
            have K := Ft.fn_end HG.out (Ft.fd_zero wr _)
            refine bodyPost_ret (Ft.results_fil rfl _ _ (w.heap.size + 1) Ft.zF none 0 rfl K.1) rfl ?_
            rw [HE.out]
            exact ⟨Ft.zF, none, 0, 31, rfl, ⟨⟨rfl, rfl⟩, K.2.1, K.2.2⟩⟩
      · have HE : Hid (Ft.lookR T p = .inl 32) := HN0.out (by simp at hd; omega)
        clear HN0 HN1 HN2
        go_wp2_with fail
        have K := Ft.fn_end HF.out (Ft.fd_zero wr _)
        refine bodyPost_ret (Ft.results_fil rfl _ _ (w.heap.size + 1) Ft.zF none 0 rfl K.1) rfl ?_
        rw [HE.out]
        exact ⟨Ft.zF, none, 0, 32, rfl, ⟨⟨rfl, rfl⟩, K.2.1, K.2.2⟩⟩
    · have HE : Hid (Ft.lookR T p = .inr U) := HL.out.trans (Ft.look_end (by omega))
      have i1 : ¬ (k : Int) < (p.length : Int) := by omega
      go_wp2_with fail
      have K := Ft.fn_end HF.out HF.out.2.1
      refine bodyPost_ret (Ft.results_fil rfl _ _ (w.heap.size + 1) U b c rfl K.1) rfl ?_
      rw [HE.out]
      exact ⟨U, b, c, 0, rfl, ⟨⟨rfl, rfl⟩, K.2.1, K.2.2⟩⟩
end Go.Proofs.YtfbhofomcenabaaGreatDoor
namespace Go.Proofs
open Go.Shelf
def Tryz.lays106_ren : Go.Shelf.Ren := ⟨fun | 106 => 120 | 213 => 145 | 265 => 164 | n => n, fun | 9 => 9 | 3 => 3 | n => n, fun | n => n⟩
theorem Tryz.lays106 : Go.Proofs.Lays.n106 Tryz.prog Tryz.lays106_ren := {
  mixed := by kernel_rfl
  f106 := Tryz.func120.trans (congrArg some (by kernel_rfl))
  f213 := Tryz.func145.trans (congrArg some (by kernel_rfl))
  f265 := Tryz.func164.trans (congrArg some (by kernel_rfl))
  t3 := Tryz.underlying3
  a3 := Tryz.isAgg3
  z3 := Tryz.sizeOf3
  v3 := Tryz.zeroValue3
  t9 := Tryz.underlying9
  a9 := Tryz.isAgg9
  z9 := Tryz.sizeOf9
  v9 := Tryz.zeroValue9 }
end Go.Proofs
namespace Go.Proofs.YtfbhofomcenabaaGreatDoor
open Go.RowKit

namespace Ft
theorem cmp_less : ∀ (x y : List UInt8), Op.bytesLess x y = decide (Lib.compareBytes x y < 0)
  | [], [] => by simp [Op.bytesLess, Lib.compareBytes]
  | [], _ :: _ => by simp [Op.bytesLess, Lib.compareBytes]
  | _ :: _, [] => by simp [Op.bytesLess, Lib.compareBytes]
  | a :: x, b :: y => by
    rw [Op.bytesLess, Lib.compareBytes, cmp_less x y]
    by_cases h1 : a < b
    · rw [if_pos h1, decide_eq_true h1]; simp
    · rw [if_neg h1, decide_eq_false h1, Bool.false_or]
      by_cases h2 : b < a
      · rw [if_pos h2]
        have hne : (a == b) = false := by rw [beq_eq_false_iff_ne]; rintro rfl; exact UInt8.lt_irrefl _ h2
        rw [hne]; simp
      · rw [if_neg h2]
        have he : a = b := UInt8.le_antisymm (UInt8.not_lt.1 h2) (UInt8.not_lt.1 h1)
        subst he
        simp
theorem cmp_zero : ∀ (x y : List UInt8), Lib.compareBytes x y = 0 ↔ x = y
  | [], [] => by simp [Lib.compareBytes]
  | [], _ :: _ => by simp [Lib.compareBytes]
  | _ :: _, [] => by simp [Lib.compareBytes]
  | a :: x, b :: y => by
    rw [Lib.compareBytes]
    by_cases h1 : a < b
    · rw [if_pos h1]
      constructor
      · intro h; cases h
      · intro h; injection h with h _; subst h; exact absurd h1 (UInt8.lt_irrefl _)
    · rw [if_neg h1]
      by_cases h2 : b < a
      · rw [if_pos h2]
        constructor
        · intro h; cases h
        · intro h; injection h with h _; subst h; exact absurd h2 (UInt8.lt_irrefl _)
      · rw [if_neg h2, cmp_zero x y]
        have he : a = b := UInt8.le_antisymm (UInt8.not_lt.1 h2) (UInt8.not_lt.1 h1)
        subst he
        simp
theorem less_trans : ∀ (x y z : List UInt8), Op.bytesLess x y = true → Op.bytesLess y z = true → Op.bytesLess x z = true
  | x, [], z, h, _ => by cases x <;> simp [Op.bytesLess] at h
  | x, _ :: _, [], _, h => by simp [Op.bytesLess] at h
  | [], _ :: _, _ :: _, _, _ => by simp [Op.bytesLess]
  | a :: x, b :: y, c :: z, h1, h2 => by
    simp only [Op.bytesLess, Bool.or_eq_true, Bool.and_eq_true, decide_eq_true_eq, beq_iff_eq] at h1 h2 ⊢
    rcases h1 with h1 | ⟨rfl, h1⟩
    · rcases h2 with h2 | ⟨rfl, h2⟩
      · exact .inl (UInt8.lt_trans h1 h2)
      · exact .inl h1
    · rcases h2 with h2 | ⟨rfl, h2⟩
      · exact .inl h2
      · exact .inr ⟨rfl, less_trans x y z h1 h2⟩
end Ft

set_option maxRecDepth 100000 in
set_option maxHeartbeats 400000 in
theorem find1_any (V : Ft.FT) (a : Option Addr) (c : Nat) (x : ByteArray) (w : World) :
    Calls Tryz.prog 119 #[Ft.fdV V a c, .string x] w fun e w' => e = .returned (.int .i64 (Lib.compareBytes V.nm.data.toList x.data.toList)) ∧ Below w.heap.size w w' := by
  have HC : Hid (∀ w1, Calls Tryz.prog 120 #[.string V.nm, .string x] w1 fun e w' => e = .returned (.int .i64 (Lib.compareBytes V.nm.data.toList x.data.toList)) ∧ w' = w1) := fun w1 => Any.strings_Compare Tryz.lays106 V.nm x w1
  have HB : Hid (Below w.heap.size w (w.alloc (.cells (Ft.fdA V a c) 25))) := (Below.refl _ _).alloc (Nat.le_refl _) _
  simp only [Ft.fdV, Ft.fdA] at HB ⊢
  go_enter Tryz.func119, Tryz.ntmps119
  go_wp2_with (go_at_call 120; refine (HC.out _).mono ?_; rintro e w1 ⟨rfl, rfl⟩)
  go_ret
  exact ⟨rfl, HB.out⟩
end Go.Proofs.YtfbhofomcenabaaGreatDoor
namespace Go.Proofs.YtfbhofomcenabaaGreatDoor
open Go.RowKit

namespace Ft
/-- Does a name stand ahead of another? -/
def ltN (V : FT) (x : ByteArray) : Bool := Op.bytesLess V.nm.toList x.toList
/-- Files by rising names. -/
def RisN (l : List FT) : Prop := ∀ i j (hi : i < l.length) (hj : j < l.length), i < j → ltN (l[i]) (l[j]).nm = true
/-- A place that parts the names ahead of x from the others. -/
def PosN (l : List FT) (x : ByteArray) (q : Nat) : Prop := q ≤ l.length ∧ (∀ i (h : i < l.length), i < q → ltN (l[i]) x = true) ∧ ∀ i (h : i < l.length), q ≤ i → ltN (l[i]) x = false
theorem cmpN (V : FT) (x : ByteArray) : decide (Lib.compareBytes V.nm.data.toList x.data.toList < 0) = ltN V x := by
  unfold ltN; rw [cmp_less, Pl.toL, Pl.toL]
theorem rise_down {l : List FT} (h : RisN l) {x : ByteArray} {i j : Nat} (hi : i < l.length) (hj : j < l.length) (hij : i ≤ j) (hx : ltN (l[j]) x = true) : ltN (l[i]) x = true := by
  rcases Nat.lt_or_ge i j with q | q
  · exact less_trans _ _ _ (h i j hi hj q) hx
  · obtain rfl : i = j := by omega
    exact hx
theorem rise_up {l : List FT} (h : RisN l) {x : ByteArray} {i j : Nat} (hi : i < l.length) (hj : j < l.length) (hij : i ≤ j) (hx : ltN (l[i]) x = false) : ltN (l[j]) x = false := by
  cases hj2 : ltN (l[j]) x
  · rfl
  · rw [rise_down h hi hj hij hj2] at hx; cases hx
/-- What the search answers: the place, and whether the name stands there. -/
def atN (l : List FT) (x : ByteArray) (q : Nat) : Bool := match l[q]? with
  | some V => V.nm.toList == x.toList
  | none => false
end Ft
theorem calls_find1 (args : Array Value) (wx : World) : (callFunc 119 args).run Tryz.prog wx = .ok (.enter 119 args) wx := by go_simp

set_option maxRecDepth 100000 in
set_option maxHeartbeats 2000000 in
theorem bsf_any (T : Ft.FT) (x : ByteArray) (a : Option Addr) (cap : Nat) (w : World) (hN : Ft.Fd w (· < w.heap.size) T a cap) (hr : Ft.RisN T.kids) :
    Calls Tryz.prog 118 #[.slice a T.kids.length cap, .string x, .func (.func 119) #[] #[]] w fun e w' => ∃ q : Nat, e = .returned (.tuple #[.int .i64 (q : Int), .bool (Ft.atN T.kids x q)]) ∧ Ft.PosN T.kids x q ∧ Below w.heap.size w w' := by
  have hl := hN.room.1
  have HN : Hid _ := hN
  have HR : Hid _ := hr
  have hcf := calls_find1
  clear hN hr
  go_enter Tryz.func118, Tryz.ntmps118
  go_wp2_with fail
  go_loopw [9, 10, 11] (fun iv jv _ wr => ∃ i j : Nat, i ≤ j ∧ j ≤ T.kids.length ∧ iv = .int .i64 (i : Int) ∧ jv = .int .i64 (j : Int) ∧ Hid (∀ t (h : t < T.kids.length), t < i → Ft.ltN (T.kids[t]) x = true) ∧ Hid (∀ t (h : t < T.kids.length), j ≤ t → Ft.ltN (T.kids[t]) x = false) ∧ Hid (Below w.heap.size w wr)) (fun iv jv _ _ => (intOf jv).toNat - (intOf iv).toNat)
  case atStart => exact ⟨0, T.kids.length, Nat.zero_le _, Nat.le_refl _, rfl, rfl, fun t h q => absurd q (by omega), fun t h q => absurd q (by omega), Below.refl _ _⟩
  case round =>
    obtain ⟨i, j, hij, hj, rfl, rfl, HI, HJ, HB⟩ := hrel
    by_cases hlt : i < j
    · obtain ⟨h, hh⟩ : ∃ h, h = (i + j) / 2 := ⟨_, rfl⟩
      have hhi : i ≤ h := by omega
      have hhj : h < j := by omega
      have i1 : (i : Int) < (j : Int) := by omega
      have e2 : ((i : Int) + (j : Int)) / 2 = (h : Int) := by omega
      have hhl : h < T.kids.length := by omega
      clear hh
      obtain ⟨b, off, a', c', rfl, hbB, h4, hk⟩ := (HN.out.under HB.out).kid hhl
      obtain ⟨r0, r1, r2, r3⟩ := h4
      have h1 : (h : Int) < (T.kids.length : Int) := by omega
      have HUp : Hid (Ft.ltN (T.kids[h]) x = true → ∀ t (q : t < T.kids.length), t < h + 1 → Ft.ltN (T.kids[t]) x = true) := fun e t q1 q2 => Ft.rise_down HR.out q1 hhl (by omega) e
      have HDn : Hid (Ft.ltN (T.kids[h]) x = false → ∀ t (q : t < T.kids.length), h ≤ t → Ft.ltN (T.kids[t]) x = false) := fun e t q1 q2 => Ft.rise_up HR.out hhl q1 q2 e
      have hkl := hk.room.1
      have HCm : Hid (decide (Lib.compareBytes (T.kids[h]).nm.data.toList x.data.toList < 0) = Ft.ltN (T.kids[h]) x) := Ft.cmpN _ _
      have C1 := find1_any (T.kids[h]) a' c' x wr
      clear hk
      generalize T.kids[h] = V at *
      generalize Lib.compareBytes V.nm.data.toList x.data.toList = cv at *
      simp only [Ft.fdV, Ft.fdA] at C1
      cases hc : Ft.ltN V x
      · have c0 : decide (cv < 0) = false := HCm.out.trans hc
        have c0' : ¬ cv < 0 := of_decide_eq_false c0
        have HJ2 : Hid _ := HDn.out hc
        go_wp2_with fail
        refine C1.mono ?_
        rintro e w1 ⟨rfl, b1⟩
        have HB1 : Hid (Below w.heap.size w w1) := HB.out.trans (b1.mono HB.out.size)
        clear b1
        go_wp2_with fail
        go_roundw
        case rel => exact ⟨i, h, by omega, by omega, rfl, rfl, HI, HJ2, HB1⟩
        case measure => simp [intOf]; omega
      · have c0 : decide (cv < 0) = true := HCm.out.trans hc
        have c0' : cv < 0 := of_decide_eq_true c0
        have HI2 : Hid _ := HUp.out hc
        go_wp2_with fail
        refine C1.mono ?_
        rintro e w1 ⟨rfl, b1⟩
        have HB1 : Hid (Below w.heap.size w w1) := HB.out.trans (b1.mono HB.out.size)
        clear b1
        go_wp2_with fail
        go_roundw
        case rel => exact ⟨h + 1, j, by omega, by omega, by go_num, rfl, HI2, HJ, HB1⟩
        case measure => simp [intOf]; omega
    · obtain rfl : i = j := by omega
      have i1 : ¬ (i : Int) < (i : Int) := by omega
      have HPos : Hid (Ft.PosN T.kids x i) := ⟨hj, HI.out, HJ.out⟩
      by_cases hil : i < T.kids.length
      · obtain ⟨b, off, a', c', rfl, hbB, h4, hk⟩ := (HN.out.under HB.out).kid hil
        obtain ⟨r0, r1, r2, r3⟩ := h4
        have h1 : (i : Int) < (T.kids.length : Int) := by omega
        have h1' : decide ((i : Int) < (T.kids.length : Int)) = true := decide_eq_true h1
        have HA0 : Hid (Ft.atN T.kids x i = ((T.kids[i]).nm.toList == x.toList)) := by show _ = _; unfold Ft.atN; rw [List.getElem?_eq_getElem hil]
        have HCz : Hid (Lib.compareBytes (T.kids[i]).nm.data.toList x.data.toList = 0 ↔ (T.kids[i]).nm.data.toList = x.data.toList) := Ft.cmp_zero _ _
        have C1 := find1_any (T.kids[i]) a' c' x wr
        have hkl := hk.room.1
        clear hk
        generalize T.kids[i] = V at *
        have HAt : Hid (Ft.atN T.kids x i = (Lib.compareBytes V.nm.data.toList x.data.toList == 0)) := by
          show _ = _
          rw [HA0.out, Pl.toL, Pl.toL]
          cases q : (Lib.compareBytes V.nm.data.toList x.data.toList == 0)
          · rw [beq_eq_false_iff_ne] at q ⊢
            exact fun e => q (HCz.out.2 e)
          · rw [beq_iff_eq] at q ⊢
            exact HCz.out.1 q
        clear HA0 HCz
        generalize Lib.compareBytes V.nm.data.toList x.data.toList = cv at *
        simp only [Ft.fdV, Ft.fdA] at C1
        go_wp2_with fail
        refine C1.mono ?_
        rintro e w1 ⟨rfl, b1⟩
        have HB1 : Hid (Below w.heap.size w w1) := HB.out.trans (b1.mono HB.out.size)
        clear b1
        go_wp2_with fail
        go_ret2
        exact ⟨i, by rw [HAt.out]; rfl, HPos.out, HB1.out⟩
      · have h1 : ¬ (i : Int) < (T.kids.length : Int) := by omega
        have h1' : decide ((i : Int) < (T.kids.length : Int)) = false := decide_eq_false h1
        have HAt : Hid (Ft.atN T.kids x i = false) := by show _ = _; unfold Ft.atN; rw [List.getElem?_eq_none (by omega)]
        go_wp2_with fail
        go_ret2
        exact ⟨i, by rw [HAt.out]; rfl, HPos.out, HB.out⟩
end Go.Proofs.YtfbhofomcenabaaGreatDoor
