/- slices.SortFunc over paths as this program holds it is the function that the library's contracts speak of. A row of paths, sorted by paths.Compare: what slices.SortFunc leaves. slices.SortFunc of a row of paths by paths.Compare: the same paths, rising. slices.SortFunc of no path: nothing turns. What paths.Cover answers: the cover of its list, in memory of its own. -/
import Derived.Shelf.SlSortCmp.Whole1
import Derived.Shelf.SlGeneric
import Derived.Ground.SlsfProg
import Derived.Test.YtcloljkaojnipaaGreatDoorChecked
import Derived.Test.YtcloljkaojnipaaGreatDoorPgF
import Derived.Deep.Slices
import Derived.Shelf.SlSortCmp.NoneTotal
import Derived.Laws.AppendOwnNone
namespace Go.Proofs
open Go.Shelf
def Tryz.sortP_ren : Go.Shelf.Ren := ⟨fun | 6 => 57 | 15 => 86 | 14 => 85 | 28 => 110 | 29 => 111 | 20 => 102 | 21 => 103 | 22 => 104 | 23 => 105 | 24 => 106 | 25 => 107 | 26 => 108 | 27 => 109 | 46 => 127 | 47 => 128 | 48 => 129 | 49 => 130 | 50 => 131 | 57 => 148 | n => n, fun | 22 => 22 | 24 => 26 | 25 => 85 | 3 => 3 | 39 => 115 | 0 => 0 | 53 => 129 | 55 => 131 | 4 => 4 | 46 => 123 | 45 => 122 | 50 => 103 | 5 => 5 | 9 => 9 | 66 => 143 | 70 => 50 | 76 => 163 | 77 => 164 | n => n, fun | n => n⟩
theorem Tryz.sortP : Go.Proofs.SlLaysF.n6 Tryz.prog Tryz.sortP_ren := {
  mixed := by kernel_rfl
  f6 := ⟨Tryz.f57.name, by decide, Tryz.func57.trans (congrArg some (by kernel_rfl))⟩
  f14 := ⟨Tryz.f85.name, by decide, Tryz.func85.trans (congrArg some (by kernel_rfl))⟩
  f15 := Tryz.func86.trans (congrArg some (by kernel_rfl))
  f20 := ⟨Tryz.f102.name, by decide, Tryz.func102.trans (congrArg some (by kernel_rfl))⟩
  f21 := ⟨Tryz.f103.name, by decide, Tryz.func103.trans (congrArg some (by kernel_rfl))⟩
  f22 := ⟨Tryz.f104.name, by decide, Tryz.func104.trans (congrArg some (by kernel_rfl))⟩
  f23 := ⟨Tryz.f105.name, by decide, Tryz.func105.trans (congrArg some (by kernel_rfl))⟩
  f24 := ⟨Tryz.f106.name, by decide, Tryz.func106.trans (congrArg some (by kernel_rfl))⟩
  f25 := ⟨Tryz.f107.name, by decide, Tryz.func107.trans (congrArg some (by kernel_rfl))⟩
  f26 := ⟨Tryz.f108.name, by decide, Tryz.func108.trans (congrArg some (by kernel_rfl))⟩
  f27 := ⟨Tryz.f109.name, by decide, Tryz.func109.trans (congrArg some (by kernel_rfl))⟩
  f28 := Tryz.func110.trans (congrArg some (by kernel_rfl))
  f29 := Tryz.func111.trans (congrArg some (by kernel_rfl))
  f46 := ⟨Tryz.f127.name, by decide, Tryz.func127.trans (congrArg some (by kernel_rfl))⟩
  f47 := Tryz.func128.trans (congrArg some (by kernel_rfl))
  f48 := Tryz.func129.trans (congrArg some (by kernel_rfl))
  f49 := ⟨Tryz.f130.name, by decide, Tryz.func130.trans (congrArg some (by kernel_rfl))⟩
  f50 := ⟨Tryz.f131.name, by decide, Tryz.func131.trans (congrArg some (by kernel_rfl))⟩
  f57 := ⟨Tryz.f148.name, by decide, Tryz.func148.trans (congrArg some (by kernel_rfl))⟩
  t0 := Tryz.underlying0
  a0 := Tryz.isAgg0
  z0 := Tryz.sizeOf0
  v0 := Tryz.zeroValue0
  t3 := Tryz.underlying3
  a3 := Tryz.isAgg3
  z3 := Tryz.sizeOf3
  v3 := Tryz.zeroValue3
  t4 := Tryz.underlying4
  a4 := Tryz.isAgg4
  z4 := Tryz.sizeOf4
  v4 := Tryz.zeroValue4
  t5 := Tryz.underlying5
  a5 := Tryz.isAgg5
  z5 := Tryz.sizeOf5
  v5 := Tryz.zeroValue5
  t9 := Tryz.underlying9
  a9 := Tryz.isAgg9
  z9 := Tryz.sizeOf9
  v9 := Tryz.zeroValue9
  t22 := Tryz.underlying22
  a22 := Tryz.isAgg22
  z22 := Tryz.sizeOf22
  v22 := Tryz.zeroValue22
  a24 := Tryz.isAgg26
  z24 := Tryz.sizeOf26
  t25 := Tryz.underlying85
  a25 := Tryz.isAgg85
  z25 := Tryz.sizeOf85
  v25 := Tryz.zeroValue85
  t39 := Tryz.underlying115
  a39 := Tryz.isAgg115
  z39 := Tryz.sizeOf115
  v39 := Tryz.zeroValue115
  t45 := Tryz.underlying122
  a45 := Tryz.isAgg122
  z45 := Tryz.sizeOf122
  v45 := Tryz.zeroValue122
  t46 := Tryz.underlying123
  a46 := Tryz.isAgg123
  z46 := Tryz.sizeOf123
  v46 := Tryz.zeroValue123
  t50 := Tryz.underlying103
  a50 := Tryz.isAgg103
  z50 := Tryz.sizeOf103
  v50 := Tryz.zeroValue103
  t53 := Tryz.underlying129
  a53 := Tryz.isAgg129
  z53 := Tryz.sizeOf129
  v53 := Tryz.zeroValue129
  t55 := Tryz.underlying131
  a55 := Tryz.isAgg131
  z55 := Tryz.sizeOf131
  v55 := Tryz.zeroValue131
  t66 := Tryz.underlying143
  a66 := Tryz.isAgg143
  z66 := Tryz.sizeOf143
  v66 := Tryz.zeroValue143
  t70 := Tryz.underlying50
  a70 := Tryz.isAgg50
  z70 := Tryz.sizeOf50
  v70 := Tryz.zeroValue50
  t76 := Tryz.underlying163
  a76 := Tryz.isAgg163
  z76 := Tryz.sizeOf163
  v76 := Tryz.zeroValue163
  t77 := Tryz.underlying164
  a77 := Tryz.isAgg164
  z77 := Tryz.sizeOf164
  v77 := Tryz.zeroValue164 }
end Go.Proofs
namespace Go.Proofs.YtcloljkaojnipaaGreatDoor
open Go.RowKit Go.Shelf Go.Lib Go.Sort

/-- A path that reads in w and doesn't lie in the block g. -/
structure El (w : World) (g : Nat) where
  x : Option Addr
  c : Nat
  l : List ByteArray
  s : Strs w x c l
  o : Off x l (some g)
instance {w : World} {g : Nat} : Inhabited (El w g) := ⟨⟨none, 0, [], Strs.empty w, fun h => absurd rfl h⟩⟩
def El.enc {w : World} {g : Nat} (e : El w g) : Value := .slice e.x e.l.length e.c
def El.cf {w : World} {g : Nat} (a b : El w g) : Int := Pl.cmpP a.l b.l
theorem El.swo {w : World} {g : Nat} : SWO (ltOf (El.cf (w := w) (g := g))) where
  irrefl x := by simp [ltOf, El.cf, (Pl.cmpP_cmp.eq x.l x.l).2 rfl]
  trans x y z h1 h2 := by
    have k1 : Pl.cmpP x.l y.l < 0 := of_decide_eq_true h1
    have k2 : Pl.cmpP y.l z.l < 0 := of_decide_eq_true h2
    exact decide_eq_true (Pl.cmpP_cmp.strict x.l y.l z.l k1 (by omega))
  ntrans x y z h1 h2 := by
    have k1 : ¬ Pl.cmpP x.l y.l < 0 := of_decide_eq_false h1
    have k2 : ¬ Pl.cmpP y.l z.l < 0 := of_decide_eq_false h2
    have n1 := Pl.cmpP_cmp.neg x.l y.l
    have n2 := Pl.cmpP_cmp.neg y.l z.l
    have n3 := Pl.cmpP_cmp.neg x.l z.l
    have := Pl.cmpP_cmp.trans z.l y.l x.l (by omega) (by omega)
    exact decide_eq_false (p := Pl.cmpP x.l z.l < 0) (by omega)

theorem sort_grown {α : Type} [Inhabited α] (enc : α → Value) (w : World) (blk off m : Nat) (dk : Array α) (os : Array Obj) : w.grownBy (sortWorld enc w blk off m dk os) (some blk) := by
  refine ⟨rfl, rfl, rfl, ?_, fun k hk hne => ?_⟩
  · simp [sortWorld, grow, putRow, mapBlock, Sort.ahead]
  · have hkb : k ≠ blk := fun e => hne (by rw [e])
    simp only [sortWorld, grow, putRow, mapBlock, Sort.ahead]
    rw [Array.getElem?_append_left (by simpa using hk)]
    simp [Array.getElem?_modify, hkb.symm]

theorem el_cmp {w : World} {g : Nat} (off n : Nat) : CmpReads Tryz.prog 58 #[] (El.enc (w := w) (g := g)) El.cf g off n w := fun m os dk _ x y => by
  have hg := sort_grown (El.enc (w := w) (g := g)) w g off m dk os
  exact (compare_any _ _ _ _ x.l y.l _ (x.s.grownO hg x.o) (y.s.grownO hg y.o)).mono fun e w' ⟨he, hw⟩ => ⟨he, 0, hw.symm⟩

set_option maxRecDepth 100000 in
theorem sort_els {w : World} {g : Nat} (off cap : Nat) (d : Array (El w g)) (hH : Holds El.enc w g off d) (hg : g < w.heap.size) (hsz : d.size < 4611686018427387904) :
    Calls Tryz.prog 57 #[.slice (some ⟨g, off, none⟩) d.size cap, .func (.func 58) #[] #[]] w fun e w' => e = .returned (.tuple #[]) ∧ ∃ d' n os, PermIn 0 d.size d d' ∧ SortedIn (ltOf El.cf) 0 d.size d' ∧ w' = sortWorld El.enc w g off n d' os :=
  Any.slices_SortFunc Tryz.sortP El.enc (fun _ => rfl) El.cf El.swo 58 #[] g off cap d w (enters_of Tryz.func58 (by kernel_rfl) rfl) (el_cmp off d.size).lays hH hg hsz
end Go.Proofs.YtcloljkaojnipaaGreatDoor
namespace Go.Proofs.YtcloljkaojnipaaGreatDoor
open Go.RowKit Go.Shelf Go.Lib Go.Sort

theorem sortP_any {base g cap : Nat} {l : List (List ByteArray)} {xs : List Value} (w : World) (hl : l.length ≤ 5864062014806) (ox : w.ownsRow base 26 1 (.slice (some ⟨g, 0, none⟩) l.length cap) l.length xs) (ex : Elts w (some g) xs l) :
    Calls Tryz.prog 57 #[.slice (some ⟨g, 0, none⟩) l.length cap, .func (.func 58) #[] #[]] w fun e w' => e = .returned (.tuple #[]) ∧
      ∃ S : List (List ByteArray), S.Perm l ∧ (∀ i j (hi : i < j) (hj : j < S.length), Pl.cmpP (S[i]'(by omega)) (S[j]'hj) ≤ 0) ∧ Pts w' (some ⟨g, 0, none⟩) cap S ∧ w.grownBy w' (some g) := by
  obtain ⟨hbg, hgl⟩ := ox.lt g rfl
  have hcap : l.length ≤ cap ∧ cap ≤ maxLen := by
    rcases ox.2 with ⟨h0, _⟩ | ⟨g', cap', cur, hv, _, _, h1, h2, _⟩
    · cases h0
    · cases hv; exact ⟨h1, h2⟩
  obtain ⟨f, hf⟩ := Deep.choose_lt (α := Option Addr × Nat) (n := l.length) (p := fun i y => ∀ h : i < l.length, xs[i]? = some (.slice y.1 (l[i]'h).length y.2) ∧ Strs w y.1 y.2 (l[i]'h) ∧ Off y.1 (l[i]'h) (some g))
    (fun i hi => by obtain ⟨x, c, h1, h2, h3⟩ := ex i hi; exact ⟨(x, c), fun _ => ⟨h1, h2, h3⟩⟩)
  let mk : Fin l.length → El w g := fun i => ⟨(f i.1).1, (f i.1).2, l[i.1]'i.2, (hf i.1 i.2 i.2).2.1, (hf i.1 i.2 i.2).2.2⟩
  let d : Array (El w g) := Array.ofFn mk
  have hd : d.size = l.length := Array.size_ofFn
  have hdj : ∀ j (h : j < l.length), d[j]! = mk ⟨j, h⟩ := fun j h => by
    rw [getElem!_pos d j (by rw [hd]; exact h)]
    exact Array.getElem_ofFn (by rw [hd]; exact h)
  have hH : Holds El.enc w g 0 d := fun j hj => by
    rw [hd] at hj
    refine ⟨?_, ox.frozenAt _⟩
    rw [Nat.zero_add, ox.cellAt j (by omega), (hf j hj hj).1, hdj j hj]
    rfl
  have hmap : d.toList.map (·.l) = l := by
    apply List.ext_getElem
    · simp [hd]
    · intro i h1 h2
      simp only [List.getElem_map, Array.getElem_toList]
      have := hdj i h2
      rw [getElem!_pos d i (by rw [hd]; exact h2)] at this
      rw [this]
  have hc := sort_els 0 cap d hH hgl (by rw [hd]; omega)
  rw [hd] at hc
  refine hc.mono ?_
  rintro e w' ⟨he, d', n, os, ⟨hsz', _, hperm⟩, hsrt, rfl⟩
  have hds : d'.size = l.length := by rw [hsz', hd]
  have hgr := sort_grown (El.enc (w := w) (g := g)) w g 0 n d' os
  have hH' := holds_sortWorld El.enc w g 0 n d d' os hgl hH (by rw [hds, hd])
  refine ⟨he, d'.toList.map (·.l), ?_, fun i j hi hj => ?_, ⟨by simp; omega, fun h => (by cases h), by simp [hds]; exact hcap.1, hcap.2, fun i hi => ?_⟩, hgr⟩
  · have e1 : (d'.extract 0 l.length).toList = d'.toList := by rw [← hds]; simp
    have e2 : (d.extract 0 l.length).toList = d.toList := by rw [← hd]; simp
    rw [e1, e2] at hperm
    have := hperm.map (·.l)
    rwa [hmap] at this
  · have hj' : j < d'.size := by simpa using hj
    have := hsrt i j (Nat.zero_le _) hi (by omega)
    rw [getElem!_pos d' j hj', getElem!_pos d' i (by omega)] at this
    have k1 : ¬ Pl.cmpP (d'[j]'hj').l (d'[i]'(by omega)).l < 0 := of_decide_eq_false this
    have k2 := Pl.cmpP_cmp.neg (d'[i]'(by omega)).l (d'[j]'hj').l
    simp only [List.getElem_map, Array.getElem_toList]
    omega
  · have hi' : i < d'.size := by simpa using hi
    have h1 := (hH' i hi').1
    rw [getElem!_pos d' i hi'] at h1
    refine ⟨g, 0, (d'[i]'hi').x, (d'[i]'hi').c, rfl, Nat.lt_of_lt_of_le hgl hgr.size, ?_, ?_⟩
    · rw [h1]; simp [El.enc]
    · simp only [List.getElem_map, Array.getElem_toList]
      exact (d'[i]'hi').s.grownO hgr (d'[i]'hi').o
end Go.Proofs.YtcloljkaojnipaaGreatDoor
namespace Go.Proofs.YtcloljkaojnipaaGreatDoor
open Go.RowKit Go.Shelf Go.Lib Go.Sort

theorem sort_none (p : Option Addr) (cap : Nat) (fv : Value) (w : World) :
    Calls Tryz.prog 57 #[.slice p 0 cap, fv] w fun e w' => e = .returned (.tuple #[]) ∧ w' = w :=
  AnyF.slices_SortFunc_none (P := Tryz.prog) (ρ := Tryz.sortP_ren) { Tryz.sortP with } p cap fv w
end Go.Proofs.YtcloljkaojnipaaGreatDoor
namespace Go.Proofs.YtcloljkaojnipaaGreatDoor
open Go.RowKit

theorem own_slice {w : World} {base : Nat} {e : TypeId} {size : Nat} {v : Value} {n : Nat} {xs : List Value} (h : w.ownsRow base e size v n xs) : ∃ a c, v = .slice a n c ∧ n ≤ c ∧ c ≤ maxLen := by
  rcases h.2 with ⟨hv, hn⟩ | ⟨g, cap, cur, hv, _, _, h1, h2, _⟩
  · exact ⟨none, 0, by rw [hv, hn], by omega, Nat.zero_le _⟩
  · exact ⟨_, cap, hv, h1, h2⟩
theorem pts_vals {w : World} {ad : Addr} {cap : Nat} {l : List (List ByteArray)} (h : Pts w (some ad) cap l) : ∃ xs : List Value, xs.length = l.length ∧ (∀ j u, xs[j]? = some u → w.cell? (ad.add j) = some u) ∧ (∀ u ∈ xs, u.oneCell' = true) ∧ ∀ row, (∀ m, row = some m → w.heap.size ≤ m) → Elts w row xs l := by
  obtain ⟨f, hf⟩ := Deep.choose_lt (α := Option Addr × Nat) (n := l.length) (p := fun i y => ∀ h : i < l.length, w.cell? (ad.add i) = some (.slice y.1 (l[i]'h).length y.2) ∧ Strs w y.1 y.2 (l[i]'h))
    (fun i hi => by
      obtain ⟨b, off, x, c, e, _, h1, h2⟩ := h.cells i hi
      cases e
      refine ⟨(x, c), fun _ => ⟨?_, h2⟩⟩
      rw [show ((⟨b, off, none⟩ : Addr).add i) = ⟨b, off + i, none⟩ from by unfold Addr.add; split <;> simp_all]
      exact h1)
  refine ⟨(List.range l.length).map fun i => .slice (f i).1 (l.getD i []).length (f i).2, by simp, fun j u hu => ?_, fun u hu => ?_, fun row hrow i hi => ?_⟩
  · rw [List.getElem?_map] at hu
    cases hj : (List.range l.length)[j]? with
    | none => rw [hj] at hu; cases hu
    | some k =>
      obtain ⟨hlt, hk⟩ := List.getElem?_eq_some_iff.1 hj
      simp only [List.getElem_range] at hk
      subst hk
      have hlt' : j < l.length := by simpa using hlt
      rw [hj] at hu
      simp only [Option.map_some, Option.some.injEq] at hu
      rw [(hf j hlt' hlt').1, ← hu]
      simp [List.getD, hlt']
  · obtain ⟨i, _, rfl⟩ := List.mem_map.1 hu
    rfl
  · refine ⟨(f i).1, (f i).2, by simp [List.getD, hi], (hf i hi hi).2, fun hne a2 e q => ?_⟩
    have h1 := (hf i hi hi).2.lt hne a2 e
    have h2 := hrow a2.block q.symm
    omega

set_option maxRecDepth 100000 in
set_option maxHeartbeats 4000000 in
theorem cover_any (a : Option Addr) (cap : Nat) (l : List (List ByteArray)) (w : World) (h : Pts w a cap l) :
    Calls Tryz.prog 28 #[.slice a l.length cap] w fun e w' => ∃ c v, e = .returned v ∧ Pl.Cov l c ∧ c.length ≤ l.length ∧ PRow w' w.heap.size v c ∧ Below w.heap.size w w' := by
  obtain ⟨i0, hi, hz0, hz1, hz2⟩ := info_parts Tryz.infoPath
  have hl := h.len
  by_cases h0 : l = []
  · subst h0
    have fin : ∀ w1 : World, Below w.heap.size w w1 → ∃ c v, Ending.returned (Value.slice none 0 0) = .returned v ∧ Pl.Cov [] c ∧ c.length ≤ ([] : List (List ByteArray)).length ∧ PRow w1 w.heap.size v c ∧ Below w.heap.size w w1 := fun w1 hb =>
      ⟨[], _, rfl, Pl.cov_nil, Nat.le_refl _, PRow.empty _ _, hb⟩
    have HF : Hid _ := fin
    clear fin
    show Calls _ _ #[.slice a 0 cap] _ _
    cases a with
    | none =>
      obtain rfl := h.nil rfl
      go_enter Tryz.func28, Tryz.ntmps28
      go_wp2_with (at_builtin; refine wpList_append_own_none rfl _ _ 22 rfl w.heap.size 26 i0 1 Tryz.underlying22 hi _ 0 [] rfl (World.ownsRow_nil _ _ _ _) rfl ?_)
      refine (sort_none _ _ _ _).mono ?_
      rintro e w1 ⟨rfl, rfl⟩
      go_wp2_with fail
      go_loopw [4, 13] (fun v i wr => v = .slice none 0 0 ∧ i = .int .i64 0 ∧ wr = w1) (fun _ _ _ => 0)
      case atStart => exact ⟨rfl, rfl, rfl⟩
      case round =>
        obtain ⟨rfl, rfl, rfl⟩ := hrel
        go_wp2
        go_ret
        exact HF.out _ (Below.refl _ _)
    | some ad =>
      go_enter Tryz.func28, Tryz.ntmps28
      go_wp2_with (at_builtin; refine wpList_append_own_wide _ rfl _ _ 22 rfl w.heap.size 26 i0 (.slice none 0 0) 1 24 Tryz.underlying22 hi hz0 hz1 hz2 rfl (by decide) _ _ _ rfl (World.ownsRow_nil _ _ _ _) ad 0 cap [] rfl rfl (fun j u hu => by simp at hu) (fun u hu => by cases hu) ?c3 ?c4 (Nat.le_refl _) ?_)
      case c3 => decide
      case c4 => decide
      intro v1 w1 own1 hgr1 hnil
      subst hnil
      have hB1 : Below w.heap.size w w1 := (Below.refl _ _).grown hgr1 (Nat.le_refl _) (fun k hk => by cases hk)
      clear own1 hgr1
      go_wp2_with fail
      refine (sort_none _ _ _ _).mono ?_
      rintro e w2 ⟨rfl, rfl⟩
      go_wp2_with fail
      go_loopw [4, 13] (fun v i wr => v = .slice none 0 0 ∧ i = .int .i64 0 ∧ wr = w2) (fun _ _ _ => 0)
      case atStart => exact ⟨rfl, rfl, rfl⟩
      case round =>
        obtain ⟨rfl, rfl, rfl⟩ := hrel
        go_wp2
        go_ret
        exact HF.out _ hB1
  · have hpos : 0 < l.length := List.length_pos_iff.2 h0
    cases a with
    | none => exact absurd h.none.1 h0
    | some ad =>
      obtain ⟨xs, hxl, hxc, hx1, hxe⟩ := pts_vals h
      go_enter Tryz.func28, Tryz.ntmps28
      go_wp2_with (at_builtin; refine wpList_append_own_wide _ rfl _ _ 22 rfl w.heap.size 26 i0 (.slice none 0 0) 1 24 Tryz.underlying22 hi hz0 hz1 hz2 rfl (by decide) _ _ _ rfl (World.ownsRow_nil _ _ _ _) ad l.length cap xs rfl (by omega) hxc hx1 ?c3 ?c4 (Nat.le_refl _) ?_)
      case c3 => unfold maxLen; omega
      case c4 => omega
      intro v1 w1 own1 hgr1 _
      have own1' : w1.ownsRow w.heap.size 26 1 v1 l.length xs := by simpa using own1
      obtain ⟨g, c1, rfl, hg1, hg2⟩ := own1'.form hpos
      have hB1 : Below w.heap.size w w1 := (Below.refl _ _).grown hgr1 (Nat.le_refl _) (fun k hk => by cases hk)
      have ex1 : Elts w1 (some g) xs l := fun i hi => by
        obtain ⟨x, c, k1, k2, k3⟩ := hxe (some g) (fun m e => by cases e; exact hg1) i hi
        exact ⟨x, c, k1, k2.below hB1, k3⟩
      clear own1 hgr1
      have hB1s := hB1.size
      go_wp2_with fail
      refine (sortP_any w1 hl own1' ex1).mono ?_
      rintro e w2 ⟨rfl, S, hperm, hsrt, hS, hgr2⟩
      have hB2 : Below w.heap.size w w2 := hB1.grown hgr2 hB1s (fun k hk => by cases hk; exact hg1)
      have hB2s := hB2.size
      have HPM : Hid (∀ x, x ∈ S ↔ x ∈ l) := fun x => hperm.mem_iff
      have hSl : S.length = l.length := hperm.length_eq
      have HSR : Hid (∀ i j (hi : i < j) (hj : j < S.length), Pl.cmpP (S[i]'(by omega)) (S[j]'hj) ≤ 0) := hsrt
      have hSn := hS.len
      rw [← hSl] at hpos hl ⊢
      clear own1' ex1 hperm hsrt hgr2 hxe hx1 hxc
      go_wp2_with fail
      go_loopw [4, 13] (fun v i wr => ∃ (k : Nat) (out : List (List ByteArray)), k ≤ S.length ∧ i = .int .i64 k ∧ Pl.Cov (S.take k) out ∧ out.length ≤ k ∧ PRow wr w2.heap.size v out ∧ Below w2.heap.size w2 wr) (fun _ i _ => S.length - (intOf i).toNat)
      case atStart => exact ⟨0, [], Nat.zero_le _, rfl, by simpa using Pl.cov_nil, Nat.le_refl _, PRow.empty _ _, Below.refl _ _⟩
      case round =>
        obtain ⟨k, out, hk, rfl, hcov, hol, hpr, hnx⟩ := hrel
        have hsz := hnx.size
        by_cases hlt : k < S.length
        · obtain ⟨b, off, x, c, e, hb, hc, hs⟩ := (hS.below hnx).cells k hlt
          cases e
          rw [Nat.zero_add] at hc
          have HT : Hid (S.take (k + 1) = S.take k ++ [S[k]'hlt]) := List.take_succ_eq_append_getElem hlt
          have HRS : Hid (∀ y ∈ S.take k, Pl.cmpP y (S[k]'hlt) ≤ 0) := fun y hy => by
            obtain ⟨j, hj, rfl⟩ := List.getElem_of_mem hy
            have hj' : j < k := by simp at hj; omega
            rw [List.getElem_take]
            exact HSR.out j k hj' hlt
          have hxl := hs.len
          have HCV : Hid (Pl.Cov (S.take k) out) := hcov
          clear hcov
          generalize S[k]'hlt = p at *
          generalize S.take k = t at *
          have i1 : (k : Int) < (S.length : Int) := by omega
          by_cases ho : out = []
          · subst ho
            have HC2 : Hid (Pl.Cov (t ++ [p]) ([] ++ [p])) := by
              have e := Pl.cov_ne HCV.out rfl
              rw [e]; exact Pl.cov_first
            obtain ⟨a0, c0, rfl, _, hc0⟩ := own_slice hpr.choose_spec.1
            unfold maxLen at hc0
            rw [show ([] : List (List ByteArray)).length = 0 from rfl] at *
            obtain ⟨xs, ox0, ex0⟩ := hpr
            simp only [List.length_nil] at ox0
            go_wp2_with fail
            refine (fresh_any _ _ p _ hs).mono ?_
            rintro e w4 ⟨v4, rfl, hown, hb4⟩
            obtain ⟨x4, c4, rfl, s4⟩ := own_strs hown (by omega) hs.mem
            have hB4 := (hnx).trans (hb4.mono (hnx).size)
            have hs4 := hB4.size
            have hoff : Off x4 p (Value.ownBlock _) := fun hp a2 e q => by
              have h1 := own_strs_ge hown hp a2 e
              have h2 := (ox0.lt a2.block q.symm).2
              have h3 : wr.heap.size ≤ a2.block := h1
              omega
            have ox := own_below (ox0) hb4
            have ex := (ex0).below hb4
            clear hown hb4 ox0 ex0
            go_wp2_with (at_builtin; refine wpList_append_far _ rfl _ _ 22 rfl w2.heap.size 26 i0 (.slice none 0 0) 1 24 Tryz.underlying22 hi hz0 hz1 hz2 rfl (by decide) _ _ _ rfl (ox.alloc _) ⟨w4.heap.size, 0, none⟩ 1 1 [.slice x4 p.length c4] rfl rfl (cell_one_new _ _ _) ?c2 ?c3 ?c4 ?c5 ?_)
            case c2 => first | rfl | (intro u hu; simp at hu; subst hu; rfl)
            case c3 => unfold maxLen; omega
            case c4 => omega
            case c5 => simp; omega
            intro v5 w5 own5 hgr5 _ hat5
            have hB5 : Below w2.heap.size w2 w5 := (hB4.alloc hs4 _).grown hgr5 (by simp; omega) (fun g hg => (ox.lt g hg).1)
            have hpr5 := prow_snoc ox ex s4 hoff own5 hgr5 hat5 (by simp)
            clear hgr5 own5 hat5
            go_wp2
            go_roundw
            case rel => exact ⟨k + 1, _, by omega, by go_num, by rw [HT.out]; exact HC2.out, by first | (simp; done) | (simp; omega), hpr5, hB5⟩
            case measure => simp [intOf]; omega
          · obtain ⟨o, last, rfl⟩ : ∃ o last, out = o ++ [last] := ⟨out.dropLast, out.getLast ho, (List.dropLast_concat_getLast ho).symm⟩
            have hlen : (o ++ [last]).length = o.length + 1 := by simp
            obtain ⟨xs1, ox1, ex1⟩ := hpr
            obtain ⟨g3, c3, rfl, _, _⟩ := ox1.form (by rw [hlen]; omega)
            obtain ⟨y, d, k1, k2, k3⟩ := ex1 o.length (by rw [hlen]; omega)
            have hcell : wr.cell? ⟨g3, o.length, none⟩ = some (.slice y last.length d) := by
              rw [ox1.cellAt o.length (by rw [hlen]; omega), k1]; simp
            have hcap : (o ++ [last]).length ≤ c3 ∧ c3 ≤ maxLen := by
              rcases ox1.2 with ⟨h0, _⟩ | ⟨g', cap', cur, hv, _, _, h1, h2, _⟩
              · cases h0
              · cases hv; exact ⟨h1, h2⟩
            have k2' : Strs wr y d last := by simpa using k2
            have ox1' : wr.ownsRow w2.heap.size 26 1 (.slice (some ⟨g3, 0, none⟩) (o.length + 1) c3) (o ++ [last]).length xs1 := by rw [← hlen]; exact ox1
            have hpr : PRow wr w2.heap.size (.slice (some ⟨g3, 0, none⟩) (o.length + 1) c3) (o ++ [last]) := ⟨xs1, ox1', ex1⟩
            rw [hlen] at hcap
            unfold maxLen at hcap
            have hol' : o.length + 1 ≤ k := by rw [← hlen]; exact hol
            clear k1 k2 k3 ox1 ox1' ex1
            have l1 : ((o.length : Int) + 1 == 0) = false := by rw [beq_eq_false_iff_ne]; omega
            cases hw : Pl.withinP p last
            · have HC2 : Hid (Pl.Cov (t ++ [p]) (o ++ [last] ++ [p])) := Pl.cov_take HCV.out HRS.out (fun hin => by rw [(Pl.within_in p last).2 hin] at hw; cases hw)
              have hwi := within_any _ _ _ _ p last wr hs k2'
              rw [hw] at hwi
              have HWI : Hid (Calls Tryz.prog 59 #[.slice x p.length c, .slice y last.length d] wr fun e w' => e = .returned (.bool false) ∧ ∃ n, w' = wr.drewN n) := hwi
              clear hwi
              obtain ⟨xs, ox0, ex0⟩ := hpr
              go_wp2_with fail
              refine HWI.out.mono ?_
              rintro e w' ⟨rfl, nq, rfl⟩
              go_wp2_with fail
              refine (fresh_any _ _ p _ (hs.drewN nq)).mono ?_
              rintro e w4 ⟨v4, rfl, hown, hb4⟩
              obtain ⟨x4, c4, rfl, s4⟩ := own_strs hown (by omega) hs.mem
              have hB4 := (below_drewN hnx nq).trans (hb4.mono (below_drewN hnx nq).size)
              have hs4 := hB4.size
              have hoff : Off x4 p (Value.ownBlock _) := fun hp a2 e q => by
                have h1 := own_strs_ge hown hp a2 e
                have h2 := (ox0.lt a2.block q.symm).2
                have h3 : wr.heap.size ≤ a2.block := h1
                omega
              have ox := own_below (own_below ox0 (below_drewN (Below.refl _ _) nq)) hb4
              have ex := (ex0.below (below_drewN (Below.refl _ _) nq)).below hb4
              clear hown hb4 ox0 ex0
              go_wp2_with (at_builtin; refine wpList_append_far _ rfl _ _ 22 rfl w2.heap.size 26 i0 (.slice none 0 0) 1 24 Tryz.underlying22 hi hz0 hz1 hz2 rfl (by decide) _ _ _ rfl (ox.alloc _) ⟨w4.heap.size, 0, none⟩ 1 1 [.slice x4 p.length c4] rfl rfl (cell_one_new _ _ _) ?c2 ?c3 ?c4 ?c5 ?_)
              case c2 => first | rfl | (intro u hu; simp at hu; subst hu; rfl)
              case c3 => unfold maxLen; omega
              case c4 => omega
              case c5 => simp; omega
              intro v5 w5 own5 hgr5 _ hat5
              have hB5 : Below w2.heap.size w2 w5 := (hB4.alloc hs4 _).grown hgr5 (by simp; omega) (fun g hg => (ox.lt g hg).1)
              have hpr5 := prow_snoc ox ex s4 hoff (by rw [hlen]; exact own5) hgr5 hat5 (by simp)
              clear hgr5 own5 hat5
              go_wp2
              go_roundw
              case rel => exact ⟨k + 1, _, by omega, by go_num, by rw [HT.out]; exact HC2.out, by first | (simp; done) | (simp; omega), hpr5, hB5⟩
              case measure => simp [intOf]; omega
            · have HC2 : Hid (Pl.Cov (t ++ [p]) (o ++ [last])) := Pl.cov_pass HCV.out HRS.out (by simp) ((Pl.within_in p last).1 hw)
              have hwi := within_any _ _ _ _ p last wr hs k2'
              rw [hw] at hwi
              have HWI : Hid (Calls Tryz.prog 59 #[.slice x p.length c, .slice y last.length d] wr fun e w' => e = .returned (.bool true) ∧ ∃ n, w' = wr.drewN n) := hwi
              clear hwi
              go_wp2_with fail
              refine HWI.out.mono ?_
              rintro e w' ⟨rfl, nq, rfl⟩
              have hprq := hpr.below (below_drewN (Below.refl _ _) nq)
              have hBq := below_drewN hnx nq
              go_wp2_with fail
              go_roundw
              case rel => exact ⟨k + 1, o ++ [last], by omega, by go_num, by rw [HT.out]; exact HC2.out, by omega, hprq, hBq⟩
              case measure => simp [intOf]; omega
        · have e : S.take k = S := List.take_of_length_le (by omega)
          rw [e] at hcov
          have i1 : ¬ (k : Int) < (S.length : Int) := by omega
          go_wp2
          go_ret
          obtain ⟨xs, ox, ex⟩ := hpr
          exact ⟨out, _, rfl, hcov.perm HPM.out, by omega, ⟨xs, own_base_p ox hB2s, ex⟩, hB2.trans (hnx.mono hB2s)⟩
end Go.Proofs.YtcloljkaojnipaaGreatDoor
