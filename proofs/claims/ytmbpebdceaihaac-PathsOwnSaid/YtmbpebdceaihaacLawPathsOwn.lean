/- PathsOwn answers true for every path, text and list of paths: the walk of the law over its callees' contracts. -/
import Derived.Test.YtmbpebdceaihaacOwnCst
import Derived.Test.YtmbpebdceaihaacAlike
import Derived.Test.YtmbpebdceaihaacParent
import Derived.Test.YtmbpebdceaihaacBegins
import Derived.Test.YtmbpebdceaihaacPlainNorm
namespace Go.Proofs.Ytmbpebdceaihaac
open Go.RowKit

/-- An append of what may be nothing. -/
theorem wpList_append_may {P : Program} (w : World) {ops : Array Oper} {rest : List Oper} {o : Oper} {a : Act} {Q : Exit → Act → World → Prop} (hgd : o.guard = none) (s x : Operand) (t : TypeId)
    (ho : o.op = .call { callee := .builtin .append, args := #[s, x], argTypes := #[t, t] })
    (base : Nat) (e : TypeId) (i : TypeInfo) (z : Value) (size bytes : Nat) (ht : P.underlying t = some (.slice e)) (hi : P.info? e = some i) (hz : i.zero = some z)
    (hsize : i.size = size) (hby : i.bytes = bytes) (hzs : z.cells.size = size) (hsz : 0 < size)
    (v : Value) (n : Nat) (xs : List Value) (hs : a.eval s = v) (hown : w.ownsRow base e size v n xs)
    (base2 : Nat) (u : Value) (m : Nat) (news : List Value) (hx : a.eval x = u) (hu : w.ownsRow base2 e size u m news) (h1 : ∀ u ∈ news, u.oneCell' = true)
    (h63 : n + m ≤ maxLen) (hbytes : ((n + m) + (n + m) / 4 + 192) * bytes ≤ 281474976710656) (hbase : base ≤ w.heap.size)
    (h : ∀ v' w', w'.ownsRow base e size v' (n + m) (xs ++ news) → w.grownBy w' v.ownBlock → (v'.ownBlock = v.ownBlock ∨ v'.ownBlock = some w.heap.size) → wpList P ops Q rest (a.put o.dst v') w') :
    wpList P ops Q (o :: rest) a w := by
  have hl := hu.1
  rcases hu.2 with ⟨hv, hn⟩ | ⟨g, cap, cur, hv, _⟩
  · subst hn
    have hn0 : news = [] := List.eq_nil_of_length_eq_zero (by simpa using hl)
    subst hn0
    subst hv
    exact wpList_append_own_none hgd s x t ho base e i size ht hi v n xs hs hown hx (h v w (by simpa using hown) (World.grownBy.refl _ _) (.inl rfl))
  · exact wpList_append_far w hgd s x t ho base e i z size bytes ht hi hz hsize hby hzs hsz v n xs hs hown ⟨g, 0, none⟩ m cap news (by rw [hx, hv]) hl (hu.cells (g := g) (by rw [hv]; rfl)) h1 h63 hbytes hbase (fun v' w' q1 q2 _ q3 => h v' w' q1 q2 q3)

theorem all_pts {w2 w3 : World} {base base2 b : Nat} {v v' v2 : Value} {xs : List Value} {l : List (List ByteArray)} {p : List ByteArray} (d : Deep2 w2 base2 v2 xs l) (sp : Strs w2 (some ⟨b, 0, none⟩) 2 p) (hp : p.length = 2)
    (hvb : ∀ g, v.ownBlock = some g → g < base2 ∧ g ≠ b) (hbs : b < w2.heap.size) (own3 : w3.ownsRow base 23 1 v' (1 + l.length) ([.slice (some ⟨b, 0, none⟩) 2 2] ++ xs)) (hg : w2.grownBy w3 v.ownBlock)
    (hat : v'.ownBlock = v.ownBlock ∨ v'.ownBlock = some w2.heap.size) (hl : l.length ≤ 5864062014805) : ∃ a c, v' = .slice a (l.length + 1) c ∧ Pts w3 a c (p :: l) := by
  have hpr : PRow w3 base v' (p :: l) := by
    refine ⟨_, by rw [show (p :: l).length = 1 + l.length by simp; omega]; exact own3, fun i hi => ?_⟩
    cases i with
    | zero =>
      have o1 : ∀ row : Option Nat, (row = v.ownBlock ∨ row = some w2.heap.size) → Off (some (⟨b, 0, none⟩ : Addr)) p row := fun row hr hne ad e q => by
        cases e
        rcases hr with hr | hr
        · rw [hr] at q; exact (hvb b q.symm).2 rfl
        · rw [hr] at q; have := Option.some.inj q; simp at this; omega
      refine ⟨some ⟨b, 0, none⟩, 2, ?_, ?_, ?_⟩
      · simp [hp]
      · simpa using sp.grownO hg (o1 _ (.inl rfl))
      · simpa using o1 _ hat
    | succ j =>
      have hj : j < l.length := by simpa using hi
      obtain ⟨u, k1, k2, k3, k4, k5⟩ := d.own j hj
      obtain ⟨x, c, rfl, hs⟩ := own_str_slice k2 k4 k5
      have o1 : ∀ row : Option Nat, (row = v.ownBlock ∨ row = some w2.heap.size) → Off x (l[j]'hj) row := fun row hr hne ad e q => by
        subst e
        have hge := own_strs_ge k2 hne ad rfl
        have hlt := hs.lt hne ad rfl
        rcases hr with hr | hr
        · rw [hr] at q; have := (hvb _ q.symm).1; omega
        · rw [hr] at q; have := Option.some.inj q; omega
      refine ⟨x, c, ?_, ?_, ?_⟩
      · simpa using k1
      · simpa using hs.grownO hg (o1 _ (.inl rfl))
      · simpa using o1 _ hat
  obtain ⟨a, c, e, hq⟩ := hpr.pts (by simp; omega)
  exact ⟨a, c, by simpa using e, hq⟩

theorem xs_one {w : World} {base : Nat} {v : Value} {xs : List Value} {l : List (List ByteArray)} (d : Deep2 w base v xs l) (hxl : xs.length = l.length) : ∀ u ∈ xs, u.oneCell' = true := fun u hu => by
  obtain ⟨i, hi, rfl⟩ := List.getElem_of_mem hu
  obtain ⟨u, k1, k2, k3, k4, k5⟩ := d.own i (by omega)
  obtain ⟨x, c, rfl, _⟩ := own_str_slice k2 k4 k5
  rw [List.getElem?_eq_getElem hi] at k1
  rw [Option.some.inj k1]
  rfl

set_option maxRecDepth 100000 in
set_option maxHeartbeats 4000000 in
theorem lawPathsOwn_any (af al : Option Addr) (cf cl : Nat) (f : List ByteArray) (s : ByteArray) (l : List (List ByteArray)) (w : World) (hf : Strs w af cf f) (hs : s.size ≤ 140737488351232) (hl : Pts w al cl l) (hl1 : l.length ≤ 5864062014805) :
    Calls Try.prog 3 #[.slice af f.length cf, .string s, .slice al l.length cl] w fun e w' => e = .returned (.bool true) ∧ Below w.heap.size w w' := by
  obtain ⟨i0, hi, hz0, hz1, hz2⟩ := info_parts Try.infoPath
  obtain ⟨iS, hj, hy0, hy1, hy2⟩ := info_parts Try.infoStr
  have lf := hf.len
  have hB : Below w.heap.size w w := Below.refl _ _
  have nm := Pl.normal_names f s
  obtain ⟨N, D, C, hN⟩ : ∃ N D C, Pl.normalP f s = (N, D, C) := ⟨_, _, _, rfl⟩
  have HN : Hid (Pl.normalP f s = (N, D, C)) := hN
  rw [hN] at nm
  have NM : Hid (N.all Pl.nameB = true ∧ N.length ≤ 1024) := nm
  have lN := nm.2
  clear hN nm
  go_enter Try.func3, Try.ntmps3
  go_wp2_with fail
  refine (begins_any _).mono ?_
  rintro e w1 ⟨rfl, hb⟩
  replace hl := hl.below hb; replace hf := hf.below hb; replace hB := hB.trans (hb.mono hB.size); clear hb
  have h01 := hB.size
  go_wp2_with fail
  have hP := two_strs w1 ⟨#[120]⟩ ⟨#[121]⟩ (by decide) (by decide)
  have hO := World.ownsRow_lit (e := 23) (size := 1) (base := w1.heap.size) (w1.alloc (.cells #[.string ⟨#[120]⟩, .string ⟨#[121]⟩] 9)) #[.slice (some ⟨w1.heap.size, 0, none⟩) 2 2] 1 (by simp) (by decide) rfl
  rw [show (w1.alloc (.cells #[.string ⟨#[120]⟩, .string ⟨#[121]⟩] 9)).heap.size = w1.heap.size + 1 by simp] at hO
  replace hP := hP.alloc (.cells #[.slice (some ⟨w1.heap.size, 0, none⟩) 2 2] 23)
  have hba : Below w1.heap.size w1 ((w1.alloc (.cells #[.string ⟨#[120]⟩, .string ⟨#[121]⟩] 9)).alloc (.cells #[.slice (some ⟨w1.heap.size, 0, none⟩) 2 2] 23)) := ((Below.refl _ _).alloc (Nat.le_refl _) _).alloc (by simp) _
  have hsa : ((w1.alloc (.cells #[.string ⟨#[120]⟩, .string ⟨#[121]⟩] 9)).alloc (.cells #[.slice (some ⟨w1.heap.size, 0, none⟩) 2 2] 23)).heap.size = w1.heap.size + 2 := by simp
  refine (copies2_any _ _ l _ (hl.below hba)).mono ?_
  rintro e w2 ⟨v2, rfl, ⟨xl, ol, dl⟩, hb⟩
  have hxl : xl.length = l.length := by simpa using ol.1
  have h12 := hb.size
  rw [hsa] at h12
  have hP2 := hP.below hb
  have hO2 := own_below hO hb
  have HB : Below w1.heap.size w1 w2 := hba.trans (hb.mono (by rw [hsa]; omega))
  clear hl
  have HX1 : Hid (∀ u ∈ xl, u.oneCell' = true) := xs_one dl hxl
  clear hb hba hP hO
  go_wp2_with (at_builtin; (refine wpList_append_may _ rfl _ _ 24 rfl w1.heap.size 23 i0 (.slice none 0 0) 1 24 Try.underlying24 hi hz0 hz1 hz2 rfl (by decide) _ _ _ rfl hO2 _ v2 _ _ rfl ol HX1.out ?c3 ?c4 ?c5 ?_))
  case c3 => unfold maxLen; omega
  case c4 => omega
  case c5 => omega
  intro v3 w3 own3 hgr3 hat3
  obtain ⟨aa, ca, rfl, hall⟩ := all_pts dl hP2 rfl (fun g hg => by simp [Value.ownBlock] at hg; rw [hsa]; omega) (by omega) own3 hgr3 hat3 hl1
  have hb3 : Below w1.heap.size w2 w3 := (Below.refl _ _).grown hgr3 (by omega) (fun g hg => by simp [Value.ownBlock] at hg; omega)
  replace HB := HB.trans hb3
  have h13 := HB.size
  obtain ⟨A, hA, hAl, HAN⟩ : ∃ A : List (List ByteArray), Pts w3 aa ca A ∧ A.length = l.length + 1 ∧ Hid (A ≠ []) := ⟨_, hall, by simp, by unfold Hid; simp⟩
  rw [← hAl]
  replace hl1 : A.length ≤ 5864062014806 := by omega
  clear hall own3 hgr3 hat3 hb3 hP2 hO2 ol dl hxl HX1 hsa h12 hAl
  go_wp2_with fail
  refine (copies2_any _ _ A _ hA).mono ?_
  rintro e w4 ⟨v4, rfl, hw4, hb⟩
  obtain ⟨a4, c4, rfl, s4⟩ := hw4.prow.pts (by omega)
  replace hA := hA.below hb; replace HB := HB.trans (hb.mono (by omega)); clear hb hw4
  have h14 := HB.size
  go_wp2_with fail
  refine (copy_any _ _ f _ (hf.below HB)).mono ?_
  rintro e w5 ⟨v5, rfl, o5, hb⟩
  obtain ⟨a5, c5, rfl, s5⟩ := own_strs o5 lf hf.mem
  replace hA := hA.below hb; replace s4 := s4.below hb; replace HB := HB.trans (hb.mono (by omega)); clear hb o5
  have h15 := HB.size
  go_wp2_with fail
  refine (normal_any _ _ f s _ s5 (by omega)).mono ?_
  rw [HN.out]
  rintro e w6 ⟨va, rfl, oa, hb6⟩
  have h56 := hb6.size
  have HGa : Hid (∀ g, va.ownBlock = some g → w5.heap.size ≤ g ∧ g < w6.heap.size) := fun g hg => oa.lt g hg
  go_wp2_with fail
  refine (normal_any _ _ f s _ (s5.below hb6) (by omega)).mono ?_
  rw [HN.out]
  rintro e w7 ⟨vb, rfl, ob, hb7⟩
  have h67 := hb7.size
  have HGb : Hid (∀ g, vb.ownBlock = some g → w6.heap.size ≤ g ∧ g < w7.heap.size) := fun g hg => ob.lt g hg
  have hb57 := hb6.trans (hb7.mono h56)
  replace oa := own_below oa hb7
  go_wp2_with fail
  refine (parent_own _ _ f _ (s5.below hb57)).mono ?_
  rintro e w8 ⟨vx, sx, bx, lx, rfl, lxl, ox, hb8⟩
  have h78 := hb8.size
  have HGx : Hid (∀ g, vx.ownBlock = some g → w7.heap.size ≤ g ∧ g < w8.heap.size) := fun g hg => ox.lt g hg
  have hb58 := hb57.trans (hb8.mono hb57.size)
  replace oa := own_below oa hb8; replace ob := own_below ob hb8
  clear hb6 hb7 hb8 hb57
  go_wp2_with fail
  refine (cover2_any _ _ A _ (hA.below hb58)).mono ?_
  rintro e w9 ⟨K, vc, rfl, hK, lK, ⟨xc, oc, dc2⟩, hb9⟩
  have dc := dc2.v
  have HKL : Hid (∀ j (h : j < K.length), (K[j]'h).length ≤ 8796093022208) := fun j h => by
    obtain ⟨_, _, _, _, q, _⟩ := dc2.own j h
    exact q
  clear dc2
  have h89 := hb9.size
  have hb59 := hb58.trans (hb9.mono hb58.size)
  replace oa := own_below oa hb9; replace ob := own_below ob hb9; replace ox := own_below ox hb9
  go_wp2_with fail
  refine (cover2_any _ _ A _ (hA.below hb59)).mono ?_
  rintro e w10 ⟨K', vd, rfl, hK', lK', hd, hb10⟩
  obtain rfl := hK.unique hK'
  have h910 := hb10.size
  have hb510 := hb59.trans (hb10.mono hb59.size)
  replace oa := own_below oa hb10; replace ob := own_below ob hb10; replace ox := own_below ox hb10; replace dc := dc.turns (P := fun _ => False) (Turns.of hb10) (fun _ _ q => q)
  have ocl := oc.lt
  replace oc := own_below oc hb10
  have lK0 : 0 < K.length := by
    cases K with
    | nil => exact absurd (Pl.cov_ne hK rfl) HAN.out
    | cons _ _ => simp
  clear hb9 hb10 hb58 hb59 hK hK' lK'
  obtain ⟨gc, cc, rfl, _, _⟩ := oc.form lK0
  have hgc := ocl gc rfl
  clear ocl
  obtain ⟨ad, cd, rfl, sd⟩ := hd.prow.pts (by omega)
  obtain ⟨ab, cb, rfl, sb⟩ := own_strs ob (by omega) (names_size NM.out.1)
  have q1 : (C != C) = false := by simp
  have q2 : ¬ (K.length : Int) < 1 := by omega
  have q3 : ((K.length : Int) != (K.length : Int)) = false := by simp
  go_wp2_with fail
  refine (copy_any _ _ N _ sb).mono ?_
  rintro e w11 ⟨vk, rfl, ok, hb11⟩
  have h1011 := hb11.size
  replace oa := own_below oa hb11; replace ob := own_below ob hb11; replace ox := own_below ox hb11; replace oc := own_below oc hb11; replace dc := dc.turns (P := fun _ => False) (Turns.of hb11) (fun _ _ q => q); replace hd := hd.below hb11
  have hb511 := hb510.trans (hb11.mono hb510.size)
  go_wp2_with fail
  refine (copies2_any _ _ K _ (sd.below hb11)).mono ?_
  rintro e w12 ⟨vo, rfl, hv, hb12⟩
  have h1112 := hb12.size
  replace oa := own_below oa hb12; replace ob := own_below ob hb12; replace ox := own_below ox hb12; replace oc := own_below oc hb12; replace dc := dc.turns (P := fun _ => False) (Turns.of hb12) (fun _ _ q => q); replace hd := hd.below hb12; replace ok := own_below ok hb12
  have hb512 := hb511.trans (hb12.mono hb511.size)
  clear hb11 hb12 hb510 hb511 sd sb
  obtain ⟨aA, cA, rfl, hcA1, hcA2⟩ := own_slice oa
  obtain ⟨aX, cX, rfl, hcX1, hcX2⟩ := own_slice ox
  unfold maxLen at hcA2 hcX2
  go_wp2_with fail
  go_loopw [23] (fun i wr => ∃ (k : Nat) (xs : List Value), k ≤ N.length ∧ i = .int .i64 k ∧ wr.ownsRow w5.heap.size 9 1 (.slice aA N.length cA) N.length xs ∧ Turns (fun g => w5.heap.size ≤ g ∧ g < w6.heap.size) w12 wr) (fun i _ => N.length - (intOf i).toNat)
  case atStart => exact ⟨0, _, Nat.zero_le _, rfl, oa, Turns.refl _ _⟩
  case round =>
    obtain ⟨k, xs, hk, rfl, oa', hT⟩ := hrel
    by_cases hlt : k < N.length
    · have i1 : (k : Int) < (N.length : Int) := by omega
      obtain ⟨ga, ca', hva, hga, _⟩ := oa'.form (by omega)
      obtain ⟨rfl, rfl⟩ : aA = some ⟨ga, 0, none⟩ ∧ cA = ca' := by cases hva; exact ⟨rfl, rfl⟩
      have hxl := oa'.1
      have q0 := oa'.cellAt k (by omega)
      rw [List.getElem?_eq_getElem (by omega)] at q0
      generalize xs[k]'(by omega) = y0 at q0
      have f0 := oa'.frozenAt k
      obtain ⟨st1, gr1⟩ := oa'.stored k (.string ⟨#[63]⟩)
      have T1 := hT.grown gr1 (fun g hg => .inl (by cases hg; exact HGa.out _ rfl))
      clear gr1
      go_wp2_with fail
      go_roundw
      case rel => exact ⟨k + 1, _, by omega, by go_num, st1, T1⟩
      case measure => simp [intOf]; omega
    · have i1 : ¬ (k : Int) < (N.length : Int) := by omega
      obtain ⟨w13, rfl⟩ : ∃ x, x = wr := ⟨_, rfl⟩
      have h1213 := hT.size
      have ox2 := own_turns ox hT (fun g hg => by have := HGx.out g hg; omega)
      clear hlt hk ox oa
      go_wp2_with fail
      go_loopw [24] (fun i wr => ∃ (k : Nat) (xs : List Value), k ≤ lx.length ∧ i = .int .i64 k ∧ wr.ownsRow w7.heap.size 9 1 (.slice aX lx.length cX) lx.length xs ∧ Turns (fun g => w7.heap.size ≤ g ∧ g < w8.heap.size) w13 wr) (fun i _ => lx.length - (intOf i).toNat)
      case atStart => exact ⟨0, _, Nat.zero_le _, rfl, ox2, Turns.refl _ _⟩
      case round =>
        obtain ⟨k2, xs2, hk2, rfl, ox', hT2⟩ := hrel
        by_cases hlt2 : k2 < lx.length
        · have i2 : (k2 : Int) < (lx.length : Int) := by omega
          obtain ⟨ga, ca', hva, hga, _⟩ := ox'.form (by omega)
          obtain ⟨rfl, rfl⟩ : aX = some ⟨ga, 0, none⟩ ∧ cX = ca' := by cases hva; exact ⟨rfl, rfl⟩
          have hxl := ox'.1
          have q0 := ox'.cellAt k2 (by omega)
          rw [List.getElem?_eq_getElem (by omega)] at q0
          generalize xs2[k2]'(by omega) = y0 at q0
          have f0 := ox'.frozenAt k2
          obtain ⟨st1, gr1⟩ := ox'.stored k2 (.string ⟨#[63]⟩)
          have T1 := hT2.grown gr1 (fun g hg => .inl (by cases hg; exact HGx.out _ rfl))
          clear gr1
          go_wp2_with fail
          go_roundw
          case rel => exact ⟨k2 + 1, _, by omega, by go_num, st1, T1⟩
          case measure => simp [intOf]; omega
        · have i2 : ¬ (k2 : Int) < (lx.length : Int) := by omega
          obtain ⟨w14, rfl⟩ : ∃ x, x = wr := ⟨_, rfl⟩
          have h1314 := hT2.size
          have oa2 := own_turns oa' hT2 (fun g hg => by have := HGa.out g hg; omega)
          have hC : Cst (fun g => w8.heap.size ≤ g ∧ g < w9.heap.size) (fun g => w8.heap.size ≤ g ∧ g < w9.heap.size) w14 w14 w8.heap.size gc K.length cc xc (K.map fun p => p.map Value.string) :=
            ⟨own_turns (own_turns oc hT (fun g hg => by have e : gc = g := Option.some.inj hg; omega)) hT2 (fun g hg => by have e : gc = g := Option.some.inj hg; omega), (dc.turns hT (fun g hg q => by have := hg.1; have := q.2; omega)).turns hT2 (fun g hg q => by have := hg.1; have := q.2; omega), by simp, Turns.refl _ _⟩
          have HS0 : Hid (LenK K (K.map fun p => p.map Value.string)) := LenK.start K
          clear hlt2 hk2 ox2 oa' oc dc
          go_wp2_with fail
          go_loopw [25] (fun i wr => ∃ (k : Nat) (ys : List (List Value)), k ≤ K.length ∧ i = .int .i64 k ∧ Cst (fun g => w8.heap.size ≤ g ∧ g < w9.heap.size) (fun g => w8.heap.size ≤ g ∧ g < w9.heap.size) w14 wr w8.heap.size gc K.length cc xc ys ∧ Hid (LenK K ys) ∧ Hid (DoneQ ys k 0)) (fun i _ => K.length - (intOf i).toNat)
          case atStart => exact ⟨0, _, Nat.zero_le _, rfl, hC, HS0, DoneQ.start _⟩
          case round =>
            obtain ⟨k3, ys, hk3, rfl, hC3, HL3, HD3⟩ := hrel
            clear HS0 hC
            by_cases hlt3 : k3 < K.length
            · have i3 : (k3 : Int) < (K.length : Int) := by omega
              have kl := HKL.out k3 hlt3
              generalize hm3 : (K[k3]'hlt3).length = m3 at kl
              have HM3 : Hid ((K[k3]'hlt3).length = m3) := hm3
              clear hm3
              go_wp2_with fail
              go_loopw [26] (fun j wq => ∃ (t : Nat) (zs : List (List Value)), t ≤ m3 ∧ j = .int .i64 t ∧ Cst (fun g => w8.heap.size ≤ g ∧ g < w9.heap.size) (fun g => w8.heap.size ≤ g ∧ g < w9.heap.size) w14 wq w8.heap.size gc K.length cc xc zs ∧ Hid (LenK K zs) ∧ Hid (DoneQ zs k3 t)) (fun j _ => m3 - (intOf j).toNat)
              case atStart => exact ⟨0, ys, Nat.zero_le _, rfl, hC3, HL3, HD3⟩
              case round =>
                obtain ⟨t, zs, ht, rfl, hCq, HLq, HDq⟩ := hrel
                have hzk : k3 < zs.length := by rw [hCq.len]; exact hlt3
                obtain ⟨ad3, c3, x3, e3, o3, hc3m, hc3n⟩ := hCq.look hlt3 hzk
                have f3 := hCq.frozen k3
                have hzm : (zs[k3]'hzk).length = m3 := (HLq.out k3 hzk hlt3).trans HM3.out
                have HZM : Hid ((zs[k3]'hzk).length = m3) := hzm
                rw [hzm] at e3
                unfold maxLen at hc3m
                by_cases hltq : t < m3
                · have iq : (t : Int) < (m3 : Int) := by omega
                  obtain ⟨gu, cu, hvu, hgu, _⟩ := o3.form (by rw [hzm]; omega)
                  obtain ⟨rfl, rfl⟩ : ad3 = some ⟨gu, 0, none⟩ ∧ c3 = cu := by cases hvu; exact ⟨rfl, rfl⟩
                  have q0 := o3.cellAt t (by rw [hzm]; omega)
                  rw [List.getElem?_eq_getElem (by rw [hzm]; omega)] at q0
                  generalize (zs[k3]'hzk)[t]'(by rw [hzm]; omega) = y0 at q0
                  have f0 := o3.frozenAt t
                  have C1 := hCq.store (fun k hk => .inl hk) hzk x3 t (.string ⟨#[63]⟩)
                  have HL1 : Hid (LenK K (zs.set k3 ((zs[k3]'hzk).set t (.string ⟨#[63]⟩)))) := LenK.set HLq.out (fun hi => by simp)
                  have HD1 : Hid (DoneQ (zs.set k3 ((zs[k3]'hzk).set t (.string ⟨#[63]⟩))) k3 (t + 1)) := DoneQ.step HDq.out hzk
                  clear hzm hc3n o3 x3 HZM hvu
                  go_wp2_with fail
                  go_roundw
                  case rel => exact ⟨t + 1, _, by omega, by go_num, C1, HL1, HD1⟩
                  case measure => simp [intOf]; omega
                · have iq : ¬ (t : Int) < (m3 : Int) := by omega
                  have HD1 : Hid (DoneQ zs (k3 + 1) 0) := DoneQ.next HDq.out hzk (by rw [hzm]; omega)
                  clear hzm hc3n o3 x3 HZM
                  go_wp2_with fail
                  go_roundw
                  case rel => exact ⟨k3 + 1, zs, by omega, by go_num, hCq, HLq, HD1⟩
                  case measure => simp [intOf]; omega
            · have i3 : ¬ (k3 : Int) < (K.length : Int) := by omega
              obtain ⟨w15, rfl⟩ : ∃ x, x = wr := ⟨_, rfl⟩
              have T15 := hC3.turns
              have h1415 := T15.size
              have oa3 := own_turns oa2 T15 (fun g hg => by have := HGa.out g hg; omega)
              have ox3 := own_turns ox' T15 (fun g hg => by have := HGx.out g hg; omega)
              have HG0 : Hid (Grew K ys 0) := Grew.start HD3.out HL3.out (by rw [hC3.len]; omega)
              clear hlt3 oa2 ox' HL3 HD3
              go_wp2_with (at_builtin; refine wpList_append_far _ rfl _ _ 23 rfl w5.heap.size 9 iS (.string ⟨#[]⟩) 1 16 Try.underlying23 hj hy0 hy1 hy2 rfl (by decide) _ _ _ rfl (oa3.alloc _) ⟨w15.heap.size, 0, none⟩ 1 1 [.string ⟨#[109, 111, 114, 101]⟩] rfl rfl (cell_one_new _ _ _) ?c2 ?c3 ?c4 ?c5 ?_)
              case c2 => first | rfl | (intro u hu; simp at hu; subst hu; rfl)
              case c3 => unfold maxLen; omega
              case c4 => omega
              case c5 => first | omega | (simp; omega)
              intro va2 w16 oa4 hgr16 _ hat16
              have T16 : Turns (fun g => w5.heap.size ≤ g ∧ g < w6.heap.size) w15 w16 := ((Turns.refl _ w15).alloc _).grown hgr16 (fun g hg => .inl (HGa.out g hg))
              have h1516 := T16.size
              have HGa2 : Hid (∀ g, va2.ownBlock = some g → (w5.heap.size ≤ g ∧ g < w6.heap.size) ∨ w15.heap.size ≤ g) := fun g hg => by
                rcases hat16 with e | e
                · exact .inl (HGa.out g (e.symm.trans hg))
                · rw [e] at hg; have := Option.some.inj hg; exact .inr (by first | omega | (simp at this; omega))
              have ox4 := own_turns ox3 T16 (fun g hg => by have := HGx.out g hg; omega)
              have C16 : Cst (fun g => w8.heap.size ≤ g ∧ g < w9.heap.size) (fun g => w8.heap.size ≤ g ∧ g < w9.heap.size) w16 w16 w8.heap.size gc K.length cc xc ys :=
                ⟨own_turns hC3.row T16 (fun g hg => by have e : gc = g := Option.some.inj hg; omega), hC3.deep.turns T16 (fun g hg q => by have := hg.1; have := q.2; omega), hC3.len, Turns.refl _ _⟩
              obtain ⟨aA2, cA2, rfl, hcA21, hcA22⟩ := own_slice oa4
              unfold maxLen at hcA22
              clear oa3 ox3 hgr16 hat16 hC3
              go_wp2_with (at_builtin; refine wpList_append_far _ rfl _ _ 23 rfl w7.heap.size 9 iS (.string ⟨#[]⟩) 1 16 Try.underlying23 hj hy0 hy1 hy2 rfl (by decide) _ _ _ rfl (ox4.alloc _) ⟨w16.heap.size, 0, none⟩ 1 1 [.string ⟨#[109, 111, 114, 101]⟩] rfl rfl (cell_one_new _ _ _) ?c2 ?c3 ?c4 ?c5 ?_)
              case c2 => first | rfl | (intro u hu; simp at hu; subst hu; rfl)
              case c3 => unfold maxLen; omega
              case c4 => omega
              case c5 => first | omega | (simp; omega)
              intro vx2 w17 ox5 hgr17 _ hat17
              have T17 : Turns (fun g => w7.heap.size ≤ g ∧ g < w8.heap.size) w16 w17 := ((Turns.refl _ w16).alloc _).grown hgr17 (fun g hg => .inl (HGx.out g hg))
              have h1617 := T17.size
              have HGx2 : Hid (∀ g, vx2.ownBlock = some g → (w7.heap.size ≤ g ∧ g < w8.heap.size) ∨ w16.heap.size ≤ g) := fun g hg => by
                rcases hat17 with e | e
                · exact .inl (HGx.out g (e.symm.trans hg))
                · rw [e] at hg; have := Option.some.inj hg; exact .inr (by first | omega | (simp at this; omega))
              have oa5 := own_turns oa4 T17 (fun g hg => by have := HGa2.out g hg; omega)
              have hC4 : Cst (fun g => (w8.heap.size ≤ g ∧ g < w9.heap.size) ∨ w17.heap.size ≤ g) (fun g => w8.heap.size ≤ g ∧ g < w9.heap.size) w17 w17 w8.heap.size gc K.length cc xc ys :=
                ⟨own_turns C16.row T17 (fun g hg => by have e : gc = g := Option.some.inj hg; omega), (C16.deep.turns T17 (fun g hg q => by have := hg.1; have := q.2; omega)).mono (fun g hg => .inl hg), C16.len, Turns.refl _ _⟩
              obtain ⟨aX2, cX2, rfl, hcX21, hcX22⟩ := own_slice ox5
              unfold maxLen at hcX22
              clear ox4 oa4 hgr17 hat17 C16
              go_wp2_with fail
              go_loopw [27] (fun i wr => ∃ (k : Nat) (xs : List Value) (ys : List (List Value)), k ≤ K.length ∧ i = .int .i64 k ∧ Cst (fun g => (w8.heap.size ≤ g ∧ g < w9.heap.size) ∨ w17.heap.size ≤ g) (fun g => w8.heap.size ≤ g ∧ g < w9.heap.size) w17 wr w8.heap.size gc K.length cc xs ys ∧ Hid (Grew K ys k)) (fun i _ => K.length - (intOf i).toNat)
              case atStart => exact ⟨0, _, _, Nat.zero_le _, rfl, hC4, HG0⟩
              case round =>
                obtain ⟨k4, xs4, ys4, hk4, rfl, hC4', HG4⟩ := hrel
                clear hC4 HG0
                have T18 := hC4'.turns.size
                by_cases hlt4 : k4 < K.length
                · have i4 : (k4 : Int) < (K.length : Int) := by omega
                  have hzk : k4 < ys4.length := by rw [hC4'.len]; exact hlt4
                  obtain ⟨ad4, c4', x4, e4, o4, hc4m, hc4n⟩ := hC4'.look hlt4 hzk
                  have hym : (ys4[k4]'hzk).length = (K[k4]'hlt4).length := by rw [HG4.out.at hzk hlt4, List.length_replicate]
                  have kl := HKL.out k4 hlt4
                  rw [← hym] at kl
                  have HGN : Hid (Grew K (ys4.set k4 ((ys4[k4]'hzk) ++ [more, more])) (k4 + 1)) := Grew.step HG4.out hzk
                  have C5 := hC4'.below ((Below.refl _ _).alloc (Nat.le_refl _) (.cells #[.string ⟨#[109, 111, 114, 101]⟩, .string ⟨#[109, 111, 114, 101]⟩] 9))
                  generalize (ys4[k4]'hzk) = y4 at *
                  unfold maxLen at hc4m
                  clear hym
                  go_wp2_with (at_builtin; refine wpList_append_far _ rfl _ _ 23 rfl w8.heap.size 9 iS (.string ⟨#[]⟩) 1 16 Try.underlying23 hj hy0 hy1 hy2 rfl (by decide) _ _ _ rfl (o4.alloc _) ⟨wr.heap.size, 0, none⟩ 2 2 [.string ⟨#[109, 111, 114, 101]⟩, .string ⟨#[109, 111, 114, 101]⟩] rfl rfl (cell_two_new _ _ _ _) ?c2 ?c3 ?c4 ?c5 ?_)
                  case c2 => first | rfl | exact ⟨rfl, rfl⟩ | (intro u hu; simp at hu; subst hu; rfl)
                  case c3 => unfold maxLen; omega
                  case c4 => omega
                  case c5 => first | omega | (simp; omega)
                  intro u5 w18 ou5 hgr18 _ hat18
                  have r18 := C5.kept hzk x4 hgr18
                  have q0 := r18.cellAt k4 (by omega)
                  rw [x4] at q0
                  have f0 := r18.frozenAt k4
                  have C6 := C5.grew (fun k hk => hk) hzk x4 (y' := y4 ++ [more, more]) (by rw [List.length_append]; exact ou5) hgr18 hat18 (by simp) (.inr (by first | omega | (simp; omega))) (.inl hgc)
                  obtain ⟨a6, c6, rfl, hc61, hc62⟩ := own_slice ou5
                  unfold maxLen at hc62
                  clear ou5 hgr18 hat18 r18 C5 x4 o4 e4
                  go_wp2_with fail
                  go_roundw
                  case rel => exact ⟨k4 + 1, _, _, by omega, by go_num, C6, HGN⟩
                  case measure => simp [intOf]; omega
                · have i4 : ¬ (k4 : Int) < (K.length : Int) := by omega
                  obtain ⟨w19, rfl⟩ : ∃ x, x = wr := ⟨_, rfl⟩
                  have C7 := hC4'
                  have h1719 := T18
                  clear hC4' T18
                  go_wp2_with fail
                  go_loopw [28] (fun i wr => ∃ k : Nat, k ≤ K.length ∧ i = .int .i64 k ∧ Below w19.heap.size w19 wr) (fun i _ => K.length - (intOf i).toNat)
                  case atStart => exact ⟨0, Nat.zero_le _, rfl, Below.refl _ _⟩
                  case round =>
                    obtain ⟨k5, hk5, rfl, hB5⟩ := hrel
                    have hs5 := hB5.size
                    by_cases hlt5 : k5 < K.length
                    · have i5 : (k5 : Int) < (K.length : Int) := by omega
                      have C8 := C7.below hB5
                      have hzk : k5 < ys4.length := by rw [C8.len]; exact hlt5
                      obtain ⟨ad5, c5', x5, e5, o5, hc5m, hc5n⟩ := C8.look hlt5 hzk
                      have hy5 := HG4.out.below (show k5 < k4 by omega) hzk hlt5
                      have kl := HKL.out k5 hlt5
                      obtain ⟨m5, hm5⟩ : ∃ m5, (K[k5]'hlt5).length = m5 := ⟨_, rfl⟩
                      rw [hm5] at hy5 kl
                      rw [hy5] at e5 o5 hc5n
                      rw [show (List.replicate m5 quest ++ [more, more]).length = m5 + 2 by simp] at e5 o5 hc5n
                      obtain ⟨gu, cu, hvu, hgu, _⟩ := o5.form (by omega)
                      obtain ⟨rfl, rfl⟩ : ad5 = some ⟨gu, 0, none⟩ ∧ c5' = cu := by cases hvu; exact ⟨rfl, rfl⟩
                      have q1' : wr.cell? ⟨gu, m5 + 1, none⟩ = some (.string ⟨#[109, 111, 114, 101]⟩) := by rw [o5.cellAt (m5 + 1) (by omega)]; simp [more]
                      have q2' : wr.cell? ⟨gu, m5, none⟩ = some (.string ⟨#[109, 111, 114, 101]⟩) := by rw [o5.cellAt m5 (by omega)]; simp [more]
                      have HQ : Hid (∀ (wq : World) (t : Nat), t < m5 → Below w19.heap.size w19 wq → wq.cell? ⟨gu, t, none⟩ = some (.string ⟨#[63]⟩) ∧ wq.cell? ⟨gc, k5, none⟩ = some (.slice (some ⟨gu, 0, none⟩) (m5 + 2) c5')) := fun wq t ht hq => by
                        have C9 := C7.below hq
                        obtain ⟨ad6, c6', x6, e6, o6, _, _⟩ := C9.look hlt5 hzk
                        rw [x5] at x6
                        cases x6
                        rw [hy5] at e6 o6
                        rw [show (List.replicate m5 quest ++ [more, more]).length = m5 + 2 by simp] at e6 o6
                        refine ⟨?_, e6⟩
                        rw [o6.cellAt t (by omega), List.getElem?_append_left (by simpa using ht)]
                        simp [ht, quest]
                      unfold maxLen at hc5m
                      clear hvu hy5 x5 o5 hm5 C8
                      have n1 : ¬ ((m5 : Int) + 2 < 2) := by omega
                      go_wp2_with fail
                      go_loopw [30] (fun j wq => ∃ t : Nat, t ≤ m5 ∧ j = .int .i64 t ∧ Below w19.heap.size w19 wq) (fun j _ => m5 - (intOf j).toNat)
                      case atStart => exact ⟨0, Nat.zero_le _, rfl, hB5⟩
                      case round =>
                        obtain ⟨t, ht, rfl, hBq⟩ := hrel
                        by_cases hltq : t < m5
                        · have iq : (t : Int) < (m5 : Int) := by omega
                          obtain ⟨r1, r2⟩ := HQ.out _ t hltq hBq
                          clear e5 q1' q2'
                          go_wp2_with fail
                          go_roundw
                          case rel => exact ⟨t + 1, by omega, by go_num, hBq⟩
                          case measure => simp [intOf]; omega
                        · have iq : ¬ (t : Int) < (m5 : Int) := by omega
                          clear e5 q1' q2'
                          go_wp2_with fail
                          go_roundw
                          case rel => exact ⟨k5 + 1, by omega, by go_num, hBq⟩
                          case measure => simp [intOf]; omega
                    · have i5 : ¬ (k5 : Int) < (K.length : Int) := by omega
                      have TT : Turns (fun g => (w5.heap.size ≤ g ∧ g < w6.heap.size) ∨ (w7.heap.size ≤ g ∧ g < w9.heap.size)) w12 wr :=
                        ((((((hT.mono (fun g q => .inl q)).trans (hT2.mono (fun g q => .inr ⟨q.1, by have := q.2; omega⟩))).trans (T15.mono (fun g q => .inr ⟨by have := q.1; omega, q.2⟩))).trans (T16.mono (fun g q => .inl q))).trans (T17.mono (fun g q => .inr ⟨q.1, by have := q.2; omega⟩))).trans (C7.turns.mono (fun g q => .inr ⟨by have := q.1; omega, q.2⟩))).trans (Turns.of hB5)
                      have ob9 := own_turns ob TT (fun g hg => by have := HGb.out g hg; omega)
                      obtain ⟨_, _, e9, sb⟩ := own_strs ob9 (by omega) (names_size NM.out.1)
                      cases e9
                      have ok9 := own_turns ok TT (fun g hg => by have := (ok.lt g hg).1; omega)
                      obtain ⟨ak, ck, rfl, sk⟩ := own_strs ok9 (by omega) (names_size NM.out.1)
                      have hd9 := prow2_turns hd TT (fun g hg q => by rcases q with q | q <;> (have := q.2; omega))
                      obtain ⟨_, _, e9, sd⟩ := hd9.prow.pts (by omega)
                      cases e9
                      have hv9 := prow2_turns hv TT (fun g hg q => by rcases q with q | q <;> (have := q.2; omega))
                      obtain ⟨ao, co, rfl, so⟩ := hv9.prow.pts (by omega)
                      have hb5e : Below w5.heap.size w5 wr := hb512.trans (TT.below (by omega) (fun g hg q => by rcases q with q | q <;> (have := q.1; omega)))
                      have s59 := s5.below hb5e
                      have hA9 := hA.below hb5e
                      have s49 := s4.below hb5e
                      have HB9 := HB.trans (hb5e.mono h15)
                      have hf9 := hf.below HB9
                      have oa9 := own_below (own_turns oa5 C7.turns (fun g hg => by have := HGa2.out g hg; omega)) hB5
                      have ox9 := own_below (own_turns ox5 C7.turns (fun g hg => by have := HGx2.out g hg; omega)) hB5
                      have HE : Hid (Pl.sameP N N = true) := (Pl.same_iff N N).2 rfl
                      have HE2 : Hid (Pl.sameP f f = true) := (Pl.same_iff f f).2 rfl
                      have HBE : Below w.heap.size w wr := hB.trans (HB9.mono h01)
                      clear TT ob ok hd hv ob9 ok9 hd9 hv9 hb512 hb5e s5 hA s4 HB hf hB HB9 oa5 ox5 C7 hT hT2 T15 T16 T17 hB5 HGa HGb HGx HGa2 HGx2 HG4 HKL
                      go_wp2_with fail
                      refine (same_b _ _ _ _ N N _ sb sk).mono ?_
                      rw [HE.out]
                      rintro e w20 ⟨rfl, hb⟩
                      replace sd := sd.below hb; replace so := so.below hb; replace s59 := s59.below hb; replace hA9 := hA9.below hb; replace s49 := s49.below hb; replace hf9 := hf9.below hb; replace oa9 := own_below oa9 hb; replace ox9 := own_below ox9 hb; replace HBE := HBE.trans (hb.mono HBE.size); clear hb sb sk
                      go_wp2_with fail
                      refine (alike_self _ _ _ _ K _ sd so).mono ?_
                      rintro e w21 ⟨rfl, hb⟩
                      replace s59 := s59.below hb; replace hA9 := hA9.below hb; replace s49 := s49.below hb; replace hf9 := hf9.below hb; replace oa9 := own_below oa9 hb; replace ox9 := own_below ox9 hb; replace HBE := HBE.trans (hb.mono HBE.size); clear hb sd so
                      go_wp2_with fail
                      refine (same_b _ _ _ _ f f _ s59 hf9).mono ?_
                      rw [HE2.out]
                      rintro e w22 ⟨rfl, hb⟩
                      replace hA9 := hA9.below hb; replace s49 := s49.below hb; replace oa9 := own_below oa9 hb; replace ox9 := own_below ox9 hb; replace HBE := HBE.trans (hb.mono HBE.size); clear hb s59 hf9
                      go_wp2_with fail
                      refine (alike_self _ _ _ _ A _ hA9 s49).mono ?_
                      rintro e w23 ⟨rfl, hb⟩
                      replace oa9 := own_below oa9 hb; replace ox9 := own_below ox9 hb; replace HBE := HBE.trans (hb.mono HBE.size); clear hb hA9 s49
                      obtain ⟨gA, cA3, hvA, _, _⟩ := oa9.form (by omega)
                      obtain ⟨rfl, rfl⟩ : aA2 = some ⟨gA, 0, none⟩ ∧ cA2 = cA3 := by cases hvA; exact ⟨rfl, rfl⟩
                      obtain ⟨gX, cX3, hvX, _, _⟩ := ox9.form (by omega)
                      obtain ⟨rfl, rfl⟩ : aX2 = some ⟨gX, 0, none⟩ ∧ cX2 = cX3 := by cases hvX; exact ⟨rfl, rfl⟩
                      have lA := oa9.1
                      have lX := ox9.1
                      have qA : w23.cell? ⟨gA, N.length, none⟩ = some (.string ⟨#[109, 111, 114, 101]⟩) := by
                        rw [oa9.cellAt N.length (by omega), List.getElem?_append_right (by simp at lA; omega)]
                        simp at lA; simp [lA]
                      have qX : w23.cell? ⟨gX, lx.length, none⟩ = some (.string ⟨#[109, 111, 114, 101]⟩) := by
                        rw [ox9.cellAt lx.length (by omega), List.getElem?_append_right (by simp at lX; omega)]
                        simp at lX; simp [lX]
                      clear lA lX oa9 ox9 hvA hvX
                      go_wp2_with fail
                      go_ret
                      exact ⟨ret_bool (by simp), HBE⟩
end Go.Proofs.Ytmbpebdceaihaac
