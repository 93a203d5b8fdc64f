/- One round of what (*run).states hands back, behind the mark. One round of what (*run).states hands back, from the mark on. What the iterator of (*run).states yields. -/
import Derived.Test.YtdiokclbdaojpaaDoorNfS3
namespace Go.Proofs.YtdiokclbdaojpaaDoor
open Go Go.RowKit Go.Shelf

attribute [local go_sem] Oper.semAt_some

namespace Nt
noncomputable def stB : Code := match Tryd.f82.body with | some (.seq _ (.block _ (.loop b))) => b | _ => .skip
noncomputable def stC2 : Code := match stB with | .seq _ (.block _ b) => b | _ => .skip
noncomputable def stC4 : Code := match stC2 with | .seq _ (.seq _ b) => b | _ => .skip
noncomputable def stC6 : Code := match stC4 with | .seq _ (.seq _ b) => b | _ => .skip
/-- What holds of what is left, of the marks and of what was yielded. -/
def StI (L : List Ins) (n a : Nat) (ALL MALL : List Nat) (l m pre : List Nat) : Prop :=
  pre ++ (stF L n a (mu l m (a + 1)) l m).1 = ALL ∧ (stF L n a (mu l m (a + 1)) l m).2 = MALL ∧ (∀ i ∈ l, i < L.length) ∧ m.length = L.length ∧ pre.length + opn m (a + 1) ≤ L.length ∧ mu l m (a + 1) ≤ 2 * L.length + 1
def StR (rb g B0 B1 B2 : Nat) (ca : Option Addr) (cc : Nat) (L : List Nt.Ins) (s : ByteArray) (i0 at' : Nat) (J : (Nat → Prop) → List Nat → World → Prop) (ALL MALL : List Nat) (W : World) : Prop :=
  ∃ lv l m pre, Sx W rb g B0 B1 B2 ca cc L s i0 at' lv l m ∧ J (Ox rb g B0 B1 B2 lv) pre W ∧ StI L s.size at' ALL MALL l m pre
set_option maxRecDepth 1000000 in
def StW (yl B0 B1 B2 : Nat) (Rel : World → Prop) (a : Act) (w : World) : Prop :=
  ∃ u4 u5 u6 u7 u8 u9 u10 u11 u12 u13 u14 u15 u16 u17 u18 u19 u20 u21 u22 u23 u24 u25 u26 u27 u28 u29 u30 u31 u32 u33 u34 u35 u36 u37 u38 u39 u40 u41 u42 u43 u44 u45 u46 u47 u48 u49 u50 u51 u52 u53 u54 u55 u56 u57 u58 u59 u60 u61 u62 u63 u64 u65 u66 u67 u68 u69 u70 u71 u72 u73 u74 u75 u76 u77 u78 u79 u80 u81 u82 u83 u84 u85 u86 u87 u88 u89 : Value, Rel w ∧ a = ⟨#[.func (.yield yl) #[] #[], .pointer (some ⟨B0, 0, none⟩), .pointer (some ⟨B1, 0, none⟩), .pointer (some ⟨B2, 0, none⟩), u4, u5, u6, u7, u8, u9, u10, u11, u12, u13, u14, u15, u16, u17, u18, u19, u20, u21, u22, u23, u24, u25, u26, u27, u28, u29, u30, u31, u32, u33, u34, u35, u36, u37, u38, u39, u40, u41, u42, u43, u44, u45, u46, u47, u48, u49, u50, u51, u52, u53, u54, u55, u56, u57, u58, u59, u60, u61, u62, u63, u64, u65, u66, u67, u68, u69, u70, u71, u72, u73, u74, u75, u76, u77, u78, u79, u80, u81, u82, u83, u84, u85, u86, u87, u88, u89], []⟩
/-- How a round may be left. -/
def StQ (yl rb g B0 B1 B2 t M0 : Nat) (Rel : World → Prop) (R : Ending → World → Prop) : Exit → Act → World → Prop :=
  Exit.then (fun a' w' => StW yl B0 B1 B2 Rel a' w' ∧ muW rb g t w' < M0) (Exit.inBlock 0 (bodyPost Tryd.prog Tryd.f82 R))
end Nt

set_option maxRecDepth 1000000 in
set_option maxHeartbeats 8000000 in
theorem st6_in (n yl : Nat) (rb g B0 B1 B2 : Nat) (ca : Option Addr) (cc : Nat) (L : List Nt.Ins) (s : ByteArray) (i0 at' : Nat) (J : (Nat → Prop) → List Nat → World → Prop) (Jx : (Nat → Prop) → World → Prop) (R : Ending → World → Prop) (ALL MALL : List Nat) (M0 : Nat)
    (hJ : Abi J) (hRx : ∀ O v W', Jx O W' → R (.returned v) W')
    (hY : ∀ O pre x W1, J O pre W1 → (∃ lv l m, Nt.Sx W1 rb g B0 B1 B2 ca cc L s i0 at' lv l m ∧ O = Nt.Ox rb g B0 B1 B2 lv) → (∃ h : x < L.length, (L[x]).k = 1 ∨ (L[x]).k = 12) → pre.length < L.length → (pre ++ [x]) <+: ALL → YieldAt Fence.wide (n - 1) Tryd.prog yl #[.int .i64 (x : Int)] W1 fun e W' =>
      (e = .returned (.bool true) ∧ J O (pre ++ [x]) W' ∧ Ke (fun k => O k ∨ Nt.Zc ca k) W1 W') ∨ (e = .returned (.bool false) ∧ Jx O W' ∧ Ke (fun k => O k ∨ Nt.Zc ca k) W1 W'))
    (hto : ∀ i (h : i < L.length), 0 ≤ (L[i]).to ∧ (L[i]).to ≤ 1048576) (hat : at' ≤ s.size)
    (lv : Value) (l m pre : List Nat) (i : Nat) (W : World) (hS : Nt.Sx W rb g B0 B1 B2 ca cc L s i0 at' lv l m) (hJ0 : J (Nt.Ox rb g B0 B1 B2 lv) pre W) (hi : i < L.length) (hl : l.length ≤ 1048576) (hp : pre.length < L.length)
    (h1 : (L[i]).k = 1 ∨ (L[i]).k = 12 → Nt.StI L s.size at' ALL MALL l m (pre ++ [i]) ∧ Nt.mu l m (at' + 1) < M0)
    (h2 : ¬ ((L[i]).k = 1 ∨ (L[i]).k = 12) → Nt.StI L s.size at' ALL MALL (l ++ Nt.nxt (L[i]) i at' s.size) m pre ∧ Nt.mu (l ++ Nt.nxt (L[i]) i at' s.size) m (at' + 1) < M0)
    (u4 u6 u7 u8 u9 u10 u11 u12 u13 u14 u15 u16 u17 u18 u19 u20 u21 u22 u23 u24 u25 u26 u27 u28 u29 u30 u31 u32 u33 u34 u35 u36 u37 u38 u39 u40 u41 u42 u43 u44 u45 u46 u47 u48 u49 u50 u51 u52 u53 u54 u55 u56 u57 u58 u59 u60 u61 u62 u63 u64 u65 u66 u67 u68 u69 u70 u71 u72 u73 u74 u75 u76 u77 u78 u79 u80 u81 u82 u83 u84 u85 u86 u87 u88 u89 : Value) :
    Nt.stC6.wpIn Fence.wide n Tryd.prog (Exit.inBlock 1 (Nt.StQ yl rb g B0 B1 B2 (at' + 1) M0 (Nt.StR rb g B0 B1 B2 ca cc L s i0 at' J ALL MALL) R)) ⟨#[.func (.yield yl) #[] #[], .pointer (some ⟨B0, 0, none⟩), .pointer (some ⟨B1, 0, none⟩), .pointer (some ⟨B2, 0, none⟩), u4, .int .i64 (i : Int), u6, u7, u8, u9, u10, u11, u12, u13, u14, u15, u16, u17, u18, u19, u20, u21, u22, u23, u24, u25, u26, u27, u28, u29, u30, u31, u32, u33, u34, u35, u36, u37, u38, u39, u40, u41, u42, u43, u44, u45, u46, u47, u48, u49, u50, u51, u52, u53, u54, u55, u56, u57, u58, u59, u60, u61, u62, u63, u64, u65, u66, u67, u68, u69, u70, u71, u72, u73, u74, u75, u76, u77, u78, u79, u80, u81, u82, u83, u84, u85, u86, u87, u88, u89], []⟩ W := by
  conv => arg 4; whnf
  obtain ⟨l0, l1, l3, l4⟩ := hS.rn.cells
  have c0 := hS.b0
  have c1 := hS.b1
  have c2 := hS.b2
  have hlen := hS.cd.len
  obtain ⟨b, off, rfl, hb, hcell⟩ := hS.cd.lies i hi
  have x0 : W.cell? ⟨b, off + i * 9, none⟩ = some (.int .u8 (L[i].k : Int)) := hcell 0 (by omega)
  have HS : Hid _ := hS
  have HJ0 : Hid _ := hJ0
  have HJ : Hid _ := hJ
  have HRx : Hid _ := hRx
  have HDD : Hid (Fence.wide.depth.isSome = true → 1 ≤ n) := fun h => by cases h
  obtain ⟨x, hx⟩ : ∃ x, L[i] = x := ⟨_, rfl⟩
  have HX : Hid _ := hx
  have HTo : Hid _ := hto i hi
  have HY : Hid _ := hY
  have H1 : Hid _ := h1
  have H2 : Hid _ := h2
  rw [hx] at x0
  clear hS hJ0 hJ hRx hcell hx hto hY h1 h2
  by_cases hk : x.k = 1 ∨ x.k = 12
  · have hV : ∃ h : i < L.length, (L[i]).k = 1 ∨ (L[i]).k = 12 := ⟨hi, by rw [HX.out]; exact hk⟩
    have HI : Hid _ := H1.out (by rw [HX.out]; exact hk)
    obtain ⟨fn, tmps, assign, body, hy, hR⟩ := HY.out _ pre i W HJ0.out ⟨lv, l, m, HS.out, rfl⟩ hV hp ⟨_, HI.out.1.1⟩
    have hc : ((x.k : Int) != 1) = false ∨ ((x.k : Int) != 1) = true ∧ ((x.k : Int) != 12) = false := by
      rcases hk with h | h
      · exact .inl (by simp [h])
      · exact .inr ⟨by simp [h], by simp [h]⟩
    clear hk hV HTo HY H1 H2
    rcases hc with n1 | ⟨n1, n12⟩
    all_goals
      gi_wp2_with (first | ((try refine ⟨HDD.out, ?_⟩); refine hR.mono ?_; clear hR; rintro e W5 (⟨rfl, hJ5, hK5⟩ | ⟨rfl, hJ5, hK5⟩)))
      · refine ⟨⟨_, _, _, _, _, _, _, _, _, _, _, _, _, _, _, _, _, _, _, _, _, _, _, _, _, _, _, _, _, _, _, _, _, _, _, _, _, _, _, _, _, _, _, _, _, _, _, _, _, _, _, _, _, _, _, _, _, _, _, _, _, _, _, _, _, _, _, _, _, _, _, _, _, _, _, _, _, _, _, _, _, _, _, _, _, _, ⟨_, l, m, pre ++ [i], HS.out.kept hK5, hJ5, HI.out.1⟩, rfl⟩, ?_⟩
        rw [(HS.out.kept hK5).mu]
        exact HI.out.2
      · exact bodyPost_ret (results_none rfl _ _ _) rfl (HRx.out _ _ _ hJ5)
  · have k1 : ((x.k : Int) != 1) = true := by simp; omega
    have k12 : ((x.k : Int) != 12) = true := by simp; omega
    have HI : Hid _ := H2.out (by rw [HX.out]; exact hk)
    have hgo := goOn_any rb (some ⟨b, off, none⟩) cc L s _ _ l i at' W HS.out.rn ⟨HS.out.cd.len, HS.out.cd.room, HS.out.cd.most, HS.out.cd.nil, fun i hi => by obtain ⟨b, off, e, h1, h2⟩ := HS.out.cd.lies i hi; exact ⟨b, off, e, by have := HS.out.far.1; omega, h2⟩⟩ HS.out.lf hi hl hat HTo.out
    rw [HX.out] at hgo HI
    clear hk H1 H2 HY HTo
    gi_wp2_with ((try refine ⟨trivial, ?_⟩); (try refine ⟨HDD.out, ?_⟩); gi_at_call 83; refine ((callsIn_wide (n := n - 1)).2 hgo).mono ?_; clear hgo; rintro e W5 ⟨⟨u, rfl⟩, lv5, hR5, hL5, hZ5⟩)
    have hS5 := HS.out.turn hR5 hL5 hZ5
    refine ⟨⟨_, _, _, _, _, _, _, _, _, _, _, _, _, _, _, _, _, _, _, _, _, _, _, _, _, _, _, _, _, _, _, _, _, _, _, _, _, _, _, _, _, _, _, _, _, _, _, _, _, _, _, _, _, _, _, _, _, _, _, _, _, _, _, _, _, _, _, _, _, _, _, _, _, _, _, _, _, _, _, _, _, _, _, _, _, _, ⟨_, _, _, pre, hS5, HJ.out _ _ _ _ _ HJ0.out (Nt.tu_rz hZ5) (hS5.grow hZ5.row), HI.out.1⟩, rfl⟩, ?_⟩
    rw [hS5.mu]
    exact HI.out.2
end Go.Proofs.YtdiokclbdaojpaaDoor
namespace Go.Proofs.YtdiokclbdaojpaaDoor
open Go Go.RowKit Go.Shelf

attribute [local go_sem] Oper.semAt_some

set_option maxRecDepth 1000000 in
set_option maxHeartbeats 8000000 in
theorem st4_in (n yl : Nat) (rb g B0 B1 B2 : Nat) (ca : Option Addr) (cc : Nat) (L : List Nt.Ins) (s : ByteArray) (i0 at' : Nat) (J : (Nat → Prop) → List Nat → World → Prop) (Jx : (Nat → Prop) → World → Prop) (R : Ending → World → Prop) (ALL MALL : List Nat)
    (hJ : Abi J) (hRx : ∀ O v W', Jx O W' → R (.returned v) W')
    (hY : ∀ O pre x W1, J O pre W1 → (∃ lv l m, Nt.Sx W1 rb g B0 B1 B2 ca cc L s i0 at' lv l m ∧ O = Nt.Ox rb g B0 B1 B2 lv) → (∃ h : x < L.length, (L[x]).k = 1 ∨ (L[x]).k = 12) → pre.length < L.length → (pre ++ [x]) <+: ALL → YieldAt Fence.wide (n - 1) Tryd.prog yl #[.int .i64 (x : Int)] W1 fun e W' =>
      (e = .returned (.bool true) ∧ J O (pre ++ [x]) W' ∧ Ke (fun k => O k ∨ Nt.Zc ca k) W1 W') ∨ (e = .returned (.bool false) ∧ Jx O W' ∧ Ke (fun k => O k ∨ Nt.Zc ca k) W1 W'))
    (hto : ∀ i (h : i < L.length), 0 ≤ (L[i]).to ∧ (L[i]).to ≤ 1048576) (hat : at' ≤ s.size) (hL : Nt.Leads L) (hsz : s.size ≤ 1152921504606846976) (hLp : L.length ≤ 262144)
    (lv : Value) (l m pre : List Nat) (i : Nat) (W : World) (hS : Nt.Sx W rb g B0 B1 B2 ca cc L s i0 at' lv l m) (hJ0 : J (Nt.Ox rb g B0 B1 B2 lv) pre W)
    (hI : Nt.StI L s.size at' ALL MALL (l ++ [i]) m pre) (u4 u6 u7 u8 u9 u10 u11 u12 u13 u14 u15 u16 u17 u18 u19 u20 u21 u22 u23 u24 u25 u26 u27 u28 u29 u30 u31 u32 u33 u34 u35 u36 u37 u38 u39 u40 u41 u42 u43 u44 u45 u46 u47 u48 u49 u50 u51 u52 u53 u54 u55 u56 u57 u58 u59 u60 u61 u62 u63 u64 u65 u66 u67 u68 u69 u70 u71 u72 u73 u74 u75 u76 u77 u78 u79 u80 u81 u82 u83 u84 u85 u86 u87 u88 u89 : Value) :
    Nt.stC4.wpIn Fence.wide n Tryd.prog (Exit.inBlock 1 (Nt.StQ yl rb g B0 B1 B2 (at' + 1) (Nt.mu (l ++ [i]) m (at' + 1)) (Nt.StR rb g B0 B1 B2 ca cc L s i0 at' J ALL MALL) R)) ⟨#[.func (.yield yl) #[] #[], .pointer (some ⟨B0, 0, none⟩), .pointer (some ⟨B1, 0, none⟩), .pointer (some ⟨B2, 0, none⟩), u4, .int .i64 (i : Int), u6, u7, u8, u9, u10, u11, u12, u13, u14, u15, u16, u17, u18, u19, u20, u21, u22, u23, u24, u25, u26, u27, u28, u29, u30, u31, u32, u33, u34, u35, u36, u37, u38, u39, u40, u41, u42, u43, u44, u45, u46, u47, u48, u49, u50, u51, u52, u53, u54, u55, u56, u57, u58, u59, u60, u61, u62, u63, u64, u65, u66, u67, u68, u69, u70, u71, u72, u73, u74, u75, u76, u77, u78, u79, u80, u81, u82, u83, u84, u85, u86, u87, u88, u89], []⟩ W := by
  conv => arg 4; whnf
  obtain ⟨e1, e2, e3, e4, e5, e6⟩ := hI
  have hi : i < L.length := e3 i (by simp)
  have hl2 : ∀ j ∈ l, j < L.length := fun j hj => e3 j (by simp [hj])
  have him : i < m.length := by omega
  have HMp := Nt.mu_pop l m i (at' + 1)
  have HSn := Nt.stF_snoc L s.size at' (Nt.mu l m (at' + 1)) i l m
  have HG : m.getD i 0 = m[i] := by rw [List.getD_eq_getElem?_getD, List.getElem?_eq_getElem him]; rfl
  have HGL : L.getD i Nt.iEnd = L[i] := by rw [List.getD_eq_getElem?_getD, List.getElem?_eq_getElem hi]; rfl
  obtain ⟨l0, l1, l3, l4⟩ := hS.rn.cells
  have c0 := hS.b0
  have c1 := hS.b1
  have c2 := hS.b2
  have cm := hS.marked him
  have hfg : W.frozen? ⟨g, i, none⟩ = false := frozen_of_row W g i _ _ hS.mt
  by_cases hmk : m[i] = at' + 1
  · have hs : Nt.stF L s.size at' (Nt.mu (l ++ [i]) m (at' + 1)) (l ++ [i]) m = Nt.stF L s.size at' (Nt.mu l m (at' + 1)) l m := by
      rw [← HMp, HSn, HG, hmk]
      simp
    rw [hs] at e1 e2
    have HI : Hid (Nt.StI L s.size at' ALL MALL l m pre ∧ Nt.mu l m (at' + 1) < Nt.mu (l ++ [i]) m (at' + 1)) := ⟨⟨e1, e2, hl2, e4, e5, by omega⟩, by omega⟩
    have d : (((m[i] : Nat) : Int) == (at' : Int) + 1) = true := by simp; omega
    have HS : Hid _ := hS
    have HJ0 : Hid _ := hJ0
    have HJ : Hid _ := hJ
    clear e1 e2 e3 e4 e5 e6 hmk hs HMp HSn HG HGL hl2 hS hJ0 hJ hY hto hL hRx
    gi_wp2
    refine wpIn_wide.2 ?_
    go_region
    gi_wp2
    refine ⟨⟨_, _, _, _, _, _, _, _, _, _, _, _, _, _, _, _, _, _, _, _, _, _, _, _, _, _, _, _, _, _, _, _, _, _, _, _, _, _, _, _, _, _, _, _, _, _, _, _, _, _, _, _, _, _, _, _, _, _, _, _, _, _, _, _, _, _, _, _, _, _, _, _, _, _, _, _, _, _, _, _, _, _, _, _, _, _, ⟨_, l, m, pre, HS.out.drew, HJ.out _ _ _ _ _ HJ0.out (Tu.refl _ _).drew (fun k hk => ⟨.inl hk, HS.out.under k hk⟩), HI.out.1⟩, rfl⟩, ?_⟩
    rw [HS.out.drew.mu]
    exact HI.out.2
  · have hs := Nt.mu_set (l := l) him hmk
    have hgo := Nt.mu_go (l := l) (L[i]) at' s.size him hmk
    have ho := Nt.opn_set m (at' + 1) i him hmk
    have hn : (m.getD i 0 == at' + 1) = false := by rw [HG]; simpa using hmk
    have e4' : (m.set i (at' + 1)).length = L.length := by simpa using e4
    rw [← HMp, HSn, hn, HGL] at e1 e2
    simp only [Bool.false_eq_true, if_false] at e1 e2
    have HI1 : Hid ((L[i]).k = 1 ∨ (L[i]).k = 12 → Nt.StI L s.size at' ALL MALL l (m.set i (at' + 1)) (pre ++ [i]) ∧ Nt.mu l (m.set i (at' + 1)) (at' + 1) < Nt.mu (l ++ [i]) m (at' + 1)) := by
      intro hk
      have hkb : ((L[i]).k == 1 || (L[i]).k == 12) = true := by rcases hk with h | h <;> simp [h]
      rw [if_pos hkb, Nt.stF_fuel L hL s.size at' (Nt.mu l m (at' + 1)) (Nt.mu l (m.set i (at' + 1)) (at' + 1)) l _ e4' hl2 (by omega) (Nat.le_refl _)] at e1 e2
      exact ⟨⟨by rw [List.append_assoc]; exact e1, e2, hl2, e4', by simp; omega, by omega⟩, by omega⟩
    have HI2 : Hid (¬ ((L[i]).k = 1 ∨ (L[i]).k = 12) → Nt.StI L s.size at' ALL MALL (l ++ Nt.nxt (L[i]) i at' s.size) (m.set i (at' + 1)) pre ∧ Nt.mu (l ++ Nt.nxt (L[i]) i at' s.size) (m.set i (at' + 1)) (at' + 1) < Nt.mu (l ++ [i]) m (at' + 1)) := by
      intro hk
      have hkb : ¬ ((L[i]).k == 1 || (L[i]).k == 12) = true := by simpa using hk
      have hl3 : ∀ j ∈ l ++ Nt.nxt (L[i]) i at' s.size, j < L.length := by
        intro j hj
        rcases List.mem_append.1 hj with hj | hj
        · exact hl2 j hj
        · have := hL i hi at' s.size (by rw [HGL]; omega) j
          rw [HGL] at this
          exact this hj
      rw [if_neg hkb, Nt.stF_fuel L hL s.size at' (Nt.mu l m (at' + 1)) (Nt.mu (l ++ Nt.nxt (L[i]) i at' s.size) (m.set i (at' + 1)) (at' + 1)) _ _ e4' hl3 (by omega) (Nat.le_refl _)] at e1 e2
      exact ⟨⟨e1, e2, hl3, e4', by omega, by omega⟩, hgo⟩
    have hll : l.length ≤ 1048576 := by simp only [Nt.mu, List.length_append, List.length_singleton] at e6; omega
    have hpl : pre.length < L.length := by omega
    have d : (((m[i] : Nat) : Int) == (at' : Int) + 1) = false := by simp; omega
    have HS : Hid _ := hS
    have HJ0 : Hid _ := hJ0
    have HJ : Hid _ := hJ
    have HY : Hid _ := hY
    have HTo : Hid _ := hto
    have HRx : Hid _ := hRx
    clear e1 e2 e3 e4 e5 e6 e4' hmk hs ho hgo hn HMp HSn HG HGL hl2 hS hJ0 hJ hY hto hL hRx
    gi_wp2
    refine wpIn_wide.2 ?_
    go_region
    gi_wp2
    refine wpIn_wide.2 ?_
    go_region
    gi_step
    gi_step
    have hS4 : Nt.Sx (W.setCell ⟨g, i, none⟩ (.int .i64 ((at' : Int) + 1))).drew.drew rb g B0 B1 B2 ca cc L s i0 at' lv l (m.set i (at' + 1)) := (HS.out.mark (i := i) (t := at' + 1)).drew.drew
    exact st6_in n yl rb g B0 B1 B2 ca cc L s i0 at' J Jx R ALL MALL _ HJ.out HRx.out HY.out HTo.out hat lv l (m.set i (at' + 1)) pre i _ hS4 (HJ.out _ _ _ _ _ HJ0.out ((Tu.refl _ W).setCell (fun _ => .inr (.inl rfl)) _).drew.drew (fun k hk => ⟨.inl hk, hS4.under k hk⟩)) hi hll hpl HI1.out HI2.out _ _ _ _ _ _ _ _ _ _ _ _ _ _ _ _ _ _ _ _ _ _ _ _ _ _ _ _ _ _ _ _ _ _ _ _ _ _ _ _ _ _ _ _ _ _ _ _ _ _ _ _ _ _ _ _ _ _ _ _ _ _ _ _ _ _ _ _ _ _ _ _ _ _ _ _ _ _ _ _ _ _ _ _ _ 
end Go.Proofs.YtdiokclbdaojpaaDoor
namespace Go.Proofs.YtdiokclbdaojpaaDoor
open Go Go.RowKit Go.Shelf

attribute [local go_sem] Oper.semAt_some

set_option maxRecDepth 1000000 in
set_option maxHeartbeats 8000000 in
theorem stB_in (n yl : Nat) (rb g B0 B1 B2 : Nat) (ca : Option Addr) (cc : Nat) (L : List Nt.Ins) (s : ByteArray) (i0 at' : Nat) (J : (Nat → Prop) → List Nat → World → Prop) (Jx : (Nat → Prop) → World → Prop) (ALL MALL : List Nat)
    (hJ : Abi J)
    (hY : ∀ O pre x W1, J O pre W1 → (∃ lv l m, Nt.Sx W1 rb g B0 B1 B2 ca cc L s i0 at' lv l m ∧ O = Nt.Ox rb g B0 B1 B2 lv) → (∃ h : x < L.length, (L[x]).k = 1 ∨ (L[x]).k = 12) → pre.length < L.length → (pre ++ [x]) <+: ALL → YieldAt Fence.wide (n - 1) Tryd.prog yl #[.int .i64 (x : Int)] W1 fun e W' =>
      (e = .returned (.bool true) ∧ J O (pre ++ [x]) W' ∧ Ke (fun k => O k ∨ Nt.Zc ca k) W1 W') ∨ (e = .returned (.bool false) ∧ Jx O W' ∧ Ke (fun k => O k ∨ Nt.Zc ca k) W1 W'))
    (hto : ∀ i (h : i < L.length), 0 ≤ (L[i]).to ∧ (L[i]).to ≤ 1048576) (hat : at' ≤ s.size) (hL : Nt.Leads L) (hsz : s.size ≤ 1152921504606846976) (hLp : L.length ≤ 262144)
    (W : World) (hrel : Nt.StR rb g B0 B1 B2 ca cc L s i0 at' J ALL MALL W) (u4 u5 u6 u7 u8 u9 u10 u11 u12 u13 u14 u15 u16 u17 u18 u19 u20 u21 u22 u23 u24 u25 u26 u27 u28 u29 u30 u31 u32 u33 u34 u35 u36 u37 u38 u39 u40 u41 u42 u43 u44 u45 u46 u47 u48 u49 u50 u51 u52 u53 u54 u55 u56 u57 u58 u59 u60 u61 u62 u63 u64 u65 u66 u67 u68 u69 u70 u71 u72 u73 u74 u75 u76 u77 u78 u79 u80 u81 u82 u83 u84 u85 u86 u87 u88 u89 : Value) :
    Nt.stB.wpIn Fence.wide n Tryd.prog (Nt.StQ yl rb g B0 B1 B2 (at' + 1) (Nt.muW rb g (at' + 1) W) (Nt.StR rb g B0 B1 B2 ca cc L s i0 at' J ALL MALL) (fun e W' => (∃ v, e = .returned v) ∧ ((∃ xs O, (xs = ALL ∧ ∃ lv', Nt.Sx W' rb g B0 B1 B2 ca cc L s i0 at' lv' [] MALL ∧ O = Nt.Ox rb g B0 B1 B2 lv') ∧ J O xs W') ∨ ∃ O, Jx O W'))) ⟨#[.func (.yield yl) #[] #[], .pointer (some ⟨B0, 0, none⟩), .pointer (some ⟨B1, 0, none⟩), .pointer (some ⟨B2, 0, none⟩), u4, u5, u6, u7, u8, u9, u10, u11, u12, u13, u14, u15, u16, u17, u18, u19, u20, u21, u22, u23, u24, u25, u26, u27, u28, u29, u30, u31, u32, u33, u34, u35, u36, u37, u38, u39, u40, u41, u42, u43, u44, u45, u46, u47, u48, u49, u50, u51, u52, u53, u54, u55, u56, u57, u58, u59, u60, u61, u62, u63, u64, u65, u66, u67, u68, u69, u70, u71, u72, u73, u74, u75, u76, u77, u78, u79, u80, u81, u82, u83, u84, u85, u86, u87, u88, u89], []⟩ W := by
  conv => arg 4; whnf
  obtain ⟨lv, l, m, pre, hS, hJ0, hI⟩ := hrel
  obtain ⟨l0, l1, l3, l4⟩ := hS.rn.cells
  have c0 := hS.b0
  have c1 := hS.b1
  have c2 := hS.b2
  have f3 := hS.rn.frozen 3
  have HS : Hid _ := hS
  have HJ0 : Hid _ := hJ0
  have HI : Hid _ := hI
  rcases List.eq_nil_or_concat l with rfl | ⟨l, i, rfl⟩
  · obtain ⟨q0, q1, rfl⟩ : ∃ q0 q1, lv = .slice q0 0 q1 := by
      obtain ⟨_, ⟨rfl, _⟩ | ⟨_, _, _, rfl, _⟩⟩ := hS.lf
      · exact ⟨_, _, rfl⟩
      · exact ⟨_, _, rfl⟩
    clear hS hJ0 hI hJ hY hto hL
    gi_wp2
    simp only [Nt.StQ, Exit.then, Exit.inBlock, if_true]
    refine bodyPost_end (results_none rfl _ _ _) rfl ?_
    obtain ⟨e1, e2, _⟩ := HI.out
    rw [Nt.stF_nil] at e1 e2
    simp only [List.append_nil] at e1
    subst e1 e2
    exact ⟨⟨_, rfl⟩, .inl ⟨_, _, ⟨rfl, _, HS.out, rfl⟩, HJ0.out⟩⟩
  · rw [List.concat_eq_append] at *
    obtain ⟨gl, cl, rfl, hcl, hc1, hc2⟩ := Nt.Lf.form hS.lf
    have hll : l.length ≤ 2 * L.length + 1 := by
      have := hI.2.2.2.2.2
      simp only [Nt.mu, List.length_append, List.length_singleton] at this
      omega
    have hM := hS.mu (at' + 1)
    rw [hM]
    have HJ : Hid _ := hJ
    have HY : Hid _ := hY
    have HTo : Hid _ := hto
    have HL : Hid _ := hL
    clear hS hJ0 hI hJ hY hto hL hM
    gi_wp2
    refine wpIn_wide.2 ?_
    go_region
    gi_wp2
    refine wpIn_wide.2 ?_
    go_region
    gi_step
    gi_step
    have hS3 : Nt.Sx (W.setCell ⟨rb, 3, none⟩ (.slice (some ⟨gl, 0, none⟩) l.length cl)).drew.drew rb g B0 B1 B2 ca cc L s i0 at' (.slice (some ⟨gl, 0, none⟩) l.length cl) l m := HS.out.pop.drew.drew
    exact st4_in n yl rb g B0 B1 B2 ca cc L s i0 at' J Jx _ ALL MALL HJ.out (fun O v W' h => ⟨⟨v, rfl⟩, .inr ⟨O, h⟩⟩) HY.out HTo.out hat HL.out hsz hLp _ l m pre i _ hS3 (HJ.out _ _ _ _ _ HJ0.out ((Tu.refl _ W).setCell (fun _ => .inl rfl) _).drew.drew (fun k hk => ⟨.inl hk, hS3.under k hk⟩)) HI.out _ _ _ _ _ _ _ _ _ _ _ _ _ _ _ _ _ _ _ _ _ _ _ _ _ _ _ _ _ _ _ _ _ _ _ _ _ _ _ _ _ _ _ _ _ _ _ _ _ _ _ _ _ _ _ _ _ _ _ _ _ _ _ _ _ _ _ _ _ _ _ _ _ _ _ _ _ _ _ _ _ _ _ _ _ 

set_option maxRecDepth 1000000 in
set_option maxHeartbeats 8000000 in
theorem states1_seq (n : Nat) (rb g B0 B1 B2 : Nat) (ca : Option Addr) (cc : Nat) (L : List Nt.Ins) (s : ByteArray) (i0 at' : Nat) (lv : Value) (l m : List Nat) (w : World) (hS : Nt.Sx w rb g B0 B1 B2 ca cc L s i0 at' lv l m) (hi0 : i0 < L.length) (hm : m.length = L.length) (hL : Nt.Leads L) (hto : ∀ i (h : i < L.length), 0 ≤ (L[i]).to ∧ (L[i]).to ≤ 1048576) (hat : at' ≤ s.size) (hsz : s.size ≤ 1152921504606846976) (hLp : L.length ≤ 262144) :
    SeqO Fence.wide n Tryd.prog 82 #[.pointer (some ⟨B0, 0, none⟩), .pointer (some ⟨B1, 0, none⟩), .pointer (some ⟨B2, 0, none⟩)] (fun x : Nat => #[.int .i64 (x : Int)]) (fun x => ∃ h : x < L.length, (L[x]).k = 1 ∨ (L[x]).k = 12) (fun O W => ∃ lv l m, Nt.Sx W rb g B0 B1 B2 ca cc L s i0 at' lv l m ∧ O = Nt.Ox rb g B0 B1 B2 lv) (Nt.Zc ca) (Nt.Ox rb g B0 B1 B2 lv) L.length (fun l' => l' <+: (Nt.stF L s.size at' (Nt.mu [i0] m (at' + 1)) [i0] m).1)
      (fun xs O W' => xs = (Nt.stF L s.size at' (Nt.mu [i0] m (at' + 1)) [i0] m).1 ∧ ∃ lv', Nt.Sx W' rb g B0 B1 B2 ca cc L s i0 at' lv' [] (Nt.stF L s.size at' (Nt.mu [i0] m (at' + 1)) [i0] m).2 ∧ O = Nt.Ox rb g B0 B1 B2 lv') w := by
  intro yl J Jx W hT hJ hJx hY hJ0
  have hSW := hS.kept (Ke.of_tu hT (fun k hk => ⟨hk.elim (hS.under k) (fun h => by have := hS.rn.lt; have := hS.far.1; have := hS.cd.code (by omega) k h; omega), id⟩))
  clear hS hT
  obtain ⟨ALL, hALL⟩ : ∃ A, A = (Nt.stF L s.size at' (Nt.mu [i0] m (at' + 1)) [i0] m).1 := ⟨_, rfl⟩
  obtain ⟨MALL, hMALL⟩ : ∃ A, A = (Nt.stF L s.size at' (Nt.mu [i0] m (at' + 1)) [i0] m).2 := ⟨_, rfl⟩
  rw [← hALL, ← hMALL]
  rw [← hALL] at hY
  have HI : Hid (Nt.StI L s.size at' ALL MALL [i0] m []) := ⟨by rw [hALL]; rfl, by rw [hMALL], fun i hi => by simp at hi; omega, hm, by have := Nt.opn_le m (at' + 1); simp; omega, by have := Nt.opn_le m (at' + 1); simp [Nt.mu]; omega⟩
  have HJ : Hid _ := hJ
  have HY : Hid _ := hY
  have HL : Hid _ := hL
  have HT : Hid _ := hto
  clear hALL hMALL hJ hJx hY hL hto hm
  refine callsIn_of_wp Tryd.func82 rfl trivial ?_ rfl
  simp only [Tryd.ntmps82, List.size_toArray, List.length_cons, List.length_nil, Nat.reduceAdd, Nat.reduceSub, Array.replicate_succ, Array.replicate_zero, List.push_toArray, List.append_toArray, List.nil_append, List.cons_append]
  gi_wp2
  refine st0_in n yl rb g B0 B1 B2 ca cc L s i0 at' lv l m W hSW (by omega) _ _ _ ?_
  intro u7 u8 u9 u10 u11 u12 u13 u14 u15 u16 u17 lv1 wx hSx hRz
  have hJ1 := HJ.out _ _ _ _ _ hJ0 (Nt.tu_rz hRz) (hSx.grow hRz.row)
  clear hJ0 hSW hRz
  gi_wp2
  refine wpIn_loop (Nt.StW yl B0 B1 B2 (Nt.StR rb g B0 B1 B2 ca cc L s i0 at' J ALL MALL)) (fun _ w => Nt.muW rb g (at' + 1) w) ?_ ?_
  · exact ⟨_, _, _, _, _, _, _, _, _, _, _, _, _, _, _, _, _, _, _, _, _, _, _, _, _, _, _, _, _, _, _, _, _, _, _, _, _, _, _, _, _, _, _, _, _, _, _, _, _, _, _, _, _, _, _, _, _, _, _, _, _, _, _, _, _, _, _, _, _, _, _, _, _, _, _, _, _, _, _, _, _, _, _, _, _, _, ⟨lv1, [i0], m, [], hSx, hJ1, HI.out⟩, rfl⟩
  · rintro a' W' h
    obtain ⟨u4, h⟩ := h
    obtain ⟨u5, h⟩ := h
    obtain ⟨u6, h⟩ := h
    obtain ⟨u7, h⟩ := h
    obtain ⟨u8, h⟩ := h
    obtain ⟨u9, h⟩ := h
    obtain ⟨u10, h⟩ := h
    obtain ⟨u11, h⟩ := h
    obtain ⟨u12, h⟩ := h
    obtain ⟨u13, h⟩ := h
    obtain ⟨u14, h⟩ := h
    obtain ⟨u15, h⟩ := h
    obtain ⟨u16, h⟩ := h
    obtain ⟨u17, h⟩ := h
    obtain ⟨u18, h⟩ := h
    obtain ⟨u19, h⟩ := h
    obtain ⟨u20, h⟩ := h
    obtain ⟨u21, h⟩ := h
    obtain ⟨u22, h⟩ := h
    obtain ⟨u23, h⟩ := h
    obtain ⟨u24, h⟩ := h
    obtain ⟨u25, h⟩ := h
    obtain ⟨u26, h⟩ := h
    obtain ⟨u27, h⟩ := h
    obtain ⟨u28, h⟩ := h
    obtain ⟨u29, h⟩ := h
    obtain ⟨u30, h⟩ := h
    obtain ⟨u31, h⟩ := h
    obtain ⟨u32, h⟩ := h
    obtain ⟨u33, h⟩ := h
    obtain ⟨u34, h⟩ := h
    obtain ⟨u35, h⟩ := h
    obtain ⟨u36, h⟩ := h
    obtain ⟨u37, h⟩ := h
    obtain ⟨u38, h⟩ := h
    obtain ⟨u39, h⟩ := h
    obtain ⟨u40, h⟩ := h
    obtain ⟨u41, h⟩ := h
    obtain ⟨u42, h⟩ := h
    obtain ⟨u43, h⟩ := h
    obtain ⟨u44, h⟩ := h
    obtain ⟨u45, h⟩ := h
    obtain ⟨u46, h⟩ := h
    obtain ⟨u47, h⟩ := h
    obtain ⟨u48, h⟩ := h
    obtain ⟨u49, h⟩ := h
    obtain ⟨u50, h⟩ := h
    obtain ⟨u51, h⟩ := h
    obtain ⟨u52, h⟩ := h
    obtain ⟨u53, h⟩ := h
    obtain ⟨u54, h⟩ := h
    obtain ⟨u55, h⟩ := h
    obtain ⟨u56, h⟩ := h
    obtain ⟨u57, h⟩ := h
    obtain ⟨u58, h⟩ := h
    obtain ⟨u59, h⟩ := h
    obtain ⟨u60, h⟩ := h
    obtain ⟨u61, h⟩ := h
    obtain ⟨u62, h⟩ := h
    obtain ⟨u63, h⟩ := h
    obtain ⟨u64, h⟩ := h
    obtain ⟨u65, h⟩ := h
    obtain ⟨u66, h⟩ := h
    obtain ⟨u67, h⟩ := h
    obtain ⟨u68, h⟩ := h
    obtain ⟨u69, h⟩ := h
    obtain ⟨u70, h⟩ := h
    obtain ⟨u71, h⟩ := h
    obtain ⟨u72, h⟩ := h
    obtain ⟨u73, h⟩ := h
    obtain ⟨u74, h⟩ := h
    obtain ⟨u75, h⟩ := h
    obtain ⟨u76, h⟩ := h
    obtain ⟨u77, h⟩ := h
    obtain ⟨u78, h⟩ := h
    obtain ⟨u79, h⟩ := h
    obtain ⟨u80, h⟩ := h
    obtain ⟨u81, h⟩ := h
    obtain ⟨u82, h⟩ := h
    obtain ⟨u83, h⟩ := h
    obtain ⟨u84, h⟩ := h
    obtain ⟨u85, h⟩ := h
    obtain ⟨u86, h⟩ := h
    obtain ⟨u87, h⟩ := h
    obtain ⟨u88, h⟩ := h
    obtain ⟨u89, h⟩ := h
    obtain ⟨hrel, rfl⟩ := h
    exact stB_in n yl rb g B0 B1 B2 ca cc L s i0 at' J Jx ALL MALL HJ.out HY.out HT.out hat HL.out hsz hLp W' hrel _ _ _ _ _ _ _ _ _ _ _ _ _ _ _ _ _ _ _ _ _ _ _ _ _ _ _ _ _ _ _ _ _ _ _ _ _ _ _ _ _ _ _ _ _ _ _ _ _ _ _ _ _ _ _ _ _ _ _ _ _ _ _ _ _ _ _ _ _ _ _ _ _ _ _ _ _ _ _ _ _ _ _ _ _ _ 
end Go.Proofs.YtdiokclbdaojpaaDoor
