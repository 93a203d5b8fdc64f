/- What the iterator of (*run).ends yields. What the iterator of (*run).ends yields: the pairs of endsP. -/
import Derived.Test.YtdiokclbdaojpaaDoorNfM10
namespace Go.Proofs.YtdiokclbdaojpaaDoor
open Go Go.RowKit Go.Shelf

attribute [local go_sem] Oper.semAt_some

namespace Nt
def EnR (J : (Nat → Prop) → List (Nat × Nat) → World → Prop) (Jx : (Nat → Prop) → World → Prop) (ALL : List (Nat × Nat)) (e : Ending) (W' : World) : Prop := (∃ v, e = .returned v) ∧ ((∃ xs O, xs = ALL ∧ J O xs W') ∨ ∃ O, Jx O W')
structure EoP (J : (Nat → Prop) → List (Nat × Nat) → World → Prop) (L : List Ins) (s : ByteArray) (rb g : Nat) (ca : Option Addr) (cc La Th til : Nat) (Fb : List (Nat × Obj)) (ALL : List (Nat × Nat)) (a last : Nat) (nv : Value) (now : List (Nat × Nat)) (tv : Value) (thn : List (Nat × Nat)) (lv : Value) (m Ds : List Nat) (At : Nat) (O : Nat → Prop) (ys : List (Nat × Nat)) (W : World) : Prop where
  eo : Eo W O rb g ca cc L s Fb La Th a last nv now tv thn lv m Ds At
  jj : J O ys W
  ml : m.length = L.length
  la : last ≤ 1048576
  gd : Gd L a now
  nl : now.length ≤ L.length
  yl : ys.length ≤ a * L.length
  go : ys ++ endF L s til (til + 1 - a) a last now m = ALL
  at1 : a ≤ til + 1
set_option maxRecDepth 1000000 in
def EoW (Bu Br Y : Nat) (J : (Nat → Prop) → List (Nat × Nat) → World → Prop) (L : List Ins) (s : ByteArray) (rb g : Nat) (ca : Option Addr) (cc La Th til : Nat) (Fb : List (Nat × Obj)) (ALL : List (Nat × Nat)) (act : Act) (W : World) : Prop :=
  ∃ (a last : Nat) (nv : Value) (now : List (Nat × Nat)) (tv : Value) (thn : List (Nat × Nat)) (lv : Value) (m Ds : List Nat) (At : Nat) (O : Nat → Prop) (ys : List (Nat × Nat)), EoP J L s rb g ca cc La Th til Fb ALL a last nv now tv thn lv m Ds At O ys W ∧ ∃ u0 u1 u2 u10 u11 u12 u13 u14 u15 u16 u17 u18 u19 u20 u21 u22 u23 u24 u25 u26 u27 u28 u29 u30 u31 u32 u33 u34 u35 u36 u37 u38 u39 u40 u41 u42 u43 u44 u45 u46 u47 u48 u49 u50 u51 u52 u53 u54 u55 u56 u57 u58 u59 u60 u61 u62 u63 u64 u65 u66 u67 u68 u69 u70 u71 u72 u73 u74 u75 u76 u77 u78 u79 u80 u81 u82 u83 u84 : Value, act = ⟨#[u0, u1, u2, .pointer (some ⟨Bu, 0, none⟩), .pointer (some ⟨Br, 0, none⟩), .pointer (some ⟨Y, 0, none⟩), .pointer (some ⟨La, 0, none⟩), nv, .pointer (some ⟨Th, 0, none⟩), .pointer (some ⟨At, 0, none⟩), u10, u11, u12, u13, u14, u15, u16, u17, u18, u19, u20, u21, u22, u23, u24, u25, u26, u27, u28, u29, u30, u31, u32, u33, u34, u35, u36, u37, u38, u39, u40, u41, u42, u43, u44, u45, u46, u47, u48, u49, u50, u51, u52, u53, u54, u55, u56, u57, u58, u59, u60, u61, u62, u63, u64, u65, u66, u67, u68, u69, u70, u71, u72, u73, u74, u75, u76, u77, u78, u79, u80, u81, u82, u83, u84], dsOf Ds⟩
def EoM (til : Nat) (act : Act) (W : World) : Nat := match act.tmps.getD 9 undef with | .pointer (some p) => til + 1 - (intOf ((W.cell? p).getD undef)).toNat | _ => 0
end Nt

set_option maxRecDepth 1000000 in
set_option maxHeartbeats 8000000 in
theorem enOL_in (n yl rb g Bu Br Y La Th : Nat) (ca : Option Addr) (cc : Nat) (L : List Nt.Ins) (s : ByteArray) (N til : Nat) (J : (Nat → Prop) → List (Nat × Nat) → World → Prop) (Jx : (Nat → Prop) → World → Prop) (ALL : List (Nat × Nat))
    (hJ : Abi J) (hJx : AbiX Jx)
    (hY : ∀ k O ys x W1, J O ys W1 → x.1 ≤ x.2 ∧ x.2 ≤ s.size → ys.length < N → (ys ++ [x]) <+: ALL → YieldAt Fence.wide k Tryd.prog yl #[.int .i64 (x.1 : Int), .int .i64 (x.2 : Int)] W1 fun e W' =>
      (e = .returned (.bool true) ∧ J O (ys ++ [x]) W' ∧ Ke (fun k => O k ∨ Nt.Zc ca k) W1 W') ∨ (e = .returned (.bool false) ∧ Jx O W' ∧ Ke (fun k => O k ∨ Nt.Zc ca k) W1 W'))
    (Fb : List (Nat × Obj)) (fr : (Br, Obj.cells #[.pointer (some ⟨rb, 0, none⟩)] 95 (0, 0)) ∈ Fb) (fy : (Y, Obj.cells #[.func (.yield yl) #[] #[]] 117 (0, 0)) ∈ Fb) (fu : (Bu, Obj.cells #[.int .i64 (til : Int)] 3 (0, 0)) ∈ Fb)
    (hn : 1 ≤ n) (hL : Nt.Leads L) (hto : ∀ i (h : i < L.length), 0 ≤ (L[i]).to ∧ (L[i]).to ≤ 1048576) (hL1 : 1 ≤ L.length) (hLp : L.length ≤ 262144) (hts : til ≤ s.size) (hs : s.size ≤ 1048576) (hN : (s.size + 3) * L.length ≤ N)
    (act : Act) (W : World) (hI : Nt.EoW Bu Br Y J L s rb g ca cc La Th til Fb ALL act W) :
    Nt.enOL.wpIn Fence.wide n Tryd.prog (Exit.then (fun a' w' => Nt.EoW Bu Br Y J L s rb g ca cc La Th til Fb ALL a' w' ∧ Nt.EoM til a' w' < Nt.EoM til act W) (Exit.inBlock 0 (bodyPostM Fence.wide n Tryd.prog Tryd.f66 (Nt.EnR J Jx ALL)))) act W := by
  obtain ⟨a, last, nv, now, tv, thn, lv, m, Ds, At, O, ys, hP, hA⟩ := hI
  obtain ⟨u0, hA⟩ := hA
  obtain ⟨u1, hA⟩ := hA
  obtain ⟨u2, hA⟩ := hA
  obtain ⟨u10, hA⟩ := hA
  obtain ⟨u11, hA⟩ := hA
  obtain ⟨u12, hA⟩ := hA
  obtain ⟨u13, hA⟩ := hA
  obtain ⟨u14, hA⟩ := hA
  obtain ⟨u15, hA⟩ := hA
  obtain ⟨u16, hA⟩ := hA
  obtain ⟨u17, hA⟩ := hA
  obtain ⟨u18, hA⟩ := hA
  obtain ⟨u19, hA⟩ := hA
  obtain ⟨u20, hA⟩ := hA
  obtain ⟨u21, hA⟩ := hA
  obtain ⟨u22, hA⟩ := hA
  obtain ⟨u23, hA⟩ := hA
  obtain ⟨u24, hA⟩ := hA
  obtain ⟨u25, hA⟩ := hA
  obtain ⟨u26, hA⟩ := hA
  obtain ⟨u27, hA⟩ := hA
  obtain ⟨u28, hA⟩ := hA
  obtain ⟨u29, hA⟩ := hA
  obtain ⟨u30, hA⟩ := hA
  obtain ⟨u31, hA⟩ := hA
  obtain ⟨u32, hA⟩ := hA
  obtain ⟨u33, hA⟩ := hA
  obtain ⟨u34, hA⟩ := hA
  obtain ⟨u35, hA⟩ := hA
  obtain ⟨u36, hA⟩ := hA
  obtain ⟨u37, hA⟩ := hA
  obtain ⟨u38, hA⟩ := hA
  obtain ⟨u39, hA⟩ := hA
  obtain ⟨u40, hA⟩ := hA
  obtain ⟨u41, hA⟩ := hA
  obtain ⟨u42, hA⟩ := hA
  obtain ⟨u43, hA⟩ := hA
  obtain ⟨u44, hA⟩ := hA
  obtain ⟨u45, hA⟩ := hA
  obtain ⟨u46, hA⟩ := hA
  obtain ⟨u47, hA⟩ := hA
  obtain ⟨u48, hA⟩ := hA
  obtain ⟨u49, hA⟩ := hA
  obtain ⟨u50, hA⟩ := hA
  obtain ⟨u51, hA⟩ := hA
  obtain ⟨u52, hA⟩ := hA
  obtain ⟨u53, hA⟩ := hA
  obtain ⟨u54, hA⟩ := hA
  obtain ⟨u55, hA⟩ := hA
  obtain ⟨u56, hA⟩ := hA
  obtain ⟨u57, hA⟩ := hA
  obtain ⟨u58, hA⟩ := hA
  obtain ⟨u59, hA⟩ := hA
  obtain ⟨u60, hA⟩ := hA
  obtain ⟨u61, hA⟩ := hA
  obtain ⟨u62, hA⟩ := hA
  obtain ⟨u63, hA⟩ := hA
  obtain ⟨u64, hA⟩ := hA
  obtain ⟨u65, hA⟩ := hA
  obtain ⟨u66, hA⟩ := hA
  obtain ⟨u67, hA⟩ := hA
  obtain ⟨u68, hA⟩ := hA
  obtain ⟨u69, hA⟩ := hA
  obtain ⟨u70, hA⟩ := hA
  obtain ⟨u71, hA⟩ := hA
  obtain ⟨u72, hA⟩ := hA
  obtain ⟨u73, hA⟩ := hA
  obtain ⟨u74, hA⟩ := hA
  obtain ⟨u75, hA⟩ := hA
  obtain ⟨u76, hA⟩ := hA
  obtain ⟨u77, hA⟩ := hA
  obtain ⟨u78, hA⟩ := hA
  obtain ⟨u79, hA⟩ := hA
  obtain ⟨u80, hA⟩ := hA
  obtain ⟨u81, hA⟩ := hA
  obtain ⟨u82, hA⟩ := hA
  obtain ⟨u83, hA⟩ := hA
  obtain ⟨u84, hA⟩ := hA
  subst hA
  have c1 : W.cell? ⟨La, 0, none⟩ = some (.int .i64 (last : Int)) := cell_of_row W La 0 _ _ _ hP.eo.en.mx.ml
  have c2 : W.cell? ⟨At, 0, none⟩ = some (.int .i64 (a : Int)) := cell_of_row W At 0 _ _ _ (hP.eo.en.mx.fx _ (List.mem_append_right _ (List.mem_cons_self ..))).1
  have c3 : W.cell? ⟨Bu, 0, none⟩ = some (.int .i64 (til : Int)) := cell_of_row W Bu 0 _ _ _ (hP.eo.en.mx.fx _ (List.mem_append_right _ (List.mem_cons_of_mem _ fu))).1
  have HM : Hid (Nt.EoM til ⟨#[u0, u1, u2, .pointer (some ⟨Bu, 0, none⟩), .pointer (some ⟨Br, 0, none⟩), .pointer (some ⟨Y, 0, none⟩), .pointer (some ⟨La, 0, none⟩), nv, .pointer (some ⟨Th, 0, none⟩), .pointer (some ⟨At, 0, none⟩), u10, u11, u12, u13, u14, u15, u16, u17, u18, u19, u20, u21, u22, u23, u24, u25, u26, u27, u28, u29, u30, u31, u32, u33, u34, u35, u36, u37, u38, u39, u40, u41, u42, u43, u44, u45, u46, u47, u48, u49, u50, u51, u52, u53, u54, u55, u56, u57, u58, u59, u60, u61, u62, u63, u64, u65, u66, u67, u68, u69, u70, u71, u72, u73, u74, u75, u76, u77, u78, u79, u80, u81, u82, u83, u84], Nt.dsOf Ds⟩ W = til + 1 - a) := by
    show til + 1 - (intOf ((W.cell? ⟨At, 0, none⟩).getD undef)).toNat = _
    rw [c2]
    simp [intOf]
  have hat := hP.at1
  have hla := hP.la
  have hnl := hP.nl
  obtain ⟨q0, q2, rfl⟩ := hP.eo.nw.len
  have HP : Hid _ := hP
  have HJ : Hid _ := hJ
  have HJx : Hid _ := hJx
  have HY : Hid _ := hY
  have HL : Hid _ := hL
  have HTo : Hid _ := hto
  clear hP hJ hJx hY hL hto
  conv => arg 4; whnf
  by_cases hc : a ≤ til ∧ (a ≤ last ∨ now ≠ [])
  · obtain ⟨h1, h2⟩ := hc
    obtain ⟨NOW, hNOW⟩ : ∃ X, X = if a ≤ last then now ++ [(0, a)] else now := ⟨_, rfl⟩
    obtain ⟨FIN, hFIN⟩ : ∃ X, X = (Nt.plcF L s a NOW (([], last), m)).1 := ⟨_, rfl⟩
    obtain ⟨YALL, hYALL⟩ : ∃ X, X = ys ++ (Nt.plcF L s a NOW (([], last), m)).2 := ⟨_, rfl⟩
    have HGo : Hid (YALL ++ Nt.endF L s til (til + 1 - (a + 1)) (a + 1) FIN.1.2 FIN.1.1 FIN.2 = ALL) := by
      show _ = _
      have hgo := HP.out.go
      have e : til + 1 - a = (til + 1 - (a + 1)) + 1 := by omega
      rw [e, Nt.endF, if_pos ⟨h1, h2⟩, ← hNOW] at hgo
      rw [hYALL, hFIN, List.append_assoc]
      exact hgo
    have HYL : Hid (ys.length ≤ a * L.length ∧ ys.length + 2 * L.length ≤ N) := by
      have hy := HP.out.yl
      have e1 : a * L.length ≤ s.size * L.length := Nat.mul_le_mul_right _ (by omega)
      rw [Nat.add_mul] at hN
      exact ⟨hy, by omega⟩
    have HNO : Hid _ := hNOW
    have HFI : Hid _ := hFIN
    have HYA : Hid _ := hYALL
    have h1' : (a : Int) ≤ (til : Int) := by omega
    have h2' : (a : Int) ≤ (last : Int) ∨ (¬ (a : Int) ≤ (last : Int) ∧ (0 : Int) < (now.length : Int)) := by
      by_cases h3 : a ≤ last
      · exact .inl (by omega)
      · refine .inr ⟨by omega, ?_⟩
        rcases h2 with h2 | h2
        · exact (h3 h2).elim
        · have := List.length_pos_iff.2 h2
          omega
    clear h2 hNOW hFIN hYALL hN
    rcases h2' with h2' | ⟨h2', h3'⟩
    all_goals
      refine wpIn_seq_k ?_
      intro K1 hk1
      have H1 : Hid _ := hk1
      clear hk1
      gi_wp2
      refine H1.out _ _ ?_
      clear H1
      refine wpIn_seq_k ?_
      intro K2 hk2
      have H2 : Hid _ := hk2
      clear hk2
      refine wpIn_block ?_
      refine enC6_in n yl rb g Bu Br Y La Th At ca cc L s a N J Jx ALL HJ.out HJx.out HY.out Fb fr fy hn HL.out HTo.out hL1 hLp (by omega) hs last _ now tv thn ys lv m Ds O W HP.out.eo HP.out.jj HP.out.ml hla HP.out.gd hnl HYL.out.2 NOW HNO.out FIN HFI.out YALL HYA.out ⟨_, HGo.out⟩ K2 _ ?_ ?_ _ _ _ _ _ _ _ _ _ _ _ _ _ _ _ _ _ _ _ _ _ _ _ _ _ _ _ _ _ _ _ _ _ _ _ _ _ _ _ _ _ _ _ _ _ _ _ _ _ _ _ _ _ _ _ _ _ _ _ _ _ _ _ _ _ _ _ _ _ _ _ _ _ _ _ _ _ _ 
      · intro u0 u1 u2 u10 u11 u12 u13 u14 u15 u16 u17 u18 u19 u20 u21 u22 u23 u24 u25 u26 u27 u28 u29 u30 u31 u32 u33 u34 u35 u36 u37 u38 u39 u40 u41 u42 u43 u44 u45 u46 u47 u48 u49 u50 u51 u52 u53 u54 u55 u56 u57 u58 u59 u60 u61 u62 u63 u64 u65 u66 u67 u68 u69 u70 u71 u72 u73 u74 u75 u76 u77 u78 u79 u80 u81 u82 u83 u84 nv' tv' lv' Ds' O' W' hE' hJ' g1 g2 g3 g4 g5
        have d2 : W'.cell? ⟨At, 0, none⟩ = some (.int .i64 (a : Int)) := cell_of_row W' At 0 _ _ _ (hE'.en.mx.fx _ (List.mem_append_right _ (List.mem_cons_self ..))).1
        have hN' := hE'.next (a + 1)
        have HN' : Hid _ := hN'
        have HJ' : Hid _ := HJ.out _ _ _ _ _ hJ' ((Tu.refl _ W').alloc _) (fun k hk => ⟨hk.imp id (fun e => by omega), hN'.en.mx.bd k hk⟩)
        have G4 : Hid _ := g4
        clear hE' hN' hJ' g4
        refine H2.out _ _ ?_
        clear H2
        conv => arg 4; whnf
        have ha2 : (a : Int) + 1 ≤ 1048577 := by omega
        gi_wp2
        refine ⟨⟨a + 1, FIN.1.2, nv', FIN.1.1, tv', NOW, lv', FIN.2, Ds', W'.heap.size, _, YALL, ⟨HN'.out, HJ'.out, g1, g5, fun p hp => ⟨(G4.out p hp).1, by have := (G4.out p hp).2; omega⟩, g2, ?_, HGo.out, by omega⟩, _, _, _, _, _, _, _, _, _, _, _, _, _, _, _, _, _, _, _, _, _, _, _, _, _, _, _, _, _, _, _, _, _, _, _, _, _, _, _, _, _, _, _, _, _, _, _, _, _, _, _, _, _, _, _, _, _, _, _, _, _, _, _, _, _, _, _, _, _, _, _, _, _, _, _, _, _, _, rfl⟩, ?_⟩
        · have := HYL.out.1
          rw [Nat.add_mul, Nat.one_mul]
          omega
        · rw [HM.out]
          show til + 1 - (intOf (((W'.alloc (.cells #[.int .i64 ((a : Int) + 1)] 3 (0, 0))).cell? ⟨W'.heap.size, 0, none⟩).getD undef)).toNat < til + 1 - a
          rw [(cell_new_k W' (.int .i64 ((a : Int) + 1)) 3).1]
          simp [intOf]
          omega
      · intro a' Ds' O' W' hd hnd hJx' hD hbd
        have q : bodyPostM Fence.wide n Tryd.prog Tryd.f66 (Nt.EnR J Jx ALL) .ret a' W' := by
          show LeavesInM _ _ _ _ _ _ a'.defers _ _
          rw [hd]
          refine Nt.leaves_ds (fun W' => results_none rfl _ _ _) Ds' W' hnd (fun D h => (hD D h).2) (fun W2 hT => ⟨⟨_, rfl⟩, .inr ⟨O', ?_⟩⟩)
          exact HJx.out _ _ _ _ hJx' (hT.mono (fun k _ e => (hD k e).1)) (fun k hk => ⟨.inl hk, by have := hbd k hk; have := hT.size; omega⟩)
        simpa only [Exit.then, Exit.inBlock] using q
  · have HA : Hid (ys = ALL) := by
      show _ = _
      have hgo := HP.out.go
      have : Nt.endF L s til (til + 1 - a) a last now m = [] := by
        cases h : til + 1 - a with
        | zero => rfl
        | succ k => rw [Nt.endF, if_neg hc]
      rw [this, List.append_nil] at hgo
      exact hgo
    have fin : ∀ tmps, LeavesInM Fence.wide n Tryd.prog Tryd.f66 tmps (Nt.EnR J Jx ALL) (Nt.dsOf Ds) .returning W := fun tmps => by
      have hD : ∀ D ∈ Ds, W.heap[D]? = some (.deferred (some [])) ∧ O D := fun D hD => by
        have := HP.out.eo.en.mx.fx (D, .deferred (some [])) (List.mem_append_left _ (List.mem_map.2 ⟨D, hD, rfl⟩))
        exact ⟨this.1, this.2.1⟩
      refine Nt.leaves_ds (fun W' => results_none rfl _ _ _) Ds W HP.out.eo.nd (fun D h => (hD D h).1) (fun W' hT => ⟨⟨_, rfl⟩, .inl ⟨_, O, HA.out, ?_⟩⟩)
      exact HJ.out _ _ _ _ _ HP.out.jj (hT.mono (fun k _ e => (hD k e).2)) (fun k hk => ⟨.inl hk, by have := HP.out.eo.en.mx.bd k hk; have := hT.size; omega⟩)
    have HFin : Hid _ := fin
    clear fin
    by_cases h1 : a ≤ til
    · have h2 : ¬ a ≤ last := fun e => hc ⟨h1, .inl e⟩
      have h3 : now.length = 0 := by
        rcases now with _ | ⟨x, l⟩
        · rfl
        · exact (hc ⟨h1, .inr (by simp)⟩).elim
      have h1' : (a : Int) ≤ (til : Int) := by omega
      have h2' : ¬ (a : Int) ≤ (last : Int) := by omega
      have h3' : ¬ (0 : Int) < (now.length : Int) := by omega
      clear hc h1 h2 h3
      gi_wp2
      exact HFin.out _
    · have h1' : ¬ (a : Int) ≤ (til : Int) := by omega
      clear hc h1
      gi_wp2
      all_goals first
        | (exfalso; have h := ‹some undef = some (Value.bool _)›; simp [undef] at h; done)
        | exact HFin.out _
end Go.Proofs.YtdiokclbdaojpaaDoor
namespace Go.Proofs.YtdiokclbdaojpaaDoor
open Go Go.RowKit Go.Shelf

attribute [local go_sem] Oper.semAt_some

namespace Nt
theorem yield_wide {m k : Nat} {P : Program} {l : Nat} {args : Array Value} {W : World} {R : Ending → World → Prop} (h : YieldAt Fence.wide m P l args W R) : YieldAt Fence.wide k P l args W R := by
  obtain ⟨fn, tmps, assign, body, hy, hR⟩ := h
  exact ⟨fn, tmps, assign, body, hy, hR.1, fun c cs _ => hR.2 c cs (room_wide _)⟩
/-- The blocks that are a run's own before it begins, with the boxes of its iterator. -/
def Oz (rb g Br Bf Bl Bu : Nat) (k : Nat) : Prop := k = rb ∨ k = g ∨ k = Br ∨ k = Bf ∨ k = Bl ∨ k = Bu
/-- A run that has not begun. -/
structure Ez (W : World) (rb g Br Bf Bl Bu : Nat) (ca : Option Addr) (cc : Nat) (L : List Ins) (s : ByteArray) (fr lat til : Nat) : Prop where
  rn : Rn W rb (.slice ca L.length cc) s (.slice (some ⟨g, 0, none⟩) L.length L.length) (.slice none 0 0)
  mt : Mt W g (List.replicate L.length 0)
  cd : Cds W g ca cc L
  br : W.heap[Br]? = some (.cells #[.pointer (some ⟨rb, 0, none⟩)] 95 (0, 0))
  bf : W.heap[Bf]? = some (.cells #[.int .i64 (fr : Int)] 3 (0, 0))
  bl : W.heap[Bl]? = some (.cells #[.int .i64 (lat : Int)] 3 (0, 0))
  bu : W.heap[Bu]? = some (.cells #[.int .i64 (til : Int)] 3 (0, 0))
  far : g < rb ∧ rb < Br ∧ rb < Bf ∧ rb < Bl ∧ rb < Bu
theorem Ez.under {W : World} {rb g Br Bf Bl Bu : Nat} {ca : Option Addr} {cc : Nat} {L : List Ins} {s : ByteArray} {fr lat til : Nat} (h : Ez W rb g Br Bf Bl Bu ca cc L s fr lat til) : ∀ k, Oz rb g Br Bf Bl Bu k → k < W.heap.size := by
  rintro k (rfl | rfl | rfl | rfl | rfl | rfl)
  · exact h.rn.lt
  · exact lt_of_block h.mt
  · exact lt_of_block h.br
  · exact lt_of_block h.bf
  · exact lt_of_block h.bl
  · exact lt_of_block h.bu
theorem Ez.tu {W W' : World} {rb g Br Bf Bl Bu : Nat} {ca : Option Addr} {cc : Nat} {L : List Ins} {s : ByteArray} {fr lat til : Nat} (h : Ez W rb g Br Bf Bl Bu ca cc L s fr lat til) (hT : Tu (fun _ => False) W W') : Ez W' rb g Br Bf Bl Bu ca cc L s fr lat til := by
  have u := h.under
  have same : ∀ k, k < W.heap.size → W'.heap[k]? = W.heap[k]? := fun k hk => hT.block k hk id
  have hg := u g (.inr (.inl rfl))
  refine ⟨(same rb (u _ (.inl rfl))).trans h.rn, (same g hg).trans h.mt, ⟨h.cd.len, h.cd.room, h.cd.most, h.cd.nil, fun i hi => ?_⟩, (same Br (u _ (.inr (.inr (.inl rfl))))).trans h.br, (same Bf (u _ (.inr (.inr (.inr (.inl rfl)))))).trans h.bf, (same Bl (u _ (.inr (.inr (.inr (.inr (.inl rfl))))))).trans h.bl, (same Bu (u _ (.inr (.inr (.inr (.inr (.inr rfl))))))).trans h.bu, h.far⟩
  obtain ⟨b, off, e, h1, h2⟩ := h.cd.lies i hi
  exact ⟨b, off, e, h1, fun j hj => (World.cell?_of_block (a := ⟨b, off + i * 9 + j, none⟩) (same b (by omega))).trans (h2 j hj)⟩
/-- The memory at the first place. -/
theorem Ez.start {W : World} {rb g Br Bf Bl Bu : Nat} {ca : Option Addr} {cc : Nat} {L : List Ins} {s : ByteArray} {fr lat til : Nat} (h : Ez W rb g Br Bf Bl Bu ca cc L s fr lat til) (yl : Nat) :
    Eo ((((W.alloc (.cells #[.func (.yield yl) #[] #[]] 117 (0, 0))).alloc (.cells #[.int .i64 (lat : Int)] 3 (0, 0))).alloc (.cells #[.slice none 0 0] 118 (0, 0))).alloc (.cells #[.int .i64 (fr : Int)] 3 (0, 0))) (fun k => Oz rb g Br Bf Bl Bu k ∨ (W.heap.size ≤ k ∧ k < W.heap.size + 4)) rb g ca cc L s [(Br, .cells #[.pointer (some ⟨rb, 0, none⟩)] 95 (0, 0)), (W.heap.size, .cells #[.func (.yield yl) #[] #[]] 117 (0, 0)), (Bu, .cells #[.int .i64 (til : Int)] 3 (0, 0))] (W.heap.size + 1) (W.heap.size + 2) fr lat (.slice none 0 0) [] (.slice none 0 0) [] (.slice none 0 0) (List.replicate L.length 0) [] (W.heap.size + 3) := by
  obtain ⟨W4, hW4⟩ : ∃ W4, W4 = (((W.alloc (.cells #[.func (.yield yl) #[] #[]] 117 (0, 0))).alloc (.cells #[.int .i64 (lat : Int)] 3 (0, 0))).alloc (.cells #[.slice none 0 0] 118 (0, 0))).alloc (.cells #[.int .i64 (fr : Int)] 3 (0, 0)) := ⟨_, rfl⟩
  have hT : Tu (fun _ => False) W W4 := by rw [hW4]; exact ((((Tu.refl _ W).alloc _).alloc _).alloc _).alloc _
  have sz : W4.heap.size = W.heap.size + 4 := by rw [hW4]; simp
  have b0 : W4.heap[W.heap.size]? = some (.cells #[.func (.yield yl) #[] #[]] 117 (0, 0)) := by
    rw [hW4, Below.heap_alloc _ _ _ (by simp <;> omega), Below.heap_alloc _ _ _ (by simp <;> omega), Below.heap_alloc _ _ _ (by simp <;> omega)]
    exact World.alloc_heap_new _ _
  have b1 : W4.heap[W.heap.size + 1]? = some (.cells #[.int .i64 (lat : Int)] 3 (0, 0)) := by
    rw [hW4, Below.heap_alloc _ _ _ (by simp <;> omega), Below.heap_alloc _ _ _ (by simp <;> omega)]
    have := World.alloc_heap_new (W.alloc (.cells #[.func (.yield yl) #[] #[]] 117 (0, 0))) (.cells #[.int .i64 (lat : Int)] 3 (0, 0))
    rwa [World.size_alloc] at this
  have b2 : W4.heap[W.heap.size + 2]? = some (.cells #[.slice none 0 0] 118 (0, 0)) := by
    rw [hW4, Below.heap_alloc _ _ _ (by simp <;> omega)]
    have := World.alloc_heap_new ((W.alloc (.cells #[.func (.yield yl) #[] #[]] 117 (0, 0))).alloc (.cells #[.int .i64 (lat : Int)] 3 (0, 0))) (.cells #[.slice none 0 0] 118 (0, 0))
    rwa [World.size_alloc, World.size_alloc] at this
  have b3 : W4.heap[W.heap.size + 3]? = some (.cells #[.int .i64 (fr : Int)] 3 (0, 0)) := by
    rw [hW4]
    have := World.alloc_heap_new (((W.alloc (.cells #[.func (.yield yl) #[] #[]] 117 (0, 0))).alloc (.cells #[.int .i64 (lat : Int)] 3 (0, 0))).alloc (.cells #[.slice none 0 0] 118 (0, 0))) (.cells #[.int .i64 (fr : Int)] 3 (0, 0))
    rwa [World.size_alloc, World.size_alloc, World.size_alloc] at this
  rw [← hW4]
  have h4 := h.tu hT
  have u := h.under
  have ur := u rb (.inl rfl)
  have ug := u g (.inr (.inl rfl))
  have ub := u Br (.inr (.inr (.inl rfl)))
  have uu := u Bu (.inr (.inr (.inr (.inr (.inr rfl)))))
  obtain ⟨f1, f2, f3, f4, f5⟩ := h.far
  refine ⟨⟨⟨fun p hp => ?_, b1, ⟨.inr (by omega), ?_⟩, b2, ⟨.inr (by omega), ?_⟩, by omega, World.ownsRow_nil _ _ _ _, fun k e => (by cases e), fun k e => ?_, fun k e => ?_⟩, h4.rn, h4.mt, World.ownsRow_nil _ _ _ _, h4.cd, ⟨f1, by omega⟩⟩, List.nodup_nil, World.ownsRow_nil _ _ _ _, fun k e => (by cases e), fun p hp => ?_⟩
  · have no : ∀ k, k ≠ rb → k ≠ g → ¬ Or rb g (.slice none 0 0) k := fun k h1 h2 e => by
      rcases e with e | e | e
      · exact h1 e
      · exact h2 e
      · cases e
    simp only [DF, List.map_nil, List.nil_append, List.mem_cons, List.not_mem_nil, or_false] at hp
    rcases hp with rfl | rfl | rfl | rfl
    · exact ⟨b3, .inr (by simp only; omega), no _ (by simp only; omega) (by simp only; omega), by simp only; omega, by simp only; omega, fun e => by cases e⟩
    · exact ⟨h4.br, .inl (.inr (.inr (.inl rfl))), no _ (by simp only; omega) (by simp only; omega), by simp only; omega, by simp only; omega, fun e => by cases e⟩
    · exact ⟨b0, .inr (by simp only; omega), no _ (by simp only; omega) (by simp only; omega), by simp only; omega, by simp only; omega, fun e => by cases e⟩
    · exact ⟨h4.bu, .inl (.inr (.inr (.inr (.inr (.inr rfl))))), no _ (by simp only; omega) (by simp only; omega), by simp only; omega, by simp only; omega, fun e => by cases e⟩
  · rintro (e | e | e)
    · omega
    · omega
    · cases e
  · rintro (e | e | e)
    · omega
    · omega
    · cases e
  · rcases e with e | e | e
    · exact .inl (.inl e)
    · exact .inl (.inr (.inl e))
    · cases e
  · rcases e with e | e
    · have := u k e; omega
    · omega
  · simp only [List.mem_cons, List.not_mem_nil, or_false] at hp
    rcases hp with rfl | rfl | rfl
    · simp only; omega
    · simp only; omega
    · simp only; omega
end Nt

set_option maxRecDepth 1000000 in
set_option maxHeartbeats 8000000 in
theorem ends1_seq (n rb g Br Bf Bl Bu : Nat) (ca : Option Addr) (cc : Nat) (L : List Nt.Ins) (s : ByteArray) (fr lat til : Nat) (w : World) (hE : Nt.Ez w rb g Br Bf Bl Bu ca cc L s fr lat til) (hn : 1 ≤ n) (hL : Nt.Leads L) (hto : ∀ i (h : i < L.length), 0 ≤ (L[i]).to ∧ (L[i]).to ≤ 1048576) (hL1 : 1 ≤ L.length) (hLp : L.length ≤ 262144) (hft : fr ≤ til) (hlt : lat ≤ s.size) (hts : til ≤ s.size) (hs : s.size ≤ 1048576) :
    SeqO Fence.wide n Tryd.prog 66 #[.pointer (some ⟨Bl, 0, none⟩), .pointer (some ⟨Bf, 0, none⟩), .pointer (some ⟨Bu, 0, none⟩), .pointer (some ⟨Br, 0, none⟩)] (fun x : Nat × Nat => #[.int .i64 (x.1 : Int), .int .i64 (x.2 : Int)]) (fun x => x.1 ≤ x.2 ∧ x.2 ≤ s.size) (fun _ _ => True) (Nt.Zc ca) (Nt.Oz rb g Br Bf Bl Bu) ((s.size + 3) * L.length) (fun l => l <+: Nt.endsP L s fr lat til)
      (fun xs _ _ => xs = Nt.endsP L s fr lat til) w := by
  intro yl J Jx W hT hJ hJx hY hJ0
  have hEW := hE.tu hT
  clear hE hT
  have c1 : W.cell? ⟨Bl, 0, none⟩ = some (.int .i64 (lat : Int)) := cell_of_row W Bl 0 _ _ _ hEW.bl
  have c2 : W.cell? ⟨Bf, 0, none⟩ = some (.int .i64 (fr : Int)) := cell_of_row W Bf 0 _ _ _ hEW.bf
  have b1 := hEW.under Bl (.inr (.inr (.inr (.inr (.inl rfl)))))
  have b2 := hEW.under Bf (.inr (.inr (.inr (.inl rfl))))
  have d1 := cell_alloc_k (.cells #[.func (.yield yl) #[] #[]] 117 (0, 0)) c1
  have d2 := cell_alloc_k (.cells #[.slice none 0 0] 118 (0, 0)) (cell_alloc_k (.cells #[.int .i64 (lat : Int)] 3 (0, 0)) (cell_alloc_k (.cells #[.func (.yield yl) #[] #[]] 117 (0, 0)) c2))
  have hSt := hEW.start yl
  have hJ1 := hJ _ _ _ _ _ hJ0 (((((Tu.refl _ W).alloc (.cells #[.func (.yield yl) #[] #[]] 117 (0, 0))).alloc (.cells #[.int .i64 (lat : Int)] 3 (0, 0))).alloc (.cells #[.slice none 0 0] 118 (0, 0))).alloc (.cells #[.int .i64 (fr : Int)] 3 (0, 0))) (fun k hk => ⟨hk.imp id (fun e => e.1), hSt.en.mx.bd k hk⟩)
  have HSt : Hid _ := hSt
  have HJ1 : Hid _ := hJ1
  have HJ : Hid _ := hJ
  have HJx : Hid _ := hJx
  have HY : Hid _ := hY
  have HL : Hid _ := hL
  have HTo : Hid _ := hto
  clear hSt hJ1 hJ hJx hY hL hto hEW hJ0 c1 c2
  refine callsIn_of_wp_marks Tryd.func66 rfl trivial ?_ rfl
  simp only [Tryd.ntmps66, List.size_toArray, List.length_cons, List.length_nil, Nat.reduceAdd, Nat.reduceSub, Array.replicate_succ, Array.replicate_zero, List.push_toArray, List.append_toArray, List.nil_append, List.cons_append]
  gi_wp2
  refine wpIn_loop (Nt.EoW Bu Br W.heap.size J L s rb g ca cc (W.heap.size + 1) (W.heap.size + 2) til [(Br, .cells #[.pointer (some ⟨rb, 0, none⟩)] 95 (0, 0)), (W.heap.size, .cells #[.func (.yield yl) #[] #[]] 117 (0, 0)), (Bu, .cells #[.int .i64 (til : Int)] 3 (0, 0))] (Nt.endsP L s fr lat til)) (Nt.EoM til) ?_ ?_
  · exact ⟨fr, lat, .slice none 0 0, [], .slice none 0 0, [], .slice none 0 0, List.replicate L.length 0, [], W.heap.size + 3, _, [], ⟨HSt.out, HJ1.out, by simp, by omega, fun p hp => (by cases hp), by simp, by simp, rfl, by omega⟩, _, _, _, _, _, _, _, _, _, _, _, _, _, _, _, _, _, _, _, _, _, _, _, _, _, _, _, _, _, _, _, _, _, _, _, _, _, _, _, _, _, _, _, _, _, _, _, _, _, _, _, _, _, _, _, _, _, _, _, _, _, _, _, _, _, _, _, _, _, _, _, _, _, _, _, _, _, _, rfl⟩
  · intro act W' hI
    exact enOL_in n yl rb g Bu Br W.heap.size (W.heap.size + 1) (W.heap.size + 2) ca cc L s _ til J Jx (Nt.endsP L s fr lat til) HJ.out HJx.out (fun k O ys x W1 h1 h2 h3 h4 => Nt.yield_wide (HY.out O ys x W1 h1 trivial h2 h3 h4)) _ (by simp) (by simp) (by simp) hn HL.out HTo.out hL1 hLp hts hs (Nat.le_refl _) act W' hI
end Go.Proofs.YtdiokclbdaojpaaDoor
