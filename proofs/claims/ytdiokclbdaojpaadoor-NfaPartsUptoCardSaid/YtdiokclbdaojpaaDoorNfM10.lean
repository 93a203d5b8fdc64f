/- One way of (*run).ends: its states. The ways at one place: the loop within (*run).ends. The memory of (*run).ends between two places. One place of (*run).ends: a way more, and none behind the byte. One place of (*run).ends. -/
import Derived.Test.YtdiokclbdaojpaaDoorNfM9
namespace Go.Proofs.YtdiokclbdaojpaaDoor
open Go Go.RowKit Go.Shelf

attribute [local go_sem] Oper.semAt_some

namespace Nt
theorem wayC_at (l : List (Nat × Nat)) (i : Nat) (hi : i < l.length) : (wayC l)[i * 2]? = some (.int .i64 ((l[i]).1 : Int)) ∧ (wayC l)[i * 2 + 1]? = some (.int .i64 ((l[i]).2 : Int)) := by
  induction l generalizing i with
  | nil => cases hi
  | cons x l ih =>
    cases i with
    | zero => exact ⟨rfl, rfl⟩
    | succ i =>
      have := ih i (by simpa using hi)
      have e : (i + 1) * 2 = i * 2 + 1 + 1 := by omega
      rw [e]
      simp only [wayC, List.flatMap_cons, List.cons_append, List.nil_append, List.getElem?_cons_succ, List.getElem_cons_succ]
      exact this
theorem Wy.at {W : World} {B : Nat} {v : Value} {l : List (Nat × Nat)} (h : Wy W B v l) {i : Nat} (hi : i < l.length) : ∃ gn cap, v = .slice (some ⟨gn, 0, none⟩) l.length cap ∧ W.cell? ⟨gn, i * 2, none⟩ = some (.int .i64 ((l[i]).1 : Int)) ∧ W.cell? ⟨gn, i * 2 + 1, none⟩ = some (.int .i64 ((l[i]).2 : Int)) ∧ l.length ≤ cap ∧ cap ≤ maxLen := by
  obtain ⟨hl, h | ⟨gn, cap, cur, hv, h1, h2, h3, h4, h5, h6⟩⟩ := h
  · omega
  · have at' : ∀ j, j < l.length * 2 → W.cell? ⟨gn, j, none⟩ = (wayC l)[j]? := fun j hj => by
      rw [cell_of_row W gn j cur _ _ h2, ← h6, List.getElem?_take_of_lt hj, Array.getElem?_toList]
    obtain ⟨e1, e2⟩ := wayC_at l i hi
    exact ⟨gn, cap, hv, (at' _ (by omega)).trans e1, (at' _ (by omega)).trans e2, h3, h4⟩
end Nt

set_option maxRecDepth 1000000 in
set_option maxHeartbeats 8000000 in
theorem enC11_in (n yl rb g Bu Br Y La Th At : Nat) (ca : Option Addr) (cc : Nat) (L : List Nt.Ins) (s : ByteArray) (a N : Nat) (J : (Nat → Prop) → List (Nat × Nat) → World → Prop) (Jx : (Nat → Prop) → World → Prop) (ALL : List (Nat × Nat))
    (hJ : Abi J) (hJx : AbiX Jx)
    (hY : ∀ k O ys x W1, J O ys W1 → x.1 ≤ x.2 ∧ x.2 ≤ s.size → ys.length < N → (ys ++ [x]) <+: ALL → YieldAt Fence.wide k Tryd.prog yl #[.int .i64 (x.1 : Int), .int .i64 (x.2 : Int)] W1 fun e W' =>
      (e = .returned (.bool true) ∧ J O (ys ++ [x]) W' ∧ Ke (fun k => O k ∨ Nt.Zc ca k) W1 W') ∨ (e = .returned (.bool false) ∧ Jx O W' ∧ Ke (fun k => O k ∨ Nt.Zc ca k) W1 W'))
    (F : List (Nat × Obj)) (fr : (Br, Obj.cells #[.pointer (some ⟨rb, 0, none⟩)] 95 (0, 0)) ∈ F) (fy : (Y, Obj.cells #[.func (.yield yl) #[] #[]] 117 (0, 0)) ∈ F) (fa : (At, Obj.cells #[.int .i64 (a : Int)] 3 (0, 0)) ∈ F)
    (hn : 1 ≤ n) (hL : Nt.Leads L) (hto : ∀ i (h : i < L.length), 0 ≤ (L[i]).to ∧ (L[i]).to ≤ 1048576) (hLp : L.length ≤ 262144) (has : a ≤ s.size) (hs : s.size ≤ 1048576)
    (lv : Value) (m : List Nat) (last : Nat) (tv : Value) (thn ys : List (Nat × Nat)) (O : Nat → Prop) (W : World) (hE : Nt.En W O rb g ca cc L s lv m F La Th last tv thn) (hJ0 : J O ys W) (hm : m.length = L.length)
    (nv : Value) (now : List (Nat × Nat)) (idx iw b : Nat) (hidx : idx < now.length) (hnow : now[idx] = (iw, b)) (hN : Nt.Wy W (Th + 1) nv now) (hiw : iw < L.length) (hba : b ≤ a)
    (hth : thn.length + L.length ≤ 1048576) (hyN : ys.length + L.length ≤ N) (_hnl : now.length ≤ 1048576) (_hl1 : last ≤ 1048576) (hAL : b ≤ last → ys ++ (Nt.wayF L s a b (Nt.stF L s.size a (Nt.mu [iw] m (a + 1)) [iw] m).1 (thn, last)).2 <+: ALL)
    (ds : List Deferred) (K : Act → World → Prop) (Q2 : Exit → Act → World → Prop)
    (hX : last < b → ∀ (u0 u1 u2 u10 u11 u12 u13 u14 u15 u16 u17 u18 u19 u20 u21 u22 u23 u24 u25 u26 u27 u28 u29 u30 u31 u32 u33 u34 u35 u36 u37 u38 u39 u43 u44 u45 u46 u47 u48 u49 u50 u51 u52 u53 u54 u55 u56 u57 u58 u59 u60 u61 u62 u63 u64 u65 u66 u67 u68 u69 u70 u71 u72 u73 u74 u75 u76 u77 u78 u79 u80 u81 u82 u83 u84 : Value) (O' : Nat → Prop) (W' : World), Nt.En W' O' rb g ca cc L s lv m F La Th last tv thn → J O' ys W' → Q2 (.exit 2) ⟨#[u0, u1, u2, .pointer (some ⟨Bu, 0, none⟩), .pointer (some ⟨Br, 0, none⟩), .pointer (some ⟨Y, 0, none⟩), .pointer (some ⟨La, 0, none⟩), nv, .pointer (some ⟨Th, 0, none⟩), .pointer (some ⟨At, 0, none⟩), u10, u11, u12, u13, u14, u15, u16, u17, u18, u19, u20, u21, u22, u23, u24, u25, u26, u27, u28, u29, u30, u31, u32, u33, u34, u35, u36, u37, u38, u39, nv, .int .i64 (now.length : Int), .int .i64 (idx : Int), u43, u44, u45, u46, u47, u48, u49, u50, u51, u52, u53, u54, u55, u56, u57, u58, u59, u60, u61, u62, u63, u64, u65, u66, u67, u68, u69, u70, u71, u72, u73, u74, u75, u76, u77, u78, u79, u80, u81, u82, u83, u84], ds⟩ W')
    (hK : b ≤ last → ∀ (u0 u1 u2 u10 u11 u12 u13 u14 u15 u16 u17 u18 u19 u20 u21 u22 u23 u24 u25 u26 u27 u28 u29 u30 u31 u32 u33 u34 u35 u36 u37 u38 u39 u43 u44 u45 u46 u47 u48 u49 u50 u51 u52 u53 u54 u55 u56 u57 u58 u59 u60 u61 u62 u63 u64 u65 u66 u67 u68 u69 u70 u71 u72 u73 u74 u75 u76 u77 u78 u79 u80 u81 u82 u83 u84 : Value) (D : Nat) (O' : Nat → Prop) (lv' tv' : Value) (W' : World), W.heap.size ≤ D → Nt.En W' O' rb g ca cc L s lv' (Nt.stF L s.size a (Nt.mu [iw] m (a + 1)) [iw] m).2 ((D, .deferred (some [])) :: F) La Th (Nt.wayF L s a b (Nt.stF L s.size a (Nt.mu [iw] m (a + 1)) [iw] m).1 (thn, last)).1.2 tv' (Nt.wayF L s a b (Nt.stF L s.size a (Nt.mu [iw] m (a + 1)) [iw] m).1 (thn, last)).1.1 → J O' (ys ++ (Nt.wayF L s a b (Nt.stF L s.size a (Nt.mu [iw] m (a + 1)) [iw] m).1 (thn, last)).2) W' → K ⟨#[u0, u1, u2, .pointer (some ⟨Bu, 0, none⟩), .pointer (some ⟨Br, 0, none⟩), .pointer (some ⟨Y, 0, none⟩), .pointer (some ⟨La, 0, none⟩), nv, .pointer (some ⟨Th, 0, none⟩), .pointer (some ⟨At, 0, none⟩), u10, u11, u12, u13, u14, u15, u16, u17, u18, u19, u20, u21, u22, u23, u24, u25, u26, u27, u28, u29, u30, u31, u32, u33, u34, u35, u36, u37, u38, u39, nv, .int .i64 (now.length : Int), .int .i64 (idx : Int), u43, u44, u45, u46, u47, u48, u49, u50, u51, u52, u53, u54, u55, u56, u57, u58, u59, u60, u61, u62, u63, u64, u65, u66, u67, u68, u69, u70, u71, u72, u73, u74, u75, u76, u77, u78, u79, u80, u81, u82, u83, u84], { target := .collected D, args := #[] } :: ds⟩ W')
    (hR : ∀ (a' : Act) (D : Nat) (O2 O' : Nat → Prop) (last' : Nat) (tv' : Value) (thn' : List (Nat × Nat)) (W' : World), W.heap.size ≤ D → a'.defers = { target := .collected D, args := #[] } :: ds → Jx O' W' → Nt.Mx W' O2 O' F La Th last' tv' thn' → O2 D → W'.heap[D]? = some (.deferred (some [])) → Q2 .ret a' W')
    (u0 u1 u2 u10 u11 u12 u13 u14 u15 u16 u17 u18 u19 u20 u21 u22 u23 u24 u25 u26 u27 u28 u29 u30 u31 u32 u33 u34 u35 u36 u37 u38 u39 u43 u44 u45 u46 u47 u48 u49 u50 u51 u52 u53 u54 u55 u56 u57 u58 u59 u60 u61 u62 u63 u64 u65 u66 u67 u68 u69 u70 u71 u72 u73 u74 u75 u76 u77 u78 u79 u80 u81 u82 u83 u84 : Value) :
    Nt.enC11.wpIn Fence.wide n Tryd.prog (Exit.inBlock 3 (Exit.then K Q2)) ⟨#[u0, u1, u2, .pointer (some ⟨Bu, 0, none⟩), .pointer (some ⟨Br, 0, none⟩), .pointer (some ⟨Y, 0, none⟩), .pointer (some ⟨La, 0, none⟩), nv, .pointer (some ⟨Th, 0, none⟩), .pointer (some ⟨At, 0, none⟩), u10, u11, u12, u13, u14, u15, u16, u17, u18, u19, u20, u21, u22, u23, u24, u25, u26, u27, u28, u29, u30, u31, u32, u33, u34, u35, u36, u37, u38, u39, nv, .int .i64 (now.length : Int), .int .i64 (idx : Int), u43, u44, u45, u46, u47, u48, u49, u50, u51, u52, u53, u54, u55, u56, u57, u58, u59, u60, u61, u62, u63, u64, u65, u66, u67, u68, u69, u70, u71, u72, u73, u74, u75, u76, u77, u78, u79, u80, u81, u82, u83, u84], ds⟩ W := by
  conv => arg 4; whnf
  obtain ⟨gn, cap, rfl, n1, n2, hc1, hc2⟩ := hN.at hidx
  rw [hnow] at n1 n2
  simp only at n1 n2
  have hEw := hE.alloc (.cells #[.int .i64 (iw : Int), .int .i64 (b : Int)] 120)
  obtain ⟨Ww, hWw⟩ : ∃ Ww, Ww = W.alloc (.cells #[.int .i64 (iw : Int), .int .i64 (b : Int)] 120) := ⟨_, rfl⟩
  have hJw : J (fun k => O k ∨ k = W.heap.size) ys Ww := hJ _ _ _ _ _ hJ0 (by rw [hWw]; exact (Tu.refl _ W).alloc _) (fun k hk => ⟨hk.imp id (fun e => by omega), by rw [hWw]; exact hEw.mx.bd k hk⟩)
  have c1 : W.cell? ⟨La, 0, none⟩ = _ := cell_of_row W La 0 _ _ _ hE.mx.ml
  have d1 := cell_alloc_k (.cells #[.int .i64 (iw : Int), .int .i64 (b : Int)] 120) c1
  have c2 : W.cell? ⟨Br, 0, none⟩ = _ := cell_of_row W Br 0 _ _ _ (hE.mx.fx _ fr).1
  have d2 := cell_alloc_k (.cells #[.int .i64 (iw : Int), .int .i64 (b : Int)] 120) c2
  have c3 : W.cell? ⟨At, 0, none⟩ = _ := cell_of_row W At 0 _ _ _ (hE.mx.fx _ fa).1
  have d3 := cell_alloc_k (.cells #[.int .i64 (iw : Int), .int .i64 (b : Int)] 120) c3
  have HE : Hid _ := hE
  have HEw : Hid _ := hEw
  have HJw : Hid _ := hJw
  have HJ : Hid _ := hJ
  have HJx : Hid _ := hJx
  have HY : Hid _ := hY
  have HAL : Hid _ := hAL
  have HX : Hid _ := hX
  have HK : Hid _ := hK
  have HR : Hid _ := hR
  have HL : Hid _ := hL
  have HTo : Hid _ := hto
  have hrs := hE.rn.lt
  rw [hWw] at HJw
  clear hAL hE hEw hJw hJ hJx hY hX hK hR hL hto hJ0 hN hWw Ww c1 c2 c3 hnow
  by_cases hlb : last < b
  · have hlb' : (last : Int) < (b : Int) := by omega
    gi_wp2
    exact HX.out hlb _ _ _ _ _ _ _ _ _ _ _ _ _ _ _ _ _ _ _ _ _ _ _ _ _ _ _ _ _ _ _ _ _ _ _ _ _ _ _ _ _ _ _ _ _ _ _ _ _ _ _ _ _ _ _ _ _ _ _ _ _ _ _ _ _ _ _ _ _ _ _ _ _ _ _  _ _ (HEw.out.less (fun p hp => List.mem_cons_of_mem _ hp)) HJw.out
  · have hlb' : ¬ (last : Int) < (b : Int) := by omega
    have HDD : Hid (Fence.wide.depth.isSome = true → 1 ≤ n) := fun h => by cases h
    gi_wp2_with ((try refine ⟨trivial, ?_⟩); (try refine ⟨HDD.out, ?_⟩); gi_at_call 67; refine ((callsIn_wide (n := n - 1)).2 (states_any _ _ _ _)).mono ?_; rintro e W5 ⟨rfl, rfl⟩)
    obtain ⟨hSx, hMx⟩ := HEw.out.enter iw a 95 3 3
    simp only [World.size_alloc] at hSx hMx
    obtain ⟨Wz, hWz⟩ : ∃ Wz, Wz = ((((W.alloc (.cells #[.int .i64 (iw : Int), .int .i64 (b : Int)] 120)).alloc (.cells #[.pointer (some ⟨rb, 0, none⟩)] 95)).alloc (.cells #[.int .i64 (iw : Int)] 3)).alloc (.cells #[.int .i64 (a : Int)] 3)) := ⟨_, rfl⟩
    have hTz : Tu (fun _ => False) (W.alloc (.cells #[.int .i64 (iw : Int), .int .i64 (b : Int)] 120)) Wz := by rw [hWz]; exact (((Tu.refl _ _).alloc _).alloc _).alloc _
    rw [← hWz] at hSx hMx ⊢
    have hJz : J _ ys Wz := HJ.out _ _ _ _ Wz HJw.out (hTz.mono (fun _ _ e => e.elim)) (fun k hk => ⟨hk.elim .inl (fun e => by
      rcases e with e | e | e | e | e | e
      · exact .inl (HEw.out.mx.sub k (.inl e))
      · exact .inl (HEw.out.mx.sub k (.inr (.inl e)))
      · exact .inr (by simp; omega)
      · exact .inr (by simp; omega)
      · exact .inr (by simp; omega)
      · exact .inl (HEw.out.mx.sub k (.inr (.inr e)))), hMx.bd k hk⟩)
    refine wpIn_rangeO (α := Nat) (N := L.length) rfl hn ?hg trivial (enters_of Tryd.func82 (by kernel_rfl) rfl)
        (states1_seq (n - 1) rb g (W.heap.size + 1) (W.heap.size + 1 + 1) (W.heap.size + 1 + 1 + 1) ca cc L s iw a lv [] m Wz hSx hiw hm HL.out HTo.out has (by omega) hLp) hSx.under (fun k hk => by have := hSx.rn.lt; have := hSx.far.1; have := hSx.cd.code (by omega) k hk; omega)
        ?hS ?hU ?hps
        (Nt.EnI J L s a b La Th last ((W.heap.size, .cells #[.int .i64 (iw : Int), .int .i64 (b : Int)] 120 (0, 0)) :: F) thn ys) (Nt.EnX Jx La Th ((W.heap.size, .cells #[.int .i64 (iw : Int), .int .i64 (b : Int)] 120 (0, 0)) :: F)) (Nt.EnI_abi HJ.out) (fun c => Nt.EnX_abi HJx.out c)
        (fun O W' hT hO => ⟨_, last, tv, thn, ?_, hMx.tu (hT.mono (fun _ _ e => e.elim)) hO, rfl⟩)
        (fun x => ⟨#[u0, u1, u2, .pointer (some ⟨Bu, 0, none⟩), .pointer (some ⟨Br, 0, none⟩), .pointer (some ⟨Y, 0, none⟩), .pointer (some ⟨La, 0, none⟩), .slice (some ⟨gn, 0, none⟩) now.length cap, .pointer (some ⟨Th, 0, none⟩), .pointer (some ⟨At, 0, none⟩), u10, .pointer (some ⟨W.heap.size, 0, none⟩), .int .i64 (x : Int), u13, u14, u15, u16, u17, u18, u19, u20, u21, u22, u23, u24, u25, u26, u27, u28, u29, u30, u31, u32, u33, u34, u35, u36, u37, u38, u39, .slice (some ⟨gn, 0, none⟩) now.length cap, .int .i64 (now.length : Int), .int .i64 (idx : Int), u43, .pointer (some ⟨gn, idx * 2, none⟩), .agg #[.int .i64 (iw : Int), .int .i64 (b : Int)], .pointer (some ⟨W.heap.size, 1, none⟩), .int .i64 (b : Int), .int .i64 (last : Int), .bool false, .pointer (some ⟨rb, 0, none⟩), .pointer (some ⟨W.heap.size, 0, none⟩), .int .i64 (iw : Int), .int .i64 (a : Int), .func (.func 82) #[] #[.pointer (some ⟨W.heap.size + 1, 0, none⟩), .pointer (some ⟨W.heap.size + 1 + 1, 0, none⟩), .pointer (some ⟨W.heap.size + 1 + 1 + 1, 0, none⟩)], .int .i64 (x : Int), u56, u57, u58, u59, u60, u61, u62, u63, u64, u65, u66, u67, u68, u69, u70, u71, u72, u73, u74, u75, u76, u77, u78, u79, u80, u81, u82, u83, u84], []⟩) ?assign ?body ?done ?stop
    case hg => rfl
    case hps => exact fun _ => rfl
    case hS => exact fun xs O A B h hk => ⟨h.1, h.2.imp (fun lv' h => ⟨h.1.kept (by rw [← h.2]; exact hk), h.2⟩)⟩
    case hU =>
      rintro O A B ⟨lv', l', m', h, rfl⟩ hk
      exact ⟨lv', l', m', h.kept hk, rfl⟩
    · refine HJ.out _ _ _ _ _ (by simpa [Nt.wayF] using hJz) (hT.mono (fun _ _ e => e.elim)) (fun k hk => ⟨hk.elim .inl (fun e => (hO k e).1.imp .inr id), ?_⟩)
      exact hk.elim (fun e => by have := hMx.bd k e; have := hT.size; omega) (fun e => (hO k e).2)
    case assign =>
      intro l x W' K' hK'
      gi_wp2
      exact hK'
    case body =>
      rintro l O' pre x W' hI ⟨O1, ⟨lv', l', m', hS', rfl⟩, hO1⟩ ⟨hx, hk⟩ hlen hpf
      have hwl := Nt.wayF_ys L s a b pre (thn, last)
      exact enBD_in n yl rb Br Y La Th At W.heap.size ca cc L s _ lv' a b iw last N J Jx ALL HJ.out HY.out _ (List.mem_cons_of_mem _ fr) (List.mem_cons_of_mem _ fy) (List.mem_cons_of_mem _ fa) (List.mem_cons_self ..) thn ys hba has hs HE.out.far.2 l O' pre x W' hI hS'.rn ⟨hS'.cd.len, hS'.cd.room, hS'.cd.most, hS'.cd.nil, fun i hi => by obtain ⟨b, off, e, h1, h2⟩ := hS'.cd.lies i hi; exact ⟨b, off, e, by have := hS'.far.1; omega, h2⟩⟩ hx hk (by omega) (by omega) (by
        obtain ⟨t, ht⟩ := hpf
        have hw := HAL.out (by omega)
        rw [← ht, Nt.wayF_app, ← List.append_assoc] at hw
        exact (List.prefix_append _ _).trans hw) _ _ _ _ _ _ _ _ _ _ _ _ _ _ _ _ _ _ _ _ _ _ _ _ _ _ _ _ _ _ _ _ _ _ _ _ _ _ _ _ _ _ _ _ _ _ _ _ _ _ _ _ _ _ _ _ _ _ _ _ _ _ _ _ _ _ _ _ _ _ _ _ _ _ _ _ _ _ 
    case done =>
      rintro D O1 O' xs W' hD ⟨rfl, lv', hS', rfl⟩ hD' hnD hsub ⟨Oo, last', tv', thn', hJ', hM', he⟩ hDh
      have hE' := Nt.En.leave hS' hM' (fun k e => e) hsub hD' hnD hDh HE.out.far.2
      have e1 : thn' = (Nt.wayF L s a b (Nt.stF L s.size a (Nt.mu [iw] m (a + 1)) [iw] m).1 (thn, last)).1.1 := congrArg Prod.fst he
      have e2 : last' = (Nt.wayF L s a b (Nt.stF L s.size a (Nt.mu [iw] m (a + 1)) [iw] m).1 (thn, last)).1.2 := congrArg Prod.snd he
      rw [e1, e2] at hE'
      exact HK.out (by omega) _ _ _ _ _ _ _ _ _ _ _ _ _ _ _ _ _ _ _ _ _ _ _ _ _ _ _ _ _ _ _ _ _ _ _ _ _ _ _ _ _ _ _ _ _ _ _ _ _ _ _ _ _ _ _ _ _ _ _ _ _ _ _ _ _ _ _ _ _ _ _ _ _ _ _  D Oo lv' tv' W' (by have := hTz.size; simp at this; omega) (hE'.less (fun p hp => by
        rcases List.mem_cons.1 hp with h | h
        · subst h; exact List.mem_cons_self ..
        · exact List.mem_cons_of_mem _ (List.mem_cons_of_mem _ h))) hJ'
    case stop =>
      rintro D O' c W' hD hD' ⟨rfl, Oo, last', tv', thn', hJ', hM'⟩ hDh
      refine wpIn_ret ?_
      exact HR.out _ D O' Oo last' tv' thn' W' (by have := hTz.size; simp at this; omega) rfl hJ' (hM'.less (fun p hp => List.mem_cons_of_mem _ hp)) hD' hDh
end Go.Proofs.YtdiokclbdaojpaaDoor
namespace Go.Proofs.YtdiokclbdaojpaaDoor
open Go Go.RowKit Go.Shelf

attribute [local go_sem] Oper.semAt_some

namespace Nt
def DF (Ds : List Nat) : List (Nat × Obj) := Ds.map fun D => (D, .deferred (some []))
def dsOf (Ds : List Nat) : List Deferred := Ds.map fun D => { target := .collected D, args := #[] }
/-- Ways that stand within the program, and began no later than a place. -/
def Gd (L : List Ins) (a : Nat) (l : List (Nat × Nat)) : Prop := ∀ p ∈ l, p.1 < L.length ∧ p.2 ≤ a
theorem stF_mem (L : List Ins) (hL : Leads L) (n a : Nat) : ∀ k l m, m.length = L.length → (∀ i ∈ l, i < L.length) → ∀ j ∈ (stF L n a k l m).1, j < L.length := by
  intro k
  induction k with
  | zero => intro l m _ _ j hj; cases hj
  | succ k ih =>
    intro l m hm hl
    rcases List.eq_nil_or_concat l with rfl | ⟨l, i, rfl⟩
    · simp [stF_nil]
    rw [List.concat_eq_append] at *
    rw [stF_snoc]
    have hi : i < L.length := hl i (by simp)
    have hl2 : ∀ j ∈ l, j < L.length := fun j hj => hl j (by simp [hj])
    split
    · exact ih l m hm hl2
    · split
      · intro j hj
        rcases List.mem_cons.1 hj with rfl | hj
        · exact hi
        · exact ih l (m.set i (a + 1)) (by simpa using hm) hl2 j hj
      · rename_i hk
        exact ih (l ++ nxt (L.getD i iEnd) i a n) (m.set i (a + 1)) (by simpa using hm) (fun j hj => (List.mem_append.1 hj).elim (hl2 j) (hL i hi a n (by simp at hk; exact hk.2) j))
theorem wayF_gd (L : List Ins) (hL : Leads L) (s : ByteArray) (a b : Nat) (hba : b ≤ a) (js : List Nat) (hj : ∀ j ∈ js, j < L.length) (x : List (Nat × Nat) × Nat) (hx : Gd L a x.1) : Gd L a (wayF L s a b js x).1.1 := by
  induction js generalizing x with
  | nil => exact hx
  | cons j js ih =>
    simp only [wayF]
    refine ih (fun i hi => hj i (List.mem_cons_of_mem _ hi)) _ ?_
    have hjl := hj j (List.mem_cons_self ..)
    simp only [oneF]
    split
    · rename_i hk
      have hk1 : (L.getD j iEnd).k = 1 := by simpa using hk
      split
      · intro p hp
        rcases List.mem_append.1 hp with hp | hp
        · exact hx p hp
        · obtain rfl : p = (j + 1, b) := by simpa using hp
          refine ⟨hL j hjl 0 0 (by omega) (j + 1) ?_, hba⟩
          rw [nxt, hk1]
          simp
      · exact hx
    · exact hx
theorem wayF_la (L : List Ins) (s : ByteArray) (a b : Nat) (js : List Nat) (x : List (Nat × Nat) × Nat) : (wayF L s a b js x).1.2 = x.2 ∨ (wayF L s a b js x).1.2 = b := by
  induction js generalizing x with
  | nil => exact .inl rfl
  | cons j js ih =>
    simp only [wayF]
    rcases ih (oneF L s a b j x).1 with h | h
    · rw [h]
      simp only [oneF]
      split
      · exact .inl rfl
      · exact .inr rfl
    · exact .inr h
structure EiP (J : (Nat → Prop) → List (Nat × Nat) → World → Prop) (L : List Ins) (s : ByteArray) (rb g : Nat) (ca : Option Addr) (cc a y0 La Th : Nat) (now : List (Nat × Nat)) (FIN : (List (Nat × Nat) × Nat) × List Nat) (YALL : List (Nat × Nat)) (F0 : List (Nat × Obj)) (idx : Nat) (Ds : List Nat) (O : Nat → Prop) (lv tv : Value) (thn : List (Nat × Nat)) (last : Nat) (m : List Nat) (ys : List (Nat × Nat)) (W : World) : Prop where
  ix : idx ≤ now.length
  en : En W O rb g ca cc L s lv m (DF Ds ++ F0) La Th last tv thn
  nd : Ds.Nodup
  jj : J O ys W
  ml : m.length = L.length
  go : (plcF L s a (now.drop idx) ((thn, last), m)).1 = FIN ∧ ys ++ (plcF L s a (now.drop idx) ((thn, last), m)).2 = YALL
  ct : y0 ≤ ys.length ∧ thn.length + ys.length + opn m (a + 1) ≤ y0 + L.length
  gd : Gd L a thn
  la : last ≤ 1048576
set_option maxRecDepth 1000000 in
def EiW (_yl Bu Br Y At : Nat) (nv : Value) (J : (Nat → Prop) → List (Nat × Nat) → World → Prop) (L : List Ins) (s : ByteArray) (rb g : Nat) (ca : Option Addr) (cc a y0 La Th : Nat) (now : List (Nat × Nat)) (FIN : (List (Nat × Nat) × Nat) × List Nat) (YALL : List (Nat × Nat)) (F0 : List (Nat × Obj)) (act : Act) (W : World) : Prop :=
  ∃ (idx : Nat) (Ds : List Nat) (O : Nat → Prop) (lv tv : Value) (thn : List (Nat × Nat)) (last : Nat) (m : List Nat) (ys : List (Nat × Nat)), EiP J L s rb g ca cc a y0 La Th now FIN YALL F0 idx Ds O lv tv thn last m ys W ∧ ∃ u0 u1 u2 u10 u11 u12 u13 u14 u15 u16 u17 u18 u19 u20 u21 u22 u23 u24 u25 u26 u27 u28 u29 u30 u31 u32 u33 u34 u35 u36 u37 u38 u39 u43 u44 u45 u46 u47 u48 u49 u50 u51 u52 u53 u54 u55 u56 u57 u58 u59 u60 u61 u62 u63 u64 u65 u66 u67 u68 u69 u70 u71 u72 u73 u74 u75 u76 u77 u78 u79 u80 u81 u82 u83 u84 : Value, act = ⟨#[u0, u1, u2, .pointer (some ⟨Bu, 0, none⟩), .pointer (some ⟨Br, 0, none⟩), .pointer (some ⟨Y, 0, none⟩), .pointer (some ⟨La, 0, none⟩), nv, .pointer (some ⟨Th, 0, none⟩), .pointer (some ⟨At, 0, none⟩), u10, u11, u12, u13, u14, u15, u16, u17, u18, u19, u20, u21, u22, u23, u24, u25, u26, u27, u28, u29, u30, u31, u32, u33, u34, u35, u36, u37, u38, u39, nv, .int .i64 (now.length : Int), .int .i64 (idx : Int), u43, u44, u45, u46, u47, u48, u49, u50, u51, u52, u53, u54, u55, u56, u57, u58, u59, u60, u61, u62, u63, u64, u65, u66, u67, u68, u69, u70, u71, u72, u73, u74, u75, u76, u77, u78, u79, u80, u81, u82, u83, u84], dsOf Ds⟩
def EiM (now : List (Nat × Nat)) (act : Act) : Nat := now.length - (intOf (act.tmps.getD 42 undef)).toNat
end Nt

set_option maxRecDepth 1000000 in
set_option maxHeartbeats 8000000 in
theorem enIL_in (n yl rb g Bu Br Y La Th At : Nat) (ca : Option Addr) (cc : Nat) (L : List Nt.Ins) (s : ByteArray) (a N y0 : Nat) (J : (Nat → Prop) → List (Nat × Nat) → World → Prop) (Jx : (Nat → Prop) → World → Prop) (ALL : List (Nat × Nat))
    (hJ : Abi J) (hJx : AbiX Jx)
    (hY : ∀ k O ys x W1, J O ys W1 → x.1 ≤ x.2 ∧ x.2 ≤ s.size → ys.length < N → (ys ++ [x]) <+: ALL → YieldAt Fence.wide k Tryd.prog yl #[.int .i64 (x.1 : Int), .int .i64 (x.2 : Int)] W1 fun e W' =>
      (e = .returned (.bool true) ∧ J O (ys ++ [x]) W' ∧ Ke (fun k => O k ∨ Nt.Zc ca k) W1 W') ∨ (e = .returned (.bool false) ∧ Jx O W' ∧ Ke (fun k => O k ∨ Nt.Zc ca k) W1 W'))
    (F0 : List (Nat × Obj)) (fr : (Br, Obj.cells #[.pointer (some ⟨rb, 0, none⟩)] 95 (0, 0)) ∈ F0) (fy : (Y, Obj.cells #[.func (.yield yl) #[] #[]] 117 (0, 0)) ∈ F0) (fa : (At, Obj.cells #[.int .i64 (a : Int)] 3 (0, 0)) ∈ F0)
    (hn : 1 ≤ n) (hL : Nt.Leads L) (hto : ∀ i (h : i < L.length), 0 ≤ (L[i]).to ∧ (L[i]).to ≤ 1048576) (hLp : L.length ≤ 262144) (has : a ≤ s.size) (hs : s.size ≤ 1048576) (hyN : y0 + 2 * L.length ≤ N)
    (nv : Value) (now : List (Nat × Nat)) (FIN : (List (Nat × Nat) × Nat) × List Nat) (YALL : List (Nat × Nat)) (hrow : ∀ W', (∀ p ∈ F0, W'.heap[p.1]? = some p.2) → Nt.Wy W' (Th + 1) nv now) (hnow : Nt.Gd L a now) (hnl : now.length ≤ 1048576) (hYA : YALL <+: ALL)
    (Q9 : Exit → Act → World → Prop)
    (hEx : ∀ (u0 u1 u2 u10 u11 u12 u13 u14 u15 u16 u17 u18 u19 u20 u21 u22 u23 u24 u25 u26 u27 u28 u29 u30 u31 u32 u33 u34 u35 u36 u37 u38 u39 u43 u44 u45 u46 u47 u48 u49 u50 u51 u52 u53 u54 u55 u56 u57 u58 u59 u60 u61 u62 u63 u64 u65 u66 u67 u68 u69 u70 u71 u72 u73 u74 u75 u76 u77 u78 u79 u80 u81 u82 u83 u84 : Value) (idx : Nat) (Ds : List Nat) (O' : Nat → Prop) (lv' tv' : Value) (W' : World), Nt.En W' O' rb g ca cc L s lv' FIN.2 (Nt.DF Ds ++ F0) La Th FIN.1.2 tv' FIN.1.1 → Ds.Nodup → J O' YALL W' → FIN.2.length = L.length → FIN.1.1.length ≤ L.length → YALL.length ≤ y0 + L.length → Nt.Gd L a FIN.1.1 → FIN.1.2 ≤ 1048576 → Q9 .normal ⟨#[u0, u1, u2, .pointer (some ⟨Bu, 0, none⟩), .pointer (some ⟨Br, 0, none⟩), .pointer (some ⟨Y, 0, none⟩), .pointer (some ⟨La, 0, none⟩), nv, .pointer (some ⟨Th, 0, none⟩), .pointer (some ⟨At, 0, none⟩), u10, u11, u12, u13, u14, u15, u16, u17, u18, u19, u20, u21, u22, u23, u24, u25, u26, u27, u28, u29, u30, u31, u32, u33, u34, u35, u36, u37, u38, u39, nv, .int .i64 (now.length : Int), .int .i64 (idx : Int), u43, u44, u45, u46, u47, u48, u49, u50, u51, u52, u53, u54, u55, u56, u57, u58, u59, u60, u61, u62, u63, u64, u65, u66, u67, u68, u69, u70, u71, u72, u73, u74, u75, u76, u77, u78, u79, u80, u81, u82, u83, u84], Nt.dsOf Ds⟩ W')
    (hRt : ∀ (a' : Act) (Ds : List Nat) (O2 O' : Nat → Prop) (last' : Nat) (tv' : Value) (thn' : List (Nat × Nat)) (W' : World), a'.defers = Nt.dsOf Ds → Ds.Nodup → Jx O' W' → (∀ D ∈ Ds, O' D ∧ W'.heap[D]? = some (.deferred (some []))) → Nt.Mx W' O2 O' F0 La Th last' tv' thn' → Q9 .ret a' W')
    (act : Act) (W : World) (hI : Nt.EiW yl Bu Br Y At nv J L s rb g ca cc a y0 La Th now FIN YALL F0 act W) :
    Nt.enIL.wpIn Fence.wide n Tryd.prog (Exit.then (fun a' w' => Nt.EiW yl Bu Br Y At nv J L s rb g ca cc a y0 La Th now FIN YALL F0 a' w' ∧ Nt.EiM now a' < Nt.EiM now act) (Exit.inBlock 2 Q9)) act W := by
  obtain ⟨idx, Ds, O, lv, tv, thn, last, m, ys, hP, hA⟩ := hI
  obtain ⟨u0, hA⟩ := hA
  obtain ⟨u1, hA⟩ := hA
  obtain ⟨u2, hA⟩ := hA
  obtain ⟨u10, hA⟩ := hA
  obtain ⟨u11, hA⟩ := hA
  obtain ⟨u12, hA⟩ := hA
  obtain ⟨u13, hA⟩ := hA
  obtain ⟨u14, hA⟩ := hA
  obtain ⟨u15, hA⟩ := hA
  obtain ⟨u16, hA⟩ := hA
  obtain ⟨u17, hA⟩ := hA
  obtain ⟨u18, hA⟩ := hA
  obtain ⟨u19, hA⟩ := hA
  obtain ⟨u20, hA⟩ := hA
  obtain ⟨u21, hA⟩ := hA
  obtain ⟨u22, hA⟩ := hA
  obtain ⟨u23, hA⟩ := hA
  obtain ⟨u24, hA⟩ := hA
  obtain ⟨u25, hA⟩ := hA
  obtain ⟨u26, hA⟩ := hA
  obtain ⟨u27, hA⟩ := hA
  obtain ⟨u28, hA⟩ := hA
  obtain ⟨u29, hA⟩ := hA
  obtain ⟨u30, hA⟩ := hA
  obtain ⟨u31, hA⟩ := hA
  obtain ⟨u32, hA⟩ := hA
  obtain ⟨u33, hA⟩ := hA
  obtain ⟨u34, hA⟩ := hA
  obtain ⟨u35, hA⟩ := hA
  obtain ⟨u36, hA⟩ := hA
  obtain ⟨u37, hA⟩ := hA
  obtain ⟨u38, hA⟩ := hA
  obtain ⟨u39, hA⟩ := hA
  obtain ⟨u43, hA⟩ := hA
  obtain ⟨u44, hA⟩ := hA
  obtain ⟨u45, hA⟩ := hA
  obtain ⟨u46, hA⟩ := hA
  obtain ⟨u47, hA⟩ := hA
  obtain ⟨u48, hA⟩ := hA
  obtain ⟨u49, hA⟩ := hA
  obtain ⟨u50, hA⟩ := hA
  obtain ⟨u51, hA⟩ := hA
  obtain ⟨u52, hA⟩ := hA
  obtain ⟨u53, hA⟩ := hA
  obtain ⟨u54, hA⟩ := hA
  obtain ⟨u55, hA⟩ := hA
  obtain ⟨u56, hA⟩ := hA
  obtain ⟨u57, hA⟩ := hA
  obtain ⟨u58, hA⟩ := hA
  obtain ⟨u59, hA⟩ := hA
  obtain ⟨u60, hA⟩ := hA
  obtain ⟨u61, hA⟩ := hA
  obtain ⟨u62, hA⟩ := hA
  obtain ⟨u63, hA⟩ := hA
  obtain ⟨u64, hA⟩ := hA
  obtain ⟨u65, hA⟩ := hA
  obtain ⟨u66, hA⟩ := hA
  obtain ⟨u67, hA⟩ := hA
  obtain ⟨u68, hA⟩ := hA
  obtain ⟨u69, hA⟩ := hA
  obtain ⟨u70, hA⟩ := hA
  obtain ⟨u71, hA⟩ := hA
  obtain ⟨u72, hA⟩ := hA
  obtain ⟨u73, hA⟩ := hA
  obtain ⟨u74, hA⟩ := hA
  obtain ⟨u75, hA⟩ := hA
  obtain ⟨u76, hA⟩ := hA
  obtain ⟨u77, hA⟩ := hA
  obtain ⟨u78, hA⟩ := hA
  obtain ⟨u79, hA⟩ := hA
  obtain ⟨u80, hA⟩ := hA
  obtain ⟨u81, hA⟩ := hA
  obtain ⟨u82, hA⟩ := hA
  obtain ⟨u83, hA⟩ := hA
  obtain ⟨u84, hA⟩ := hA
  subst hA
  conv => arg 4; whnf
  have HP : Hid _ := hP
  have HEx : Hid _ := hEx
  have HRt : Hid _ := hRt
  have HJ : Hid _ := hJ
  have HJx : Hid _ := hJx
  have HY : Hid _ := hY
  have HL : Hid _ := hL
  have HTo : Hid _ := hto
  have Hrow : Hid _ := hrow
  have Hnow : Hid _ := hnow
  have hix := hP.ix
  clear hP hEx hRt hJ hJx hY hL hto hrow hnow
  have HF : Hid (∀ p ∈ F0, p ∈ Nt.DF Ds ++ F0) := fun p hp => List.mem_append_right _ hp
  by_cases hlt : idx < now.length
  · have hlt' : (idx : Int) < (now.length : Int) := by omega
    refine wpIn_seq_k ?_
    intro K1 h1
    have H1 : Hid _ := h1
    clear h1
    gi_wp2
    refine H1.out _ _ ?_
    clear H1
    refine wpIn_seq_k ?_
    intro K2 h2
    have H2 : Hid _ := h2
    clear h2
    gi_wp2
    refine H2.out _ _ ?_
    clear H2
    refine wpIn_seq_k ?_
    intro K3 h3
    have H3 : Hid _ := h3
    clear h3
    refine wpIn_block ?_
    obtain ⟨iw, b, hnb⟩ : ∃ iw b, now[idx] = (iw, b) := ⟨_, _, rfl⟩
    have hgd := Hnow.out (now[idx]) (List.getElem_mem hlt)
    rw [hnb] at hgd
    obtain ⟨hiw, hba⟩ := hgd
    simp only at hiw hba
    have hdrop : now.drop idx = (iw, b) :: now.drop (idx + 1) := by rw [List.drop_eq_getElem_cons hlt, hnb]
    have hgo := HP.out.go
    rw [hdrop] at hgo
    have hct := HP.out.ct
    refine enC11_in n yl rb g Bu Br Y La Th At ca cc L s a N J Jx ALL HJ.out HJx.out HY.out (Nt.DF Ds ++ F0) (HF.out _ fr) (HF.out _ fy) (HF.out _ fa) hn HL.out HTo.out hLp has hs lv m last tv thn ys O W HP.out.en HP.out.jj HP.out.ml nv now idx iw b hlt hnb (Hrow.out W (fun p hp => (HP.out.en.mx.fx p (HF.out p hp)).1)) hiw hba (by omega) (by omega) hnl HP.out.la (fun hle => ?c0) (Nt.dsOf Ds) K3 _ ?c1 ?c2 ?c3 _ _ _ _ _ _ _ _ _ _ _ _ _ _ _ _ _ _ _ _ _ _ _ _ _ _ _ _ _ _ _ _ _ _ _ _ _ _ _ _ _ _ _ _ _ _ _ _ _ _ _ _ _ _ _ _ _ _ _ _ _ _ _ _ _ _ _ _ _ _ _ _ _ _ _ 
    case c0 =>
      rw [Nt.plcF] at hgo
      simp only [show ¬ last < b by omega, if_false] at hgo
      obtain ⟨_, g2⟩ := hgo
      rw [← List.append_assoc] at g2
      exact List.IsPrefix.trans ⟨_, g2⟩ hYA
    case c1 =>
      rintro hlb u0 u1 u2 u10 u11 u12 u13 u14 u15 u16 u17 u18 u19 u20 u21 u22 u23 u24 u25 u26 u27 u28 u29 u30 u31 u32 u33 u34 u35 u36 u37 u38 u39 u43 u44 u45 u46 u47 u48 u49 u50 u51 u52 u53 u54 u55 u56 u57 u58 u59 u60 u61 u62 u63 u64 u65 u66 u67 u68 u69 u70 u71 u72 u73 u74 u75 u76 u77 u78 u79 u80 u81 u82 u83 u84 O' W' hE' hJ'
      have e : Nt.plcF L s a ((iw, b) :: now.drop (idx + 1)) ((thn, last), m) = (((thn, last), m), []) := by rw [Nt.plcF]; simp [hlb]
      rw [e] at hgo
      obtain ⟨g1, g2⟩ := hgo
      simp only [List.append_nil] at g2
      subst g1 g2
      have q : Q9 .normal ⟨#[u0, u1, u2, .pointer (some ⟨Bu, 0, none⟩), .pointer (some ⟨Br, 0, none⟩), .pointer (some ⟨Y, 0, none⟩), .pointer (some ⟨La, 0, none⟩), nv, .pointer (some ⟨Th, 0, none⟩), .pointer (some ⟨At, 0, none⟩), u10, u11, u12, u13, u14, u15, u16, u17, u18, u19, u20, u21, u22, u23, u24, u25, u26, u27, u28, u29, u30, u31, u32, u33, u34, u35, u36, u37, u38, u39, nv, .int .i64 (now.length : Int), .int .i64 (idx : Int), u43, u44, u45, u46, u47, u48, u49, u50, u51, u52, u53, u54, u55, u56, u57, u58, u59, u60, u61, u62, u63, u64, u65, u66, u67, u68, u69, u70, u71, u72, u73, u74, u75, u76, u77, u78, u79, u80, u81, u82, u83, u84], Nt.dsOf Ds⟩ W' := HEx.out u0 u1 u2 u10 u11 u12 u13 u14 u15 u16 u17 u18 u19 u20 u21 u22 u23 u24 u25 u26 u27 u28 u29 u30 u31 u32 u33 u34 u35 u36 u37 u38 u39 u43 u44 u45 u46 u47 u48 u49 u50 u51 u52 u53 u54 u55 u56 u57 u58 u59 u60 u61 u62 u63 u64 u65 u66 u67 u68 u69 u70 u71 u72 u73 u74 u75 u76 u77 u78 u79 u80 u81 u82 u83 u84 idx Ds O' lv tv W' hE' HP.out.nd hJ' HP.out.ml (by simp only; omega) (by omega) HP.out.gd HP.out.la
      simpa only [Exit.then, Exit.inBlock, if_true] using q
    case c2 =>
      rintro hlb u0 u1 u2 u10 u11 u12 u13 u14 u15 u16 u17 u18 u19 u20 u21 u22 u23 u24 u25 u26 u27 u28 u29 u30 u31 u32 u33 u34 u35 u36 u37 u38 u39 u43 u44 u45 u46 u47 u48 u49 u50 u51 u52 u53 u54 u55 u56 u57 u58 u59 u60 u61 u62 u63 u64 u65 u66 u67 u68 u69 u70 u71 u72 u73 u74 u75 u76 u77 u78 u79 u80 u81 u82 u83 u84 D O' lv' tv' W' hD hE' hJ'
      refine H3.out _ _ ?_
      clear H3
      have e : Nt.plcF L s a ((iw, b) :: now.drop (idx + 1)) ((thn, last), m) = ((Nt.plcF L s a (now.drop (idx + 1)) ((Nt.wayF L s a b (Nt.stF L s.size a (Nt.mu [iw] m (a + 1)) [iw] m).1 (thn, last)).1, (Nt.stF L s.size a (Nt.mu [iw] m (a + 1)) [iw] m).2)).1, (Nt.wayF L s a b (Nt.stF L s.size a (Nt.mu [iw] m (a + 1)) [iw] m).1 (thn, last)).2 ++ (Nt.plcF L s a (now.drop (idx + 1)) ((Nt.wayF L s a b (Nt.stF L s.size a (Nt.mu [iw] m (a + 1)) [iw] m).1 (thn, last)).1, (Nt.stF L s.size a (Nt.mu [iw] m (a + 1)) [iw] m).2)).2) := by
        rw [Nt.plcF]
        simp only [show ¬ last < b by omega, if_false]
      rw [e] at hgo
      obtain ⟨g1, g2⟩ := hgo
      have hm1 := Nt.stF_mlen L s.size a (Nt.mu [iw] m (a + 1)) [iw] m
      have hi1 : ∀ i ∈ [iw], i < L.length := fun i hi => by simp at hi; omega
      have hl1 := Nt.stF_len L HL.out s.size a (Nt.mu [iw] m (a + 1)) [iw] m HP.out.ml hi1
      have hj1 := Nt.stF_mem L HL.out s.size a (Nt.mu [iw] m (a + 1)) [iw] m HP.out.ml hi1
      have hw1 := Nt.wayF_both L s a b (Nt.stF L s.size a (Nt.mu [iw] m (a + 1)) [iw] m).1 (thn, last)
      have hw2 := Nt.wayF_gd L HL.out s a b hba (Nt.stF L s.size a (Nt.mu [iw] m (a + 1)) [iw] m).1 hj1 (thn, last) HP.out.gd
      have hw3 := Nt.wayF_la L s a b (Nt.stF L s.size a (Nt.mu [iw] m (a + 1)) [iw] m).1 (thn, last)
      have hnD : (D :: Ds).Nodup := List.nodup_cons.2 ⟨fun hm => by
        have := HP.out.en.mx.bd D (HP.out.en.mx.fx (D, .deferred (some [])) (List.mem_append_left _ (List.mem_map.2 ⟨D, hm, rfl⟩))).2.1
        omega, HP.out.nd⟩
      have hla := HP.out.la
      have hml := HP.out.ml
      simp only at hw1 hw3
      have HQ : Hid (Nt.EiP J L s rb g ca cc a y0 La Th now FIN YALL F0 (idx + 1) (D :: Ds) O' lv' tv' (Nt.wayF L s a b (Nt.stF L s.size a (Nt.mu [iw] m (a + 1)) [iw] m).1 (thn, last)).1.1 (Nt.wayF L s a b (Nt.stF L s.size a (Nt.mu [iw] m (a + 1)) [iw] m).1 (thn, last)).1.2 (Nt.stF L s.size a (Nt.mu [iw] m (a + 1)) [iw] m).2 (ys ++ (Nt.wayF L s a b (Nt.stF L s.size a (Nt.mu [iw] m (a + 1)) [iw] m).1 (thn, last)).2) W') :=
        ⟨by omega, hE', hnD, hJ', by omega, ⟨g1, by rw [List.append_assoc]; exact g2⟩, ⟨by simp; omega, by simp only [List.length_append]; omega⟩, hw2, by omega⟩
      clear g1 g2 hm1 hl1 hj1 hw1 hw2 hw3 hnD hla e hJ' hE'
      have hnl2 : (idx : Int) + 1 ≤ 1048577 := by omega
      gi_wp2
      refine ⟨⟨idx + 1, D :: Ds, O', lv', tv', _, _, _, _, HQ.out, _, _, _, _, _, _, _, _, _, _, _, _, _, _, _, _, _, _, _, _, _, _, _, _, _, _, _, _, _, _, _, _, _, _, _, _, _, _, _, _, _, _, _, _, _, _, _, _, _, _, _, _, _, _, _, _, _, _, _, _, _, _, _, _, _, _, _, _, _, _, _, _, _, _, _, rfl⟩, ?_⟩
      show now.length - (intOf (.int .i64 ((idx : Int) + 1))).toNat < now.length - (intOf (.int .i64 (idx : Int))).toNat
      simp only [intOf]
      omega
    case c3 =>
      rintro a' D O2 O' last' tv' thn' W' hD hdf hJx' hM' hO2 hDh
      have q : Q9 .ret a' W' := HRt.out a' (D :: Ds) O2 O' last' tv' thn' W' hdf (List.nodup_cons.2 ⟨fun hm => by
        have := HP.out.en.mx.bd D (HP.out.en.mx.fx (D, .deferred (some [])) (List.mem_append_left _ (List.mem_map.2 ⟨D, hm, rfl⟩))).2.1
        omega, HP.out.nd⟩) hJx' (fun D' hm => by
          rcases List.mem_cons.1 hm with rfl | hm
          · exact ⟨hM'.sub _ hO2, hDh⟩
          · have := hM'.fx (D', .deferred (some [])) (List.mem_append_left _ (List.mem_map.2 ⟨D', hm, rfl⟩))
            exact ⟨this.2.1, this.1⟩) (hM'.less HF.out)
      simpa only [Exit.then, Exit.inBlock] using q
  · obtain rfl : idx = now.length := by omega
    have hlt' : ¬ (now.length : Int) < (now.length : Int) := by omega
    have hgo := HP.out.go
    rw [List.drop_length] at hgo
    obtain ⟨g1, g2⟩ := hgo
    simp only [Nt.plcF, List.append_nil] at g1 g2
    subst g1 g2
    have hct := HP.out.ct
    gi_wp2
    exact HEx.out _ _ _ _ _ _ _ _ _ _ _ _ _ _ _ _ _ _ _ _ _ _ _ _ _ _ _ _ _ _ _ _ _ _ _ _ _ _ _ _ _ _ _ _ _ _ _ _ _ _ _ _ _ _ _ _ _ _ _ _ _ _ _ _ _ _ _ _ _ _ _ _ _ _ _  now.length Ds O lv tv W HP.out.en HP.out.nd HP.out.jj HP.out.ml (by omega) (by omega) HP.out.gd HP.out.la
end Go.Proofs.YtdiokclbdaojpaaDoor
namespace Go.Proofs.YtdiokclbdaojpaaDoor
open Go Go.RowKit Go.Shelf

namespace Nt
section
variable {W W' : World} {O O' : Nat → Prop} {rb g : Nat} {ca : Option Addr} {cc : Nat} {L : List Ins} {s : ByteArray} {lv : Value} {m : List Nat} {F : List (Nat × Obj)} {La Th last : Nat} {tv tv' : Value} {thn thn' : List (Nat × Nat)}
/-- Nothing of it has turned. -/
theorem En.tu {P : Nat → Prop} (h : En W O rb g ca cc L s lv m F La Th last tv thn) (hT : Tu P W W') (hF : ∀ p ∈ F, ¬ P p.1) (hl : ¬ P La) (ht : ¬ P Th) (hv : ∀ k, tv.ownBlock = some k → ¬ P k) (ho : ∀ k, Or rb g lv k → ¬ P k) (hc : ∀ k, k < g → ¬ P k) (hO : ∀ k, O k → O' k) (hb : ∀ k, O' k → k < W'.heap.size) : En W' O' rb g ca cc L s lv m F La Th last tv thn := by
  have bd := h.mx.bd
  have same : ∀ k, O k → ¬ P k → W'.heap[k]? = W.heap[k]? := fun k hk hn => hT.block k (bd k hk) hn
  have hr := h.rn.lt
  have hg := h.far.1
  refine ⟨⟨fun p hp => ?_, (same La h.mx.ol.1 hl).trans h.mx.ml, ⟨hO _ h.mx.ol.1, h.mx.ol.2⟩, (same Th h.mx.ot.1 ht).trans h.mx.mt, ⟨hO _ h.mx.ot.1, h.mx.ot.2⟩, h.mx.lt, own_blk h.mx.tn (fun k e => same k (h.mx.on k e).1 (hv k e)), fun k e => ⟨hO _ (h.mx.on k e).1, (h.mx.on k e).2⟩, fun k e => hO _ (h.mx.sub k e), hb⟩, (same rb (h.mx.sub rb (.inl rfl)) (ho rb (.inl rfl))).trans h.rn, (same g (h.mx.sub g (.inr (.inl rfl))) (ho g (.inr (.inl rfl)))).trans h.mt, own_blk h.lf (fun k e => same k (h.mx.sub k (.inr (.inr e))) (ho k (.inr (.inr e)))), ⟨h.cd.len, h.cd.room, h.cd.most, h.cd.nil, fun i hi => ?_⟩, h.far⟩
  · obtain ⟨h1, h2, h3, h4⟩ := h.mx.fx p hp
    exact ⟨(same p.1 h2 (hF p hp)).trans h1, hO _ h2, h3, h4⟩
  · obtain ⟨b, off, e, h1, h2⟩ := h.cd.lies i hi
    exact ⟨b, off, e, h1, fun j hj => (World.cell?_of_block (a := ⟨b, off + i * 9 + j, none⟩) (hT.block b (by omega) (hc b h1))).trans (h2 j hj)⟩
theorem En.thenS (h : En W O rb g ca cc L s lv m F La Th last tv thn) (hg : W.grownBy W' tv.ownBlock) (hw : Wy W' (Th + 1) tv' thn') (hat : tv'.ownBlock = tv.ownBlock ∨ ∃ g, tv'.ownBlock = some g ∧ W.heap.size ≤ g) :
    En (W'.setCell ⟨Th, 0, none⟩ tv') (fun k => O k ∨ (W.heap.size ≤ k ∧ k < W'.heap.size)) rb g ca cc L s lv m F La Th last tv' thn' := by
  have hM := h.mx.thenS hg hw hat
  have hr := h.rn.lt
  obtain ⟨hf, hf2⟩ := h.far
  have hlt := h.mx.lt
  have row : ∀ k, tv.ownBlock = some k → Th < k := fun k e => (World.ownsRow.lt h.mx.tn k e).1
  have same : ∀ k, k < W.heap.size → k ≠ Th → tv.ownBlock ≠ some k → (W'.setCell ⟨Th, 0, none⟩ tv').heap[k]? = W.heap[k]? := fun k hk h1 h2 => (heap_setCell_other W' ⟨Th, 0, none⟩ k _ h1).trans (hg.block k hk (fun e => h2 e.symm))
  have low : ∀ k, k ≤ rb → (W'.setCell ⟨Th, 0, none⟩ tv').heap[k]? = W.heap[k]? := fun k hk => same k (by omega) (by omega) (fun e => by have := row k e; omega)
  refine ⟨hM, (low rb (Nat.le_refl _)).trans h.rn, (low g (by omega)).trans h.mt, own_blk h.lf (fun k e => same k (World.ownsRow.lt h.lf k e).2 (fun e2 => ?_) (fun e2 => (h.mx.on k e2).2 (.inr (.inr e)))), ⟨h.cd.len, h.cd.room, h.cd.most, h.cd.nil, fun i hi => ?_⟩, h.far⟩
  · subst e2
    exact h.mx.ot.2 (.inr (.inr e))
  · obtain ⟨b, off, e, h1, h2⟩ := h.cd.lies i hi
    exact ⟨b, off, e, h1, fun j hj => (World.cell?_of_block (a := ⟨b, off + i * 9 + j, none⟩) (low b (by omega))).trans (h2 j hj)⟩
end
/-- Between two places: the ways at the place, in a row, and the place's box. -/
structure Eo (W : World) (O : Nat → Prop) (rb g : Nat) (ca : Option Addr) (cc : Nat) (L : List Ins) (s : ByteArray) (Fb : List (Nat × Obj)) (La Th : Nat) (a last : Nat) (nv : Value) (now : List (Nat × Nat)) (tv : Value) (thn : List (Nat × Nat)) (lv : Value) (m : List Nat) (Ds : List Nat) (At : Nat) : Prop where
  en : En W O rb g ca cc L s lv m (DF Ds ++ ((At, .cells #[.int .i64 (a : Int)] 3 (0, 0)) :: Fb)) La Th last tv thn
  nd : Ds.Nodup
  nw : Wy W (Th + 1) nv now
  no : ∀ k, nv.ownBlock = some k → O k ∧ ¬ Or rb g lv k ∧ tv.ownBlock ≠ some k ∧ k ≠ At
  lo : ∀ p ∈ Fb, p.1 < Th
section
variable {W W' : World} {O O' : Nat → Prop} {rb g : Nat} {ca : Option Addr} {cc : Nat} {L : List Ins} {s : ByteArray} {Fb : List (Nat × Obj)} {La Th a last At : Nat} {nv nv' tv tv' lv : Value} {now now' thn thn' : List (Nat × Nat)} {m Ds : List Nat}
theorem Eo.row (h : Eo W O rb g ca cc L s Fb La Th a last nv now tv thn lv m Ds At) : ∀ k, nv.ownBlock = some k → ∀ p ∈ DF Ds ++ ((At, .cells #[.int .i64 (a : Int)] 3 (0, 0)) :: Fb), p.1 ≠ k := by
  intro k hk p hp e
  rcases List.mem_append.1 hp with hp | hp
  · obtain ⟨D, hD, rfl⟩ := List.mem_map.1 hp
    have h1 := (h.en.mx.fx (D, .deferred (some [])) (List.mem_append_left _ (List.mem_map.2 ⟨D, hD, rfl⟩))).1
    obtain ⟨_, ⟨rfl, _⟩ | ⟨g', cap, cur, rfl, _, h3, _⟩⟩ := h.nw
    · cases hk
    · have e3 : g' = k := by injection hk
      subst e3
      simp only at e h1
      subst e
      rw [h3] at h1; cases h1
  · rcases List.mem_cons.1 hp with rfl | hp
    · exact (h.no k hk).2.2.2 e.symm
    · have h1 := h.lo p hp
      have h2 := (World.ownsRow.lt h.nw k hk).1
      omega
theorem Eo.append (h : Eo W O rb g ca cc L s Fb La Th a last nv now tv thn lv m Ds At) (hg : W.grownBy W' nv.ownBlock) (hw : Wy W' (Th + 1) nv' now') (hat : nv'.ownBlock = nv.ownBlock ∨ ∃ g, nv'.ownBlock = some g ∧ W.heap.size ≤ g) :
    Eo W' (fun k => O k ∨ (W.heap.size ≤ k ∧ k < W'.heap.size)) rb g ca cc L s Fb La Th a last nv' now' tv thn lv m Ds At := by
  have hs := hg.size
  have hT : Tu (fun k => nv.ownBlock = some k) W W' := ⟨hg.os, hg.tape, hg.output, hg.size, fun k hk hn => hg.block k hk (fun e => hn e.symm)⟩
  have gt : ∀ k, nv.ownBlock = some k → Th < k := fun k e => (World.ownsRow.lt h.nw k e).1
  have hlt := h.en.mx.lt
  obtain ⟨f1, f2⟩ := h.en.far
  refine ⟨h.en.tu hT (fun p hp e => h.row p.1 e p hp rfl) (fun e => by have := gt La e; omega) (fun e => by have := gt Th e; omega) (fun k e1 e2 => (h.no k e2).2.2.1 e1) (fun k e1 e2 => (h.no k e2).2.1 e1) (fun k e1 e2 => by have := gt k e2; omega) (fun k e => .inl e) (fun k e => e.elim (fun e => by have := h.en.mx.bd k e; omega) (fun e => e.2)), h.nd, hw, fun k e => ?_, h.lo⟩
  have row : nv.ownBlock = some k ∨ W.heap.size ≤ k := by
    rcases hat with h1 | ⟨g, h1, h2⟩
    · exact .inl (h1 ▸ e)
    · rw [h1] at e; cases e; exact .inr h2
  rcases row with e2 | e2
  · obtain ⟨a1, a2, a3, a4⟩ := h.no k e2
    exact ⟨.inl a1, a2, a3, a4⟩
  · have hA := h.en.mx.bd At (h.en.mx.fx (At, _) (List.mem_append_right _ (List.mem_cons_self ..))).2.1
    exact ⟨.inr ⟨e2, (World.ownsRow.lt hw k e).2⟩, fun e3 => by have := h.en.mx.bd k (h.en.mx.sub k e3); omega, fun e3 => by have := h.en.mx.bd k (h.en.mx.on k e3).1; omega, by omega⟩
/-- The ways behind the byte are cut to none. -/
theorem Eo.cut (h : Eo W O rb g ca cc L s Fb La Th a last nv now tv thn lv m Ds At) : ∃ tv', (∀ q0 q1 q2, tv = .slice q0 q1 q2 → tv' = .slice q0 0 q2) ∧ Eo (W.setCell ⟨Th, 0, none⟩ tv') O rb g ca cc L s Fb La Th a last nv now tv' [] lv m Ds At := by
  obtain ⟨tv', h0, h1, h2⟩ : ∃ tv', (∀ q0 q1 q2, tv = .slice q0 q1 q2 → tv' = .slice q0 0 q2) ∧ Wy W (Th + 1) tv' [] ∧ tv'.ownBlock = tv.ownBlock := by
    obtain ⟨hl, ⟨rfl, _⟩ | ⟨g', cap, cur, rfl, a1, a2, a3, a4, a5, a6⟩⟩ := h.en.mx.tn
    · exact ⟨_, fun q0 q1 q2 e => by cases e; rfl, World.ownsRow_nil _ _ _ _, rfl⟩
    · exact ⟨.slice (some ⟨g', 0, none⟩) 0 cap, fun q0 q1 q2 e => by cases e; rfl, ⟨rfl, .inr ⟨g', cap, cur, rfl, a1, a2, Nat.zero_le _, a4, a5, by simp [wayC]⟩⟩, rfl⟩
  have hg : W.grownBy W tv.ownBlock := ⟨rfl, rfl, rfl, Nat.le_refl _, fun _ _ _ => rfl⟩
  have hE := h.en.thenS hg h1 (.inl h2)
  have e : (fun k => O k ∨ (W.heap.size ≤ k ∧ k < W.heap.size)) = O := funext fun k => propext ⟨fun e => e.elim id (fun e => by omega), .inl⟩
  rw [e] at hE
  refine ⟨tv', h0, hE, h.nd, ownsRow_setCell_below h.nw (Nat.lt_succ_self Th) _, fun k e => ?_, h.lo⟩
  obtain ⟨a1, a2, a3, a4⟩ := h.no k e
  exact ⟨a1, a2, by rw [h2]; exact a3, a4⟩
/-- The ways at the place, held fast. -/
def rowF (W : World) (nv : Value) : List (Nat × Obj) := match nv.ownBlock with | some k => [(k, (W.heap[k]?).getD default)] | none => []
theorem Eo.hold (h : Eo W O rb g ca cc L s Fb La Th a last nv now tv thn lv m Ds At) : En W O rb g ca cc L s lv m (DF Ds ++ (rowF W nv ++ ((At, .cells #[.int .i64 (a : Int)] 3 (0, 0)) :: Fb))) La Th last tv thn := by
  refine ⟨⟨fun p hp => ?_, h.en.mx.ml, h.en.mx.ol, h.en.mx.mt, h.en.mx.ot, h.en.mx.lt, h.en.mx.tn, h.en.mx.on, h.en.mx.sub, h.en.mx.bd⟩, h.en.rn, h.en.mt, h.en.lf, h.en.cd, h.en.far⟩
  rcases List.mem_append.1 hp with hp | hp
  · exact h.en.mx.fx p (List.mem_append_left _ hp)
  · rcases List.mem_append.1 hp with hp | hp
    · unfold rowF at hp
      split at hp
      · rename_i k hk
        obtain rfl : p = (k, (W.heap[k]?).getD default) := by simpa using hp
        obtain ⟨a1, a2, a3, a4⟩ := h.no k hk
        have h2 := World.ownsRow.lt h.nw k hk
        have hlt := h.en.mx.lt
        refine ⟨?_, a1, a2, by simp only; omega, by simp only; omega, a3⟩
        simp only
        rw [Array.getElem?_eq_getElem h2.2]; rfl
      · cases hp
    · exact h.en.mx.fx p (List.mem_append_right _ hp)
theorem Eo.held (h : Eo W O rb g ca cc L s Fb La Th a last nv now tv thn lv m Ds At) {F : List (Nat × Obj)} (W' : World) (hW : ∀ p ∈ rowF W nv ++ F, W'.heap[p.1]? = some p.2) : Wy W' (Th + 1) nv now := by
  refine own_blk h.nw (fun k hk => ?_)
  have h2 := World.ownsRow.lt h.nw k hk
  have := hW (k, (W.heap[k]?).getD default) (List.mem_append_left _ (by unfold rowF; rw [hk]; simp))
  simp only at this
  rw [this, Array.getElem?_eq_getElem h2.2]; rfl
/-- Now and then change places. -/
theorem Eo.swap {F : List (Nat × Obj)} (hE : En W O rb g ca cc L s lv m (DF Ds ++ (F ++ ((At, .cells #[.int .i64 (a : Int)] 3 (0, 0)) :: Fb))) La Th last tv thn) (nd : Ds.Nodup) (lo : ∀ p ∈ Fb, p.1 < Th) (hw : Wy W (Th + 1) nv now) (hno : ∀ k, nv.ownBlock = some k → O k ∧ ¬ Or rb g lv k ∧ tv.ownBlock ≠ some k ∧ k ≠ At) :
    Eo (W.setCell ⟨Th, 0, none⟩ nv) O rb g ca cc L s Fb La Th a last tv thn nv now lv m Ds At := by
  have hA := hE.mx.fx (At, .cells #[.int .i64 (a : Int)] 3 (0, 0)) (List.mem_append_right _ (List.mem_append_right _ (List.mem_cons_self ..)))
  have hE0 : En W O rb g ca cc L s lv m (DF Ds ++ ((At, .cells #[.int .i64 (a : Int)] 3 (0, 0)) :: Fb)) La Th last tv thn := hE.less (fun p hp => (List.mem_append.1 hp).elim (List.mem_append_left _) (fun h => List.mem_append_right _ (List.mem_append_right _ h)))
  have h0 : Eo W O rb g ca cc L s Fb La Th a last nv now tv thn lv m Ds At := ⟨hE0, nd, hw, hno, lo⟩
  have oth : ∀ k, k ≠ Th → (W.setCell ⟨Th, 0, none⟩ nv).heap[k]? = W.heap[k]? := fun k hk => heap_setCell_other W ⟨Th, 0, none⟩ k _ hk
  have sz := ((Below.refl 0 W).setCell (p := ⟨Th, 0, none⟩) (Nat.zero_le _) nv).size
  have hr := hE.rn.lt
  have hlt := hE.mx.lt
  obtain ⟨f1, f2⟩ := hE.far
  refine ⟨⟨⟨fun p hp => ?_, (oth La (by omega)).trans hE.mx.ml, hE.mx.ol, heap_setCell_same W Th 0 _ _ _ hE.mx.mt, hE.mx.ot, hlt, ownsRow_setCell_below hw (Nat.lt_succ_self Th) _, fun k e => ⟨(hno k e).1, (hno k e).2.1⟩, hE.mx.sub, fun k e => by have := hE.mx.bd k e; omega⟩, (oth rb (by omega)).trans hE.rn, (oth g (by omega)).trans hE.mt, own_blk hE.lf (fun k e => oth k (fun e2 => ?_)), ⟨hE.cd.len, hE.cd.room, hE.cd.most, hE.cd.nil, fun i hi => ?_⟩, hE.far⟩, nd, ownsRow_setCell_below hE.mx.tn (Nat.lt_succ_self Th) _, fun k e => ⟨(hE.mx.on k e).1, (hE.mx.on k e).2, fun e2 => (hno k e2).2.2.1 e, fun e2 => ?_⟩, lo⟩
  · obtain ⟨h1, h2, h3, h4, h5, _⟩ := hE0.mx.fx p hp
    exact ⟨(oth p.1 h5).trans h1, h2, h3, h4, h5, fun e => h0.row p.1 e p hp rfl⟩
  · subst e2; exact hE.mx.ot.2 (.inr (.inr e))
  · obtain ⟨b, off, e, h1, h2⟩ := hE.cd.lies i hi
    exact ⟨b, off, e, h1, fun j hj => (World.cell?_of_block (a := ⟨b, off + i * 9 + j, none⟩) (oth b (by omega))).trans (h2 j hj)⟩
  · subst e2; exact hA.2.2.2.2.2 e
/-- The next place, in a box of its own. -/
theorem Eo.next (h : Eo W O rb g ca cc L s Fb La Th a last nv now tv thn lv m Ds At) (a' : Nat) :
    Eo (W.alloc (.cells #[.int .i64 (a' : Int)] 3 (0, 0))) (fun k => O k ∨ k = W.heap.size) rb g ca cc L s Fb La Th a' last nv now tv thn lv m Ds W.heap.size := by
  refine ⟨(h.en.alloc _).less (fun p hp => ?_), h.nd, World.ownsRow.alloc h.nw _, fun k e => ?_, h.lo⟩
  · rcases List.mem_append.1 hp with hp | hp
    · exact List.mem_cons_of_mem _ (List.mem_append_left _ hp)
    · rcases List.mem_cons.1 hp with rfl | hp
      · exact List.mem_cons_self ..
      · exact List.mem_cons_of_mem _ (List.mem_append_right _ (List.mem_cons_of_mem _ hp))
  · obtain ⟨a1, a2, a3, a4⟩ := h.no k e
    have := h.en.mx.bd k a1
    exact ⟨.inl a1, a2, a3, by omega⟩
end
/-- The marks of a function that leaves. -/
theorem leaves_ds {F : Fence} {n : Nat} {P : Program} {fn : Func} {tmps : Array Value} {R : Ending → World → Prop} {v : Value} (hr : ∀ W, (results fn tmps).run P W = .ok v W) : ∀ (Ds : List Nat) (W : World), Ds.Nodup → (∀ D ∈ Ds, W.heap[D]? = some (.deferred (some []))) → (∀ W', Tu (fun k => k ∈ Ds) W W' → R (.returned v) W') → LeavesInM F n P fn tmps R (dsOf Ds) .returning W := by
  intro Ds
  induction Ds with
  | nil => intro W _ _ hR; exact ⟨_, hr W, hR W (Tu.refl _ W)⟩
  | cons D Ds ih =>
    intro W hn hD hR
    obtain ⟨h1, h2⟩ := List.nodup_cons.1 hn
    have h0 := hD D (List.mem_cons_self ..)
    refine ⟨by simp, .inl ⟨D, _, rfl, run_takeDeferred h0, ih _ h2 (fun E hE => ?_) (fun W' hT => ?_)⟩⟩
    · exact (World.putObj_heap_other (fun e => h1 (by subst e; exact hE))).trans (hD E (List.mem_cons_of_mem _ hE))
    · exact hR W' (((Tu.refl _ W).put (fun _ => List.mem_cons_self ..) _).trans hT (fun k _ e => List.mem_cons_of_mem _ e))
end Nt
end Go.Proofs.YtdiokclbdaojpaaDoor
namespace Go.Proofs.YtdiokclbdaojpaaDoor
open Go Go.RowKit Go.Shelf

attribute [local go_sem] Oper.semAt_some

namespace Nt
noncomputable def enR6 : Code := match enC6 with | .seq c _ => c | _ => .skip
noncomputable def enR8 : Code := match enC6 with | .seq _ (.seq c _) => c | _ => .skip
theorem way_new (w : World) (b : Nat) (t : TypeId) : ∀ j u, [Value.int .i64 0, .int .i64 (b : Int)][j]? = some u → (w.alloc (.cells #[.int .i64 0, .int .i64 (b : Int)] t)).cell? ((⟨w.heap.size, 0, none⟩ : Addr).add j) = some u := two_new w _ _ t
end Nt

set_option maxRecDepth 1000000 in
set_option maxHeartbeats 8000000 in
theorem enR6_in (n rb g Bu Br Y La Th At : Nat) (ca : Option Addr) (cc : Nat) (L : List Nt.Ins) (s : ByteArray) (Fb : List (Nat × Obj)) (a last : Nat) (nv : Value) (now : List (Nat × Nat)) (tv : Value) (thn : List (Nat × Nat)) (lv : Value) (m Ds : List Nat) (O : Nat → Prop) (W : World)
    (hE : Nt.Eo W O rb g ca cc L s Fb La Th a last nv now tv thn lv m Ds At) (_ha : a ≤ 1048576) (_hl : last ≤ 1048576) (hnl : now.length ≤ 1048575) (ds : List Deferred) (K : Act → World → Prop) (Q : Exit → Act → World → Prop)
    (hK : ∀ (u0 u1 u2 u10 u11 u12 u13 u14 u15 u16 u17 u18 u19 u20 u21 u22 u23 u24 u25 u26 u27 u28 u29 u30 u31 u32 u33 u34 u35 u36 u37 u38 u39 u40 u41 u42 u43 u44 u45 u46 u47 u48 u49 u50 u51 u52 u53 u54 u55 u56 u57 u58 u59 u60 u61 u62 u63 u64 u65 u66 u67 u68 u69 u70 u71 u72 u73 u74 u75 u76 u77 u78 u79 u80 u81 u82 u83 u84 nv' : Value) (O' : Nat → Prop) (W' : World), Nt.Eo W' O' rb g ca cc L s Fb La Th a last nv' (if a ≤ last then now ++ [(0, a)] else now) tv thn lv m Ds At → Tu O W W' → (∀ k, O' k → (O k ∨ W.heap.size ≤ k) ∧ k < W'.heap.size) → K ⟨#[u0, u1, u2, .pointer (some ⟨Bu, 0, none⟩), .pointer (some ⟨Br, 0, none⟩), .pointer (some ⟨Y, 0, none⟩), .pointer (some ⟨La, 0, none⟩), nv', .pointer (some ⟨Th, 0, none⟩), .pointer (some ⟨At, 0, none⟩), u10, u11, u12, u13, u14, u15, u16, u17, u18, u19, u20, u21, u22, u23, u24, u25, u26, u27, u28, u29, u30, u31, u32, u33, u34, u35, u36, u37, u38, u39, u40, u41, u42, u43, u44, u45, u46, u47, u48, u49, u50, u51, u52, u53, u54, u55, u56, u57, u58, u59, u60, u61, u62, u63, u64, u65, u66, u67, u68, u69, u70, u71, u72, u73, u74, u75, u76, u77, u78, u79, u80, u81, u82, u83, u84], ds⟩ W')
    (u0 u1 u2 u10 u11 u12 u13 u14 u15 u16 u17 u18 u19 u20 u21 u22 u23 u24 u25 u26 u27 u28 u29 u30 u31 u32 u33 u34 u35 u36 u37 u38 u39 u40 u41 u42 u43 u44 u45 u46 u47 u48 u49 u50 u51 u52 u53 u54 u55 u56 u57 u58 u59 u60 u61 u62 u63 u64 u65 u66 u67 u68 u69 u70 u71 u72 u73 u74 u75 u76 u77 u78 u79 u80 u81 u82 u83 u84 : Value) :
    Nt.enR6.wpIn Fence.wide n Tryd.prog (Exit.then K Q) ⟨#[u0, u1, u2, .pointer (some ⟨Bu, 0, none⟩), .pointer (some ⟨Br, 0, none⟩), .pointer (some ⟨Y, 0, none⟩), .pointer (some ⟨La, 0, none⟩), nv, .pointer (some ⟨Th, 0, none⟩), .pointer (some ⟨At, 0, none⟩), u10, u11, u12, u13, u14, u15, u16, u17, u18, u19, u20, u21, u22, u23, u24, u25, u26, u27, u28, u29, u30, u31, u32, u33, u34, u35, u36, u37, u38, u39, u40, u41, u42, u43, u44, u45, u46, u47, u48, u49, u50, u51, u52, u53, u54, u55, u56, u57, u58, u59, u60, u61, u62, u63, u64, u65, u66, u67, u68, u69, u70, u71, u72, u73, u74, u75, u76, u77, u78, u79, u80, u81, u82, u83, u84], ds⟩ W := by
  conv => arg 4; whnf
  refine wpIn_wide.2 ?_
  obtain ⟨i1, hi1, hy0, hy1, hy2⟩ := info_parts Tryd.infoWay
  have c1 : W.cell? ⟨La, 0, none⟩ = some (.int .i64 (last : Int)) := cell_of_row W La 0 _ _ _ hE.en.mx.ml
  have c2 : W.cell? ⟨At, 0, none⟩ = some (.int .i64 (a : Int)) := cell_of_row W At 0 _ _ _ (hE.en.mx.fx _ (List.mem_append_right _ (List.mem_cons_self ..))).1
  have HE : Hid _ := hE
  have HK : Hid _ := hK
  have hTs : Th + 1 ≤ W.heap.size := hE.en.mx.bd Th hE.en.mx.ot.1
  clear hE hK
  by_cases hal : a ≤ last
  · have hal' : (a : Int) ≤ (last : Int) := by omega
    go_wp2_with (at_builtin; refine Nt.wpList_append_far _ rfl _ _ 118 rfl (Th + 1) 120 i1 (.agg #[.int .i64 0, .int .i64 0]) 2 16 Tryd.underlying118 hi1 hy0 hy1 hy2 rfl (by decide) nv now.length (Nt.wayC now) rfl (World.ownsRow.alloc HE.out.nw _) ⟨W.heap.size, 0, none⟩ 1 1 [.int .i64 0, .int .i64 (a : Int)] rfl ?c1 ?c2 ?c3 ?c4 ?c5 ?c6 ?_)
    case c3 => exact ⟨rfl, rfl⟩
    case c4 => unfold maxLen; omega
    case c5 => omega
    case c6 => omega
    intro v3 w3 ho hg _ hat
    have hg2 : W.grownBy w3 nv.ownBlock := (World.grownBy_alloc W _ _).trans hg
    have ho2 : Nt.Wy w3 (Th + 1) v3 (now ++ [(0, a)]) := by
      unfold Nt.Wy
      rw [Nt.wayC_snoc, List.length_append]
      exact ho
    have hat2 : v3.ownBlock = nv.ownBlock ∨ ∃ g, v3.ownBlock = some g ∧ W.heap.size ≤ g := by
      exact hat.imp id (fun h => ⟨_, h, by omega⟩)
    have HE2 : Hid _ := HE.out.append hg2 ho2 hat2
    have HT2 : Hid (Tu O W w3) := ⟨hg2.os, hg2.tape, hg2.output, hg2.size, fun k hk hn => hg2.block k hk (fun e => hn (HE.out.no k e.symm).1)⟩
    clear ho hg hat hg2 ho2 hat2
    go_wp2_with fail
    exact HK.out _ _ _ _ _ _ _ _ _ _ _ _ _ _ _ _ _ _ _ _ _ _ _ _ _ _ _ _ _ _ _ _ _ _ _ _ _ _ _ _ _ _ _ _ _ _ _ _ _ _ _ _ _ _ _ _ _ _ _ _ _ _ _ _ _ _ _ _ _ _ _ _ _ _ _ _ _ _  v3 _ w3 (by rw [if_pos hal]; exact HE2.out) HT2.out (fun k hk => ⟨hk.imp id (fun h => h.1), HE2.out.en.mx.bd k hk⟩)
  · have hal' : ¬ (a : Int) ≤ (last : Int) := by omega
    go_wp2_with fail
    exact HK.out _ _ _ _ _ _ _ _ _ _ _ _ _ _ _ _ _ _ _ _ _ _ _ _ _ _ _ _ _ _ _ _ _ _ _ _ _ _ _ _ _ _ _ _ _ _ _ _ _ _ _ _ _ _ _ _ _ _ _ _ _ _ _ _ _ _ _ _ _ _ _ _ _ _ _ _ _ _  nv O W (by rw [if_neg hal]; exact HE.out) (Tu.refl _ _) (fun k hk => ⟨.inl hk, HE.out.en.mx.bd k hk⟩)
end Go.Proofs.YtdiokclbdaojpaaDoor
namespace Go.Proofs.YtdiokclbdaojpaaDoor
open Go Go.RowKit Go.Shelf

attribute [local go_sem] Oper.semAt_some

set_option maxRecDepth 1000000 in
set_option maxHeartbeats 8000000 in
theorem enR8_in (n rb g Bu Br Y La Th At : Nat) (ca : Option Addr) (cc : Nat) (L : List Nt.Ins) (s : ByteArray) (Fb : List (Nat × Obj)) (a last : Nat) (nv : Value) (now : List (Nat × Nat)) (tv : Value) (thn : List (Nat × Nat)) (lv : Value) (m Ds : List Nat) (O : Nat → Prop) (W : World)
    (hE : Nt.Eo W O rb g ca cc L s Fb La Th a last nv now tv thn lv m Ds At) (ds : List Deferred) (K : Act → World → Prop) (Q : Exit → Act → World → Prop)
    (hK : ∀ (u0 u1 u2 u10 u11 u12 u13 u14 u15 u16 u17 u18 u19 u20 u21 u22 u23 u24 u25 u26 u27 u28 u29 u30 u31 u32 u33 u34 u35 u36 u37 u38 u39 u40 u41 u42 u43 u44 u45 u46 u47 u48 u49 u50 u51 u52 u53 u54 u55 u56 u57 u58 u59 u60 u61 u62 u63 u64 u65 u66 u67 u68 u69 u70 u71 u72 u73 u74 u75 u76 u77 u78 u79 u80 u81 u82 u83 u84 tv' : Value) (W' : World), Nt.Eo W' O rb g ca cc L s Fb La Th a last nv now tv' [] lv m Ds At → Tu O W W' → K ⟨#[u0, u1, u2, .pointer (some ⟨Bu, 0, none⟩), .pointer (some ⟨Br, 0, none⟩), .pointer (some ⟨Y, 0, none⟩), .pointer (some ⟨La, 0, none⟩), nv, .pointer (some ⟨Th, 0, none⟩), .pointer (some ⟨At, 0, none⟩), u10, u11, u12, u13, u14, u15, u16, u17, u18, u19, u20, u21, u22, u23, u24, u25, u26, u27, u28, u29, u30, u31, u32, u33, u34, u35, u36, u37, u38, u39, u40, u41, u42, u43, u44, u45, u46, u47, u48, u49, u50, u51, u52, u53, u54, u55, u56, u57, u58, u59, u60, u61, u62, u63, u64, u65, u66, u67, u68, u69, u70, u71, u72, u73, u74, u75, u76, u77, u78, u79, u80, u81, u82, u83, u84], ds⟩ W')
    (u0 u1 u2 u10 u11 u12 u13 u14 u15 u16 u17 u18 u19 u20 u21 u22 u23 u24 u25 u26 u27 u28 u29 u30 u31 u32 u33 u34 u35 u36 u37 u38 u39 u40 u41 u42 u43 u44 u45 u46 u47 u48 u49 u50 u51 u52 u53 u54 u55 u56 u57 u58 u59 u60 u61 u62 u63 u64 u65 u66 u67 u68 u69 u70 u71 u72 u73 u74 u75 u76 u77 u78 u79 u80 u81 u82 u83 u84 : Value) :
    Nt.enR8.wpIn Fence.wide n Tryd.prog (Exit.then K Q) ⟨#[u0, u1, u2, .pointer (some ⟨Bu, 0, none⟩), .pointer (some ⟨Br, 0, none⟩), .pointer (some ⟨Y, 0, none⟩), .pointer (some ⟨La, 0, none⟩), nv, .pointer (some ⟨Th, 0, none⟩), .pointer (some ⟨At, 0, none⟩), u10, u11, u12, u13, u14, u15, u16, u17, u18, u19, u20, u21, u22, u23, u24, u25, u26, u27, u28, u29, u30, u31, u32, u33, u34, u35, u36, u37, u38, u39, u40, u41, u42, u43, u44, u45, u46, u47, u48, u49, u50, u51, u52, u53, u54, u55, u56, u57, u58, u59, u60, u61, u62, u63, u64, u65, u66, u67, u68, u69, u70, u71, u72, u73, u74, u75, u76, u77, u78, u79, u80, u81, u82, u83, u84], ds⟩ W := by
  conv => arg 4; whnf
  refine wpIn_wide.2 ?_
  have c1 : W.cell? ⟨Th, 0, none⟩ = some tv := cell_of_row W Th 0 _ _ _ hE.en.mx.mt
  have f1 : W.frozen? ⟨Th, 0, none⟩ = false := frozen_of_row W Th 0 _ _ hE.en.mx.mt
  obtain ⟨tv', h1, h2⟩ := hE.cut
  have HT : Hid (∀ v, Tu O W (W.setCell ⟨Th, 0, none⟩ v)) := fun v => (Tu.refl _ W).setCell (fun _ => hE.en.mx.ot.1) _
  have HE : Hid _ := h2
  have HK : Hid _ := hK
  obtain ⟨_, ⟨rfl, _⟩ | ⟨g', cap, cur, rfl, a1, a2, a3, a4, a5, a6⟩⟩ := hE.en.mx.tn
  · obtain rfl := h1 _ _ _ rfl
    clear h1 h2 hE hK
    go_wp2_with fail
    exact HK.out _ _ _ _ _ _ _ _ _ _ _ _ _ _ _ _ _ _ _ _ _ _ _ _ _ _ _ _ _ _ _ _ _ _ _ _ _ _ _ _ _ _ _ _ _ _ _ _ _ _ _ _ _ _ _ _ _ _ _ _ _ _ _ _ _ _ _ _ _ _ _ _ _ _ _ _ _ _  _ _ HE.out (HT.out _)
  · obtain rfl := h1 _ _ _ rfl
    clear h1 h2 hE hK a1 a2 a5 a6
    go_wp2_with fail
    exact HK.out _ _ _ _ _ _ _ _ _ _ _ _ _ _ _ _ _ _ _ _ _ _ _ _ _ _ _ _ _ _ _ _ _ _ _ _ _ _ _ _ _ _ _ _ _ _ _ _ _ _ _ _ _ _ _ _ _ _ _ _ _ _ _ _ _ _ _ _ _ _ _ _ _ _ _ _ _ _  _ _ HE.out (HT.out _)

set_option maxRecDepth 1000000 in
set_option maxHeartbeats 8000000 in
theorem enC6_in (n yl rb g Bu Br Y La Th At : Nat) (ca : Option Addr) (cc : Nat) (L : List Nt.Ins) (s : ByteArray) (a N : Nat) (J : (Nat → Prop) → List (Nat × Nat) → World → Prop) (Jx : (Nat → Prop) → World → Prop) (ALL : List (Nat × Nat))
    (hJ : Abi J) (hJx : AbiX Jx)
    (hY : ∀ k O ys x W1, J O ys W1 → x.1 ≤ x.2 ∧ x.2 ≤ s.size → ys.length < N → (ys ++ [x]) <+: ALL → YieldAt Fence.wide k Tryd.prog yl #[.int .i64 (x.1 : Int), .int .i64 (x.2 : Int)] W1 fun e W' =>
      (e = .returned (.bool true) ∧ J O (ys ++ [x]) W' ∧ Ke (fun k => O k ∨ Nt.Zc ca k) W1 W') ∨ (e = .returned (.bool false) ∧ Jx O W' ∧ Ke (fun k => O k ∨ Nt.Zc ca k) W1 W'))
    (Fb : List (Nat × Obj)) (fr : (Br, Obj.cells #[.pointer (some ⟨rb, 0, none⟩)] 95 (0, 0)) ∈ Fb) (fy : (Y, Obj.cells #[.func (.yield yl) #[] #[]] 117 (0, 0)) ∈ Fb)
    (hn : 1 ≤ n) (hL : Nt.Leads L) (hto : ∀ i (h : i < L.length), 0 ≤ (L[i]).to ∧ (L[i]).to ≤ 1048576) (hL1 : 1 ≤ L.length) (hLp : L.length ≤ 262144) (has : a ≤ s.size) (hs : s.size ≤ 1048576)
    (last : Nat) (nv : Value) (now : List (Nat × Nat)) (tv : Value) (thn ys : List (Nat × Nat)) (lv : Value) (m Ds : List Nat) (O : Nat → Prop) (W : World)
    (hE : Nt.Eo W O rb g ca cc L s Fb La Th a last nv now tv thn lv m Ds At) (hJ0 : J O ys W) (hm : m.length = L.length) (hl : last ≤ 1048576) (hnow : Nt.Gd L a now) (hnl : now.length ≤ L.length) (hyN : ys.length + 2 * L.length ≤ N)
    (NOW : List (Nat × Nat)) (hNOW : NOW = if a ≤ last then now ++ [(0, a)] else now) (FIN : (List (Nat × Nat) × Nat) × List Nat) (hFIN : FIN = (Nt.plcF L s a NOW (([], last), m)).1) (YALL : List (Nat × Nat)) (hYALL : YALL = ys ++ (Nt.plcF L s a NOW (([], last), m)).2) (hYA : YALL <+: ALL)
    (K : Act → World → Prop) (Q : Exit → Act → World → Prop)
    (hK : ∀ (u0 u1 u2 u10 u11 u12 u13 u14 u15 u16 u17 u18 u19 u20 u21 u22 u23 u24 u25 u26 u27 u28 u29 u30 u31 u32 u33 u34 u35 u36 u37 u38 u39 u40 u41 u42 u43 u44 u45 u46 u47 u48 u49 u50 u51 u52 u53 u54 u55 u56 u57 u58 u59 u60 u61 u62 u63 u64 u65 u66 u67 u68 u69 u70 u71 u72 u73 u74 u75 u76 u77 u78 u79 u80 u81 u82 u83 u84 nv' tv' lv' : Value) (Ds' : List Nat) (O' : Nat → Prop) (W' : World), Nt.Eo W' O' rb g ca cc L s Fb La Th a FIN.1.2 nv' FIN.1.1 tv' NOW lv' FIN.2 Ds' At → J O' YALL W' → FIN.2.length = L.length → FIN.1.1.length ≤ L.length → YALL.length ≤ ys.length + L.length → Nt.Gd L a FIN.1.1 → FIN.1.2 ≤ 1048576 → K ⟨#[u0, u1, u2, .pointer (some ⟨Bu, 0, none⟩), .pointer (some ⟨Br, 0, none⟩), .pointer (some ⟨Y, 0, none⟩), .pointer (some ⟨La, 0, none⟩), nv', .pointer (some ⟨Th, 0, none⟩), .pointer (some ⟨At, 0, none⟩), u10, u11, u12, u13, u14, u15, u16, u17, u18, u19, u20, u21, u22, u23, u24, u25, u26, u27, u28, u29, u30, u31, u32, u33, u34, u35, u36, u37, u38, u39, u40, u41, u42, u43, u44, u45, u46, u47, u48, u49, u50, u51, u52, u53, u54, u55, u56, u57, u58, u59, u60, u61, u62, u63, u64, u65, u66, u67, u68, u69, u70, u71, u72, u73, u74, u75, u76, u77, u78, u79, u80, u81, u82, u83, u84], Nt.dsOf Ds'⟩ W')
    (hR : ∀ (a' : Act) (Ds : List Nat) (O' : Nat → Prop) (W' : World), a'.defers = Nt.dsOf Ds → Ds.Nodup → Jx O' W' → (∀ D ∈ Ds, O' D ∧ W'.heap[D]? = some (.deferred (some []))) → (∀ k, O' k → k < W'.heap.size) → Q .ret a' W')
    (u0 u1 u2 u10 u11 u12 u13 u14 u15 u16 u17 u18 u19 u20 u21 u22 u23 u24 u25 u26 u27 u28 u29 u30 u31 u32 u33 u34 u35 u36 u37 u38 u39 u40 u41 u42 u43 u44 u45 u46 u47 u48 u49 u50 u51 u52 u53 u54 u55 u56 u57 u58 u59 u60 u61 u62 u63 u64 u65 u66 u67 u68 u69 u70 u71 u72 u73 u74 u75 u76 u77 u78 u79 u80 u81 u82 u83 u84 : Value) :
    Nt.enC6.wpIn Fence.wide n Tryd.prog (Exit.inBlock 1 (Exit.then K Q)) ⟨#[u0, u1, u2, .pointer (some ⟨Bu, 0, none⟩), .pointer (some ⟨Br, 0, none⟩), .pointer (some ⟨Y, 0, none⟩), .pointer (some ⟨La, 0, none⟩), nv, .pointer (some ⟨Th, 0, none⟩), .pointer (some ⟨At, 0, none⟩), u10, u11, u12, u13, u14, u15, u16, u17, u18, u19, u20, u21, u22, u23, u24, u25, u26, u27, u28, u29, u30, u31, u32, u33, u34, u35, u36, u37, u38, u39, u40, u41, u42, u43, u44, u45, u46, u47, u48, u49, u50, u51, u52, u53, u54, u55, u56, u57, u58, u59, u60, u61, u62, u63, u64, u65, u66, u67, u68, u69, u70, u71, u72, u73, u74, u75, u76, u77, u78, u79, u80, u81, u82, u83, u84], Nt.dsOf Ds⟩ W := by
  refine wpIn_seq_k ?_
  intro K1 h1
  have H1 : Hid _ := h1
  clear h1
  refine enR6_in n rb g Bu Br Y La Th At ca cc L s Fb a last nv now tv thn lv m Ds O W hE (by omega) hl (by omega) (Nt.dsOf Ds) K1 _ ?_ _ _ _ _ _ _ _ _ _ _ _ _ _ _ _ _ _ _ _ _ _ _ _ _ _ _ _ _ _ _ _ _ _ _ _ _ _ _ _ _ _ _ _ _ _ _ _ _ _ _ _ _ _ _ _ _ _ _ _ _ _ _ _ _ _ _ _ _ _ _ _ _ _ _ _ _ _ _ 
  intro u0 u1 u2 u10 u11 u12 u13 u14 u15 u16 u17 u18 u19 u20 u21 u22 u23 u24 u25 u26 u27 u28 u29 u30 u31 u32 u33 u34 u35 u36 u37 u38 u39 u40 u41 u42 u43 u44 u45 u46 u47 u48 u49 u50 u51 u52 u53 u54 u55 u56 u57 u58 u59 u60 u61 u62 u63 u64 u65 u66 u67 u68 u69 u70 u71 u72 u73 u74 u75 u76 u77 u78 u79 u80 u81 u82 u83 u84 nv' O1 W1 hE1 hT1 hO1
  have hJ1 := hJ _ _ _ _ _ hJ0 hT1 hO1
  rw [← hNOW] at hE1
  refine H1.out _ _ ?_
  clear H1 hE hJ0 hT1 hO1
  refine wpIn_seq_k ?_
  intro K2 h2
  have H2 : Hid _ := h2
  clear h2
  refine enR8_in n rb g Bu Br Y La Th At ca cc L s Fb a last nv' NOW tv thn lv m Ds O1 W1 hE1 (Nt.dsOf Ds) K2 _ ?_ _ _ _ _ _ _ _ _ _ _ _ _ _ _ _ _ _ _ _ _ _ _ _ _ _ _ _ _ _ _ _ _ _ _ _ _ _ _ _ _ _ _ _ _ _ _ _ _ _ _ _ _ _ _ _ _ _ _ _ _ _ _ _ _ _ _ _ _ _ _ _ _ _ _ _ _ _ _ 
  intro u0 u1 u2 u10 u11 u12 u13 u14 u15 u16 u17 u18 u19 u20 u21 u22 u23 u24 u25 u26 u27 u28 u29 u30 u31 u32 u33 u34 u35 u36 u37 u38 u39 u40 u41 u42 u43 u44 u45 u46 u47 u48 u49 u50 u51 u52 u53 u54 u55 u56 u57 u58 u59 u60 u61 u62 u63 u64 u65 u66 u67 u68 u69 u70 u71 u72 u73 u74 u75 u76 u77 u78 u79 u80 u81 u82 u83 u84 tv2 W2 hE2 hT2
  have hJ2 := hJ _ O1 _ _ _ hJ1 hT2 (fun k hk => ⟨.inl hk, hE2.en.mx.bd k hk⟩)
  refine H2.out _ _ ?_
  clear H2 hE1 hJ1 hT2
  obtain ⟨q0, q2, rfl⟩ := hE2.nw.len
  refine wpIn_seq_k ?_
  intro K3 h3
  have H3 : Hid _ := h3
  clear h3
  refine wpIn_seq_k ?_
  intro K4 h4
  have H4 : Hid _ := h4
  have HE2 : Hid _ := hE2
  have HJ2 : Hid _ := hJ2
  have HJ : Hid _ := hJ
  have HJx : Hid _ := hJx
  have HY : Hid _ := hY
  have HK : Hid _ := hK
  have HR : Hid _ := hR
  have HL : Hid _ := hL
  have HTo : Hid _ := hto
  have HFI : Hid _ := hFIN
  have HYA : Hid _ := hYALL
  have HNO : Hid _ := hNOW
  have HNW : Hid _ := hnow
  have HM : Hid _ := hm
  clear h4 hE2 hJ2 hJ hJx hY hK hR hL hto hFIN hYALL hNOW hnow hm
  conv => arg 4; whnf
  gi_wp2
  refine H4.out _ _ ?_
  clear H4
  refine wpIn_block ?_
  have hGd : Nt.Gd L a NOW := by
    rw [HNO.out]
    split
    · intro p hp
      rcases List.mem_append.1 hp with hp | hp
      · exact HNW.out p hp
      · obtain rfl : p = (0, a) := by simpa using hp
        exact ⟨by simp only; omega, Nat.le_refl _⟩
    · exact HNW.out
  have hNl : NOW.length ≤ 1048576 := by
    rw [HNO.out]
    split
    · simp; omega
    · omega
  have hf0 : ∀ p ∈ ((At, Obj.cells #[.int .i64 (a : Int)] 3 (0, 0)) :: Fb), p ∈ Nt.rowF W2 (.slice q0 NOW.length q2) ++ ((At, Obj.cells #[.int .i64 (a : Int)] 3 (0, 0)) :: Fb) := fun p hp => List.mem_append_right _ hp
  refine wpIn_loop (Nt.EiW yl Bu Br Y At (.slice q0 NOW.length q2) J L s rb g ca cc a ys.length La Th NOW FIN YALL (Nt.rowF W2 (.slice q0 NOW.length q2) ++ ((At, Obj.cells #[.int .i64 (a : Int)] 3 (0, 0)) :: Fb))) (fun act _ => Nt.EiM NOW act) ?_ ?_
  · have ho := Nt.opn_le m (a + 1)
    have hm := HM.out
    exact ⟨0, Ds, O1, lv, tv2, [], last, m, ys, ⟨Nat.zero_le _, HE2.out.hold, HE2.out.nd, HJ2.out, HM.out, ⟨by rw [HFI.out]; rfl, by rw [HYA.out]; rfl⟩, ⟨Nat.le_refl _, by simp; omega⟩, fun p hp => (by cases hp), hl⟩, _, _, _, _, _, _, _, _, _, _, _, _, _, _, _, _, _, _, _, _, _, _, _, _, _, _, _, _, _, _, _, _, _, _, _, _, _, _, _, _, _, _, _, _, _, _, _, _, _, _, _, _, _, _, _, _, _, _, _, _, _, _, _, _, _, _, _, _, _, _, _, _, _, _, _, rfl⟩
  · intro act W3 hI
    refine enIL_in n yl rb g Bu Br Y La Th At ca cc L s a N ys.length J Jx ALL HJ.out HJx.out HY.out (Nt.rowF W2 (.slice q0 NOW.length q2) ++ ((At, Obj.cells #[.int .i64 (a : Int)] 3 (0, 0)) :: Fb)) (hf0 _ (List.mem_cons_of_mem _ fr)) (hf0 _ (List.mem_cons_of_mem _ fy)) (hf0 _ (List.mem_cons_self ..)) hn HL.out HTo.out hLp has hs hyN (.slice q0 NOW.length q2) NOW FIN YALL (fun W' h => HE2.out.held W' h) hGd hNl hYA (Exit.then K3 (Exit.inBlock 1 (Exit.then K Q))) ?_ ?_ act W3 hI
    · intro u0 u1 u2 u10 u11 u12 u13 u14 u15 u16 u17 u18 u19 u20 u21 u22 u23 u24 u25 u26 u27 u28 u29 u30 u31 u32 u33 u34 u35 u36 u37 u38 u39 u43 u44 u45 u46 u47 u48 u49 u50 u51 u52 u53 u54 u55 u56 u57 u58 u59 u60 u61 u62 u63 u64 u65 u66 u67 u68 u69 u70 u71 u72 u73 u74 u75 u76 u77 u78 u79 u80 u81 u82 u83 u84 idx Ds' O' lv' tv' W' hE' hnd hJ' g1 g2 g3 g4 g5
      have hno : ∀ k, (Value.slice q0 NOW.length q2).ownBlock = some k → O' k ∧ ¬ Nt.Or rb g lv' k ∧ tv'.ownBlock ≠ some k ∧ k ≠ At := fun k hk => by
        have h := hE'.mx.fx (k, (W2.heap[k]?).getD default) (List.mem_append_right _ (List.mem_append_left _ (by unfold Nt.rowF; rw [hk]; simp)))
        exact ⟨h.2.1, h.2.2.1, h.2.2.2.2.2, (HE2.out.no k hk).2.2.2⟩
      have hw' := HE2.out.held W' (fun p hp => (hE'.mx.fx p (List.mem_append_right _ hp)).1)
      have hS := Nt.Eo.swap hE' hnd HE2.out.lo hw' hno
      have c1 : W'.cell? ⟨Th, 0, none⟩ = some tv' := cell_of_row W' Th 0 _ _ _ hE'.mx.mt
      have f1 : W'.frozen? ⟨Th, 0, none⟩ = false := frozen_of_row W' Th 0 _ _ hE'.mx.mt
      have hT' : Tu O' W' (W'.setCell ⟨Th, 0, none⟩ (.slice q0 NOW.length q2)) := (Tu.refl _ W').setCell (fun _ => hE'.mx.ot.1) _
      have HJ' : Hid _ := HJ.out _ O' _ _ _ hJ' hT' (fun k hk => ⟨.inl hk, hS.en.mx.bd k hk⟩)
      have HS : Hid _ := hS
      have G4 : Hid _ := g4
      clear hE' hno hw' hS hJ' hT' hnd g4
      refine H3.out _ _ ?_
      clear H3
      conv => arg 4; whnf
      gi_wp2
      exact HK.out _ _ _ _ _ _ _ _ _ _ _ _ _ _ _ _ _ _ _ _ _ _ _ _ _ _ _ _ _ _ _ _ _ _ _ _ _ _ _ _ _ _ _ _ _ _ _ _ _ _ _ _ _ _ _ _ _ _ _ _ _ _ _ _ _ _ _ _ _ _ _ _ _ _ _ _ _ _  tv' (.slice q0 NOW.length q2) lv' Ds' O' _ HS.out HJ'.out g1 g2 g3 G4.out g5
    · intro a' Ds' O2 O' last' tv' thn' W' h1 h2 h3 h4 h5
      have q := HR.out a' Ds' O' W' h1 h2 h3 h4 h5.bd
      simpa only [Exit.then, Exit.inBlock] using q
end Go.Proofs.YtdiokclbdaojpaaDoor
