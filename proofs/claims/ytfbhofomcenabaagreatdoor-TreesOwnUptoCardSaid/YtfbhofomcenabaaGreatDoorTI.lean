/- What trees.Check answers. What trees.Check answers: the contract. -/
import Derived.Test.YtfbhofomcenabaaGreatDoorFAll
import Derived.Test.YtfbhofomcenabaaGreatDoorTH
namespace Go.Proofs.YtfbhofomcenabaaGreatDoor
open Go Go.RowKit Go.Shelf

attribute [local go_sem] Oper.semAt_some

namespace Ft
theorem wkL_sz (T : FT) : ∀ p, szT T = true → ∀ x ∈ wkT.wkL none p T.kids, x.2.2.nm.size ≤ 1048576 := by
  induction T using FT.ind with
  | h T ih =>
  intro p hs
  have hs' : szT.szL T.kids = true := by
    rw [FT.eta T, szT] at hs
    exact hs
  have key : ∀ (l : List FT), szT.szL l = true → (∀ i (hi : i < l.length) p, szT (l[i]) = true → ∀ x ∈ wkT.wkL none p (l[i]).kids, x.2.2.nm.size ≤ 1048576) → ∀ b, ∀ x ∈ wkT.wkL b p l, x.2.2.nm.size ≤ 1048576 := by
    intro l
    induction l with
    | nil => intro _ _ b x hx; rw [wkT.wkL] at hx; cases hx
    | cons y r ihr =>
      intro hl h b x hx
      rw [szT.szL] at hl
      simp only [Bool.and_eq_true, decide_eq_true_eq] at hl
      rw [wkT.wkL, wk_eq] at hx
      rcases List.mem_append.1 hx with hx | hx
      · rcases List.mem_cons.1 hx with rfl | hx
        · exact hl.1.1.1
        · exact h 0 (by simp) _ hl.1.2 x (by simpa using hx)
      · exact ihr hl.2 (fun i hi => h (i + 1) (by simpa using hi)) _ x hx
  exact key T.kids hs' (fun i hi p hz => ih i hi p hz) none
theorem wk_sz {T : FT} (hs : szT T = true) {x : It} (hx : x ∈ wkT none [] T) (hp : x.1.length ≠ 0) : x.2.2.nm.size ≤ 1048576 := by
  rw [wk_eq] at hx
  rcases List.mem_cons.1 hx with rfl | hx
  · exact (hp rfl).elim
  · exact wkL_sz T [] hs x hx
/-- A row of the call's own reads as the strings. -/
theorem wy_strs {B : Nat} {Z O : Nat → Prop} {x : Wy} {w : World} (h : WyAt B Z x O w) (hp : x.p.length ≤ 65) (hs : ∀ s ∈ x.p, s.size ≤ 1048576) : Strs w x.ap x.cp x.p := by
  obtain ⟨a, c, hv, hS⟩ := own_strs h.row (by omega) (fun s hs' => by have := hs s hs'; omega)
  cases hv
  exact hS
theorem wk_path (T : FT) : ∀ b p, szT T = true → (∀ s ∈ p, s.size ≤ 1048576) → ∀ x ∈ wkT b p T, ∀ s ∈ x.1, s.size ≤ 1048576 := by
  induction T using FT.ind with
  | h T ih =>
  intro b p hs hp
  have hs' : szT.szL T.kids = true := by
    rw [FT.eta T, szT] at hs
    exact hs
  have key : ∀ (l : List FT), szT.szL l = true → (∀ i (hi : i < l.length) b p, szT (l[i]) = true → (∀ s ∈ p, s.size ≤ 1048576) → ∀ x ∈ wkT b p (l[i]), ∀ s ∈ x.1, s.size ≤ 1048576) → ∀ b, ∀ x ∈ wkT.wkL b p l, ∀ s ∈ x.1, s.size ≤ 1048576 := by
    intro l
    induction l with
    | nil => intro _ _ b x hx; rw [wkT.wkL] at hx; cases hx
    | cons y r ihr =>
      intro hl h b x hx
      rw [szT.szL] at hl
      simp only [Bool.and_eq_true, decide_eq_true_eq] at hl
      rw [wkT.wkL] at hx
      rcases List.mem_append.1 hx with hx | hx
      · refine h 0 (by simp) b (p ++ [y.nm]) hl.1.2 (fun s hs => ?_) x (by simpa using hx)
        rcases List.mem_append.1 hs with hs | hs
        · exact hp s hs
        · rw [List.mem_singleton.1 hs]; exact hl.1.1.1
      · exact ihr hl.2 (fun i hi => h (i + 1) (by simpa using hi)) _ x hx
  intro x hx
  rw [wk_eq] at hx
  rcases List.mem_cons.1 hx with rfl | hx
  · exact hp
  · exact key T.kids hs' (fun i hi b p hz hp => ih i hi b p hz hp) none x hx
theorem trB_deep {b : Option ByteArray} {T : FT} {n : Nat} (h : trB b T n = true) : n ≤ 64 := by
  rcases Nat.lt_or_ge 64 n with h2 | h2
  · rw [tr_deep h2] at h; cases h
  · exact h2
/-- All are right, and all were yielded: the tree is right. -/
theorem chk_yes {T : FT} {ys : List Wy} (h : ys.map Wy.it = wkT none [] T) (hr : ∀ x ∈ ys, itB x.it = true) : rightT T = true := by
  have h1 := fst_tree T
  rw [← h, fst_none (fun x hx => by obtain ⟨y, hy, rfl⟩ := List.mem_map.1 hx; exact hr y hy)] at h1
  cases hq : rightT T
  · rw [hq] at h1; cases h1
  · rfl
/-- One is not, the first: the tree is wrong there. -/
theorem chk_no {T : FT} {pre : List Wy} {x : Wy} (h : (pre ++ [x]).map Wy.it <+: wkT none [] T) (hr : ∀ x ∈ pre, itB x.it = true) (hx : itB x.it = false) : rightT T = false ∧ wrongAt T = x.p := by
  obtain ⟨r, hr2⟩ := h
  have h1 := fst_tree T
  rw [← hr2, List.map_append, List.append_assoc] at h1
  rw [show [x].map Wy.it ++ r = x.it :: r from rfl, fst_at (fun y hy => by obtain ⟨z, hz, rfl⟩ := List.mem_map.1 hy; exact hr z hz) hx] at h1
  cases hq : rightT T
  · rw [hq] at h1
    exact ⟨rfl, (Option.some.inj h1).symm⟩
  · rw [hq] at h1; cases h1
/-- What holds between two rounds of Check. -/
def CkI (w : World) (O : Nat → Prop) (pre : List Wy) (W : World) : Prop :=
  (∀ x ∈ pre, itB x.it = true) ∧ W.heap[w.heap.size + 1]? = some (.cells #[.int .i64 0] 26 (0, 0)) ∧ W.heap[w.heap.size + 2]? = some (.cells #[.slice none 0 0] 37 (0, 0)) ∧ Below w.heap.size w W ∧ w.heap.size + 4 ≤ W.heap.size ∧ ∀ k, O k → w.heap.size + 4 ≤ k ∧ k < W.heap.size
/-- What holds behind the round that ends it. -/
def CkX (w : World) (T : FT) (c : Code) (O : Nat → Prop) (W : World) : Prop :=
  c = .ret ∧ rightT T = false ∧ ∃ v, W.heap[w.heap.size + 1]? = some (.cells #[.int .i64 30] 26 (0, 0)) ∧ W.heap[w.heap.size + 2]? = some (.cells #[v] 37 (0, 0)) ∧ W.ownsRow w.heap.size 9 1 v (wrongAt T).length ((wrongAt T).map Value.string) ∧ (∀ k, v.ownBlock = some k → ¬ O k ∧ k < W.heap.size) ∧ Below w.heap.size w W ∧ w.heap.size + 4 ≤ W.heap.size ∧ ∀ k, O k → w.heap.size + 4 ≤ k ∧ k < W.heap.size
theorem ck_abi (w : World) : Abi (CkI w) := by
  rintro O O' pre A B ⟨h1, h2, h3, h4, h5, h6⟩ hT hO
  have hs := hT.size
  have hf : ∀ k, k < w.heap.size + 4 → B.heap[k]? = A.heap[k]? := fun k hk => hT.block k (by omega) (fun e => by have := h6 k e; omega)
  exact ⟨h1, (hf _ (by omega)).trans h2, (hf _ (by omega)).trans h3, ⟨hT.os.trans h4.os, hT.tape.trans h4.tape, hT.output.trans h4.output, by omega, fun k hk => (hf k (by omega)).trans (h4.block k hk)⟩, by omega, fun k hk => ⟨(hO k hk).1.elim (fun e => (h6 k e).1) (fun e => by omega), (hO k hk).2⟩⟩
theorem ck_abiX (w : World) (T : FT) (c : Code) : AbiX (CkX w T c) := by
  rintro O O' A B ⟨h0, h1, v, h2, h3, hr, hv, h4, h5, h6⟩ hT hO
  have hs := hT.size
  have hf : ∀ k, k < w.heap.size + 4 → B.heap[k]? = A.heap[k]? := fun k hk => hT.block k (by omega) (fun e => by have := h6 k e; omega)
  exact ⟨h0, h1, v, (hf _ (by omega)).trans h2, (hf _ (by omega)).trans h3, own_kept hr (fun k e => hT.block k (hv k e).2 (hv k e).1), fun k e => ⟨fun e2 => (hO k e2).1.elim (hv k e).1 (fun e3 => by have := (hv k e).2; omega), by have := (hv k e).2; omega⟩, ⟨hT.os.trans h4.os, hT.tape.trans h4.tape, hT.output.trans h4.output, by omega, fun k hk => (hf k (by omega)).trans (h4.block k hk)⟩, by omega, fun k hk => ⟨(hO k hk).1.elim (fun e => (h6 k e).1) (fun e => by omega), (hO k hk).2⟩⟩
end Ft
end Go.Proofs.YtfbhofomcenabaaGreatDoor
namespace Go.Proofs.YtfbhofomcenabaaGreatDoor
open Go Go.RowKit Go.Shelf

attribute [local go_sem] Oper.semAt_some

theorem own_lt {C : World} {B : Nat} {e : TypeId} {size : Nat} {v : Value} {n k : Nat} {xs : List Value} (h : C.ownsRow B e size v n xs) (hk : v.ownBlock = some k) : k < C.heap.size := by
  rcases h.2 with ⟨rfl, _⟩ | ⟨g, cap, cur, rfl, _, hg, _⟩
  · cases hk
  · cases hk; exact lt_of_block hg

set_option maxRecDepth 100000 in
theorem tall_in (F : Fence) (n : Nat) (hf : F.fn 69) (hro : F.round = none) (ad : Addr) (w : World) :
    CallsIn F n Tryz.prog 69 #[.pointer (some ad)] w fun e w' => e = .returned (.func (.func 102) #[] #[.pointer (some ⟨w.heap.size, 0, none⟩)]) ∧ w' = w.alloc (.cells #[.pointer (some ad)] 69) := by
  refine callsIn_of_wp Tryz.func69 rfl hf ?_ hro
  simp only [Tryz.ntmps69, List.size_toArray, List.length_cons, List.length_nil, Nat.reduceAdd, Nat.reduceSub, Array.replicate_succ, Array.replicate_zero, List.push_toArray, List.append_toArray, List.nil_append, List.cons_append]
  gi_wp2
  go_ret
  exact ⟨rfl, rfl⟩

set_option maxRecDepth 100000 in
set_option maxHeartbeats 4000000 in
theorem tcheck_in (T : Ft.FT) (a : Option Addr) (cap : Nat) (w : World) (hN : Ft.Fd w (· < w.heap.size) T a cap) (hz : Ft.szT T = true) :
    CallsIn Fence.wide 3 Tryz.prog 34 #[Ft.fdV T a cap] w fun e w' => Ft.ChkIs T w.heap.size e w' ∧ Below w.heap.size w w' := by
  have HZ : Hid _ := hz
  have HN : Hid _ := hN
  clear hN hz
  simp only [Ft.fdV, Ft.fdA]
  refine callsIn_of_wp_marks Tryz.func34 rfl trivial ?_ rfl
  simp only [Tryz.ntmps34, List.size_toArray, List.length_cons, List.length_nil, Nat.reduceAdd, Nat.reduceSub, Array.replicate_succ, Array.replicate_zero, List.push_toArray, List.append_toArray, List.nil_append, List.cons_append]
  gi_wp2_with (refine ⟨trivial, ?_⟩; refine (tall_in Fence.wide 2 trivial rfl _ _).mono ?_; rintro e w' ⟨rfl, rfl⟩)
  obtain ⟨W0, hW0⟩ : ∃ W0, W0 = (((w.alloc (.cells #[.string T.nm, .int .u8 (T.k : Int), .string T.d, .slice a T.kids.length cap] 25)).alloc (.cells #[.int .i64 0] 26)).alloc (.cells #[.slice none 0 0] 37)).alloc (.cells #[.pointer (some ⟨w.heap.size, 0, none⟩)] 69) := ⟨_, rfl⟩
  have hB0 : Below w.heap.size w W0 := by rw [hW0]; exact ((((Below.refl _ w).alloc (Nat.le_refl _) _).alloc (by simp) _).alloc (by simp; omega) _).alloc (by simp; omega) _
  have hs0 : W0.heap.size = w.heap.size + 4 := by rw [hW0]; simp
  have f0 : Ft.FileAt W0 w.heap.size T a cap := by rw [hW0]; exact ((((Ft.file_new w T a cap).alloc _).alloc _).alloc _)
  have f1 : W0.heap[w.heap.size + 1]? = some (.cells #[.int .i64 0] 26 (0, 0)) := by
    rw [hW0]
    have h := heap_alloc_new (w.alloc (.cells #[.string T.nm, .int .u8 (T.k : Int), .string T.d, .slice a T.kids.length cap] 25)) (.cells #[.int .i64 0] 26)
    simp only [World.size_alloc] at h
    exact (Below.heap_alloc _ _ _ (by simp)).trans ((Below.heap_alloc _ _ _ (by simp)).trans h)
  have f2 : W0.heap[w.heap.size + 2]? = some (.cells #[.slice none 0 0] 37 (0, 0)) := by
    rw [hW0]
    have h := heap_alloc_new ((w.alloc (.cells #[.string T.nm, .int .u8 (T.k : Int), .string T.d, .slice a T.kids.length cap] 25)).alloc (.cells #[.int .i64 0] 26)) (.cells #[.slice none 0 0] 37)
    simp only [World.size_alloc] at h
    exact (Below.heap_alloc _ _ _ (by simp)).trans h
  have f3 : W0.cell? ⟨w.heap.size + 3, 0, none⟩ = some (.pointer (some ⟨w.heap.size, 0, none⟩)) := by
    rw [hW0]
    have h := heap_alloc_new (((w.alloc (.cells #[.string T.nm, .int .u8 (T.k : Int), .string T.d, .slice a T.kids.length cap] 25)).alloc (.cells #[.int .i64 0] 26)).alloc (.cells #[.slice none 0 0] 37)) (.cells #[.pointer (some ⟨w.heap.size, 0, none⟩)] 69)
    simp only [World.size_alloc] at h
    simp only [World.cell?]
    rw [h]
    rfl
  rw [← hW0]
  clear hW0
  have hSq := all1_seq 2 (w.heap.size + 1) (w.heap.size + 3) w.heap.size (· < w.heap.size + 1) T a cap W0 f3 (by omega) (by show _ < _; omega) f0.four (HN.out.same (fun b (h : b < _) => hB0.block b h) (fun b (h : b < _) => by show _ < _; omega)) (fun _ h => h) (by omega)
  have hz0 : ∀ k, k < W0.heap.size → k < w.heap.size + 4 := fun k h => by omega
  refine wpIn_rangeW rfl (by omega) (gf := 102) (lb := #[.pointer (some ⟨w.heap.size + 3, 0, none⟩)]) rfl trivial (enters_of Tryz.func102 (by kernel_rfl) rfl)
    hSq (fun _ h => h.elim) (fun k (h : k < _) => by omega) (fun _ _ _ _ h _ => h) (fun x O A C h hk => h.kept hk) (fun _ => rfl)
    (Ft.CkI w) (Ft.CkX w T) (Ft.ck_abi w) (Ft.ck_abiX w T) ?init
    (fun g x W => W.heap[g]? = some (.cells #[.slice x.ap x.p.length x.cp, .pointer x.pv] 119 (0, 0))) (fun g x A C h e => e.trans h)
    (fun x g => { tmps := #[.agg #[.string T.nm, .int .u8 (T.k : Int), .string T.d, .slice a T.kids.length cap], .pointer (some ⟨w.heap.size, 0, none⟩), .pointer (some ⟨w.heap.size + 1, 0, none⟩), .pointer (some ⟨w.heap.size + 1 + 1, 0, none⟩), .pointer (some ⟨g, 0, none⟩), .pointer (some ⟨x.b, x.o, none⟩), .func (.func 102) #[] #[.pointer (some ⟨w.heap.size + 3, 0, none⟩)], .agg #[.slice x.ap x.p.length x.cp, .pointer x.pv], .pointer (some ⟨x.b, x.o, none⟩), undef, undef, undef, undef, undef, undef, undef], defers := [] }) ?assign ?body ?done ?stop
  case init =>
    intro O W hT hO
    have hs := hT.size
    refine ⟨fun x hx => (by cases hx), (hT.block _ (by omega) id).trans f1, (hT.block _ (by omega) id).trans f2, hB0.trans ⟨hT.os, hT.tape, hT.output, hT.size, fun k h => hT.block k (by omega) id⟩, by omega, fun k h => ⟨(hO k h).1.elim (fun e => e.elim) (fun e => by omega), (hO k h).2⟩⟩
  case assign =>
    intro l x W K hK
    simp only [Ft.Wy.enc]
    gi_wp2
    exact hK _ ((Tu.refl _ W).alloc _) (heap_alloc_new W _)
  case body =>
    rintro l O pre x g W hM ⟨hr, g1, g2, hB, hs, hO⟩ ⟨O1, hU, hO1⟩ h65 hlen hPf
    have c0 : W.cell? ⟨g, 0, none⟩ = some (.slice x.ap x.p.length x.cp) := by simp only [World.cell?, hM]; rfl
    have c1 : W.cell? ⟨g, 1, none⟩ = some (.pointer x.pv) := by simp only [World.cell?, hM]; rfl
    have hmem : x.it ∈ Ft.wkT none [] T := by
      obtain ⟨r, e⟩ := hPf
      rw [← e]
      simp
    have hZl : ∀ k, k < w.heap.size + 1 → k < W.heap.size := fun k h => by omega
    have C1 := tright_any x.p x.T x.ap x.cp (.pointer x.pv) x.bn x.b x.o x.a x.cap W (hU.ah.ahd hZl) (hZl _ hU.lies) hU.four (by omega) hU.sub.room.1 (fun h => Ft.wk_sz HZ.out hmem h)
    have HM : Hid _ := hM
    have HU : Hid _ := hU
    have HR : Hid _ := hr
    have HOk : Hid _ := hO
    have HPf : Hid _ := hPf
    have HBl : Hid _ := hB
    have HG : Hid (W.heap[w.heap.size + 1]? = some (.cells #[.int .i64 0] 26 (0, 0)) ∧ W.heap[w.heap.size + 2]? = some (.cells #[.slice none 0 0] 37 (0, 0))) := ⟨g1, g2⟩
    have hgl : g < W.heap.size := lt_of_block hM
    have hFs : Strs W x.ap x.cp x.p := Ft.wy_strs hU h65 (Ft.wk_path T none [] HZ.out (fun s hs => by cases hs) x.it hmem)
    have HFs : Hid _ := hFs
    clear hM hU hr hO hPf hB g1 g2 hmem hFs hlen hZl
    have HF : Hid (∀ w2, Below W.heap.size W w2 → Calls Tryz.prog 58 #[.slice x.ap x.p.length x.cp] w2 fun e w3 => ∃ aa cc, e = .returned (.slice aa x.p.length cc) ∧ w3.ownsRow W.heap.size 9 1 (.slice aa x.p.length cc) x.p.length (x.p.map Value.string) ∧ Below W.heap.size W w3) := by
      intro w2 b2
      refine (fresh_any x.ap x.cp x.p w2 (HFs.out.below b2) (by omega)).mono ?_
      rintro e w3 ⟨v, rfl, ho, b3⟩
      obtain ⟨aa, cc, rfl, _⟩ := own_strs ho (by omega) (fun s hs => HFs.out.mem s hs)
      exact ⟨aa, cc, rfl, own_mono ho b2.size, b2.trans (b3.mono b2.size)⟩
    cases hb : Ft.trB x.bn x.T x.p.length
    · rw [hb] at C1
      gi_wp2_with (refine ⟨trivial, ?_⟩; gi_at_call 70; refine CallsIn.mono (CallsIn.inRound l (callsIn_wide.2 C1)) ?_; clear C1; rintro e w2 ⟨rfl, b2⟩; have d0 := (b2.cell (p := ⟨g, 0, none⟩) hgl).trans c0; have d1 := (b2.cell (p := ⟨g, 1, none⟩) hgl).trans c1)
      have HB2 : Hid _ := b2
      gi_wp2_with fail
      refine ⟨trivial, ?_⟩
      refine CallsIn.mono (CallsIn.inRound l (callsIn_wide.2 (HF.out _ HB2.out))) ?_
      clear HF
      rintro e w3 ⟨aa, cc, rfl, ho, b3⟩
      have e1 : w3.heap[w.heap.size + 1]? = some (.cells #[.int .i64 0] 26 (0, 0)) := (b3.block _ (by omega)).trans HG.out.1
      have e2 : w3.heap[w.heap.size + 1 + 1]? = some (.cells #[.slice none 0 0] 37 (0, 0)) := (b3.block _ (by omega)).trans HG.out.2
      have k1 : w3.cell? ⟨w.heap.size + 1, 0, none⟩ = some (.int .i64 0) := by (simp only [World.cell?, e1] <;> rfl)
      have k1f := frozen_of_row w3 _ 0 _ _ e1
      have e3 : (w3.setCell ⟨w.heap.size + 1, 0, none⟩ (.int .i64 30)).heap[w.heap.size + 1 + 1]? = some (.cells #[.slice none 0 0] 37 (0, 0)) := (heap_setCell_other w3 ⟨w.heap.size + 1, 0, none⟩ _ _ (by simp)).trans e2
      have k2 : (w3.setCell ⟨w.heap.size + 1, 0, none⟩ (.int .i64 30)).cell? ⟨w.heap.size + 1 + 1, 0, none⟩ = some (.slice none 0 0) := by (simp only [World.cell?, e3] <;> rfl)
      have k2f := frozen_of_row _ _ 0 _ _ e3
      gi_wp2
      have hs3 := b3.size
      have hno := Ft.chk_no HPf.out HR.out hb
      have hoth : ∀ k, k ≠ w.heap.size + 1 → k ≠ w.heap.size + 1 + 1 → ((w3.setCell ⟨w.heap.size + 1, 0, none⟩ (.int .i64 30)).setCell ⟨w.heap.size + 1 + 1, 0, none⟩ (.slice aa x.p.length cc)).heap[k]? = w3.heap[k]? := fun k h1 h2 => (heap_setCell_other _ ⟨w.heap.size + 1 + 1, 0, none⟩ k _ h2).trans (heap_setCell_other _ ⟨w.heap.size + 1, 0, none⟩ k _ h1)
      have hsz : ((w3.setCell ⟨w.heap.size + 1, 0, none⟩ (.int .i64 30)).setCell ⟨w.heap.size + 1 + 1, 0, none⟩ (.slice aa x.p.length cc)).heap.size = w3.heap.size := by simp
      have hlo : ∀ k, (Value.slice aa x.p.length cc).ownBlock = some k → W.heap.size ≤ k ∧ k < w3.heap.size := fun k e => ⟨own_base ho e, own_lt ho e⟩
      have hfar : ∀ k, O k ∨ k < w.heap.size + 1 → k ≠ w.heap.size + 1 ∧ k ≠ w.heap.size + 1 + 1 ∧ k < W.heap.size := fun k h => h.elim (fun h => by have := HOk.out k h; omega) (fun h => by omega)
      refine ⟨⟨by rw [hsz]; exact hs3, fun k h => (hoth k (hfar k h).1 (hfar k h).2.1).trans (b3.block k (hfar k h).2.2)⟩, rfl, hno.1, .slice aa x.p.length cc, ?_, heap_setCell_same _ _ 0 _ _ _ e3, ?_, fun k e => ⟨fun e2 => by have := (hlo k e).1; have := (HOk.out k e2).2; omega, by rw [hsz]; exact (hlo k e).2⟩, ?_, by rw [hsz]; omega, fun k h => ⟨(HOk.out k h).1, by rw [hsz]; have := (HOk.out k h).2; omega⟩⟩
      · exact (heap_setCell_other _ ⟨w.heap.size + 1 + 1, 0, none⟩ _ _ (by simp)).trans (heap_setCell_same w3 _ 0 _ _ _ e1)
      · rw [hno.2]
        exact own_kept (own_mono ho (by omega)) (fun k e => hoth k (by have := (hlo k e).1; omega) (by have := (hlo k e).1; omega))
      · exact ((HBl.out.trans (b3.mono (by omega))).setCell (p := ⟨w.heap.size + 1, 0, none⟩) (by simp) _).setCell (p := ⟨w.heap.size + 1 + 1, 0, none⟩) (by simp; omega) _
    · rw [hb] at C1
      gi_wp2_with (refine ⟨trivial, ?_⟩; gi_at_call 70; refine CallsIn.mono (CallsIn.inRound l (callsIn_wide.2 C1)) ?_; clear C1; rintro e w2 ⟨rfl, b2⟩)
      have hs2 := b2.size
      refine ⟨⟨b2.size, fun k h => b2.block k (h.elim (fun h => (HOk.out k h).2) (fun h => by have h : k < w.heap.size + 1 := h; omega))⟩, ⟨fun y hy => ?_, (b2.block _ (by omega)).trans HG.out.1, (b2.block _ (by omega)).trans HG.out.2, HBl.out.trans (b2.mono (by omega)), by omega, fun k h => ⟨(HOk.out k h).1, by have := (HOk.out k h).2; omega⟩⟩, Ft.trB_deep hb⟩
      rcases List.mem_append.1 hy with hy | hy
      · exact HR.out y hy
      · rw [List.mem_singleton.1 hy]; exact hb
  case done =>
    rintro D O O' ys W hD hys _ _ _ ⟨hr, g1, g2, hB, hs, hO⟩ hK
    have hyes := Ft.chk_yes hys hr
    have HYes : Hid (Ft.rightT T = true) := hyes
    have HB : Hid _ := hB
    have HK : Hid _ := hK
    clear hys hr hyes hB hK hO hSq
    have k1 : W.cell? ⟨w.heap.size + 1, 0, none⟩ = some (.int .i64 0) := by (simp only [World.cell?, g1] <;> rfl)
    have k1f := frozen_of_row W _ 0 _ _ g1
    have e3 : (W.setCell ⟨w.heap.size + 1, 0, none⟩ (.int .i64 0)).heap[w.heap.size + 1 + 1]? = some (.cells #[.slice none 0 0] 37 (0, 0)) := (heap_setCell_other W ⟨w.heap.size + 1, 0, none⟩ _ _ (by simp)).trans g2
    have k2 : (W.setCell ⟨w.heap.size + 1, 0, none⟩ (.int .i64 0)).cell? ⟨w.heap.size + 1 + 1, 0, none⟩ = some (.slice none 0 0) := by (simp only [World.cell?, e3] <;> rfl)
    have k2f := frozen_of_row _ _ 0 _ _ e3
    gi_wp2
    have hDl : D ≠ w.heap.size + 1 ∧ D ≠ w.heap.size + 1 + 1 := by omega
    have hK3 : ((W.setCell ⟨w.heap.size + 1, 0, none⟩ (.int .i64 0)).setCell ⟨w.heap.size + 1 + 1, 0, none⟩ (.slice none 0 0)).heap[D]? = some (.deferred (some [])) := (heap_setCell_other _ ⟨w.heap.size + 1 + 1, 0, none⟩ D _ hDl.2).trans ((heap_setCell_other _ ⟨w.heap.size + 1, 0, none⟩ D _ hDl.1).trans HK.out)
    refine ⟨by simp, .inl ⟨_, _, rfl, run_takeDeferred hK3, ?_⟩⟩
    have m1 : ((W.setCell ⟨w.heap.size + 1, 0, none⟩ (.int .i64 0)).setCell ⟨w.heap.size + 1 + 1, 0, none⟩ (.slice none 0 0)).cell? ⟨w.heap.size + 1, 0, none⟩ = some (.int .i64 0) := by
      rw [World.cell?_setCell_other _ _ _ _ (by simp)]
      exact World.cell?_setCell_same' _ _ _ (by rw [k1]; rfl)
    have m2 : ((W.setCell ⟨w.heap.size + 1, 0, none⟩ (.int .i64 0)).setCell ⟨w.heap.size + 1 + 1, 0, none⟩ (.slice none 0 0)).cell? ⟨w.heap.size + 1 + 1, 0, none⟩ = some (.slice none 0 0) := World.cell?_setCell_same' _ _ _ (by rw [k2]; rfl)
    have hc1 := cell_kept m1 (grownBy_putObj' _ D (.deferred none)) (fun r e => by cases e; exact ⟨_, hK3, rfl⟩)
    have hc2 := cell_kept m2 (grownBy_putObj' _ D (.deferred none)) (fun r e => by cases e; exact ⟨_, hK3, rfl⟩)
    have hBl : Below w.heap.size w ((W.setCell ⟨w.heap.size + 1, 0, none⟩ (.int .i64 0)).setCell ⟨w.heap.size + 1 + 1, 0, none⟩ (.slice none 0 0)) := (HB.out.setCell (p := ⟨w.heap.size + 1, 0, none⟩) (by simp) _).setCell (p := ⟨w.heap.size + 1 + 1, 0, none⟩) (by simp; omega) _
    have hwr : Ft.wrongAt T = [] := by
      have h := HYes.out
      unfold Ft.rightT at h
      simp only [Bool.and_eq_true, Option.isNone_iff_eq_none] at h
      simp [Ft.wrongAt, h.1, h.2]
    refine ⟨.tuple #[.int .i64 0, .slice none 0 0], ?_, ⟨_, by rw [HYes.out]; rfl, ?_⟩, hBl.trans (belowK_b (w := w) (Nat.le_refl _) _ D _ _ (by omega) hK3 rfl rfl)⟩
    · simp [results, Tryz.f34, go_sem, hc1, hc2]
    · rw [hwr]
      exact World.ownsRow_nil _ _ _ _
  case stop =>
    rintro D O' c W hD hOD ⟨rfl, hrt, v, g1, g2, ho, hv, hB, hs, hO⟩ hK
    gi_wp2
    refine ⟨by simp, .inl ⟨_, _, rfl, run_takeDeferred hK, ?_⟩⟩
    have k1 : W.cell? ⟨w.heap.size + 1, 0, none⟩ = some (.int .i64 30) := by (simp only [World.cell?, g1] <;> rfl)
    have k2 : W.cell? ⟨w.heap.size + 2, 0, none⟩ = some v := by (simp only [World.cell?, g2] <;> rfl)
    have hc1 := cell_kept k1 (grownBy_putObj' _ D (.deferred none)) (fun r e => by cases e; exact ⟨_, hK, rfl⟩)
    have hc2 := cell_kept k2 (grownBy_putObj' _ D (.deferred none)) (fun r e => by cases e; exact ⟨_, hK, rfl⟩)
    have hc3 : (W.putObj D (.deferred none)).heap.size = W.heap.size := by simp
    refine ⟨.tuple #[.int .i64 30, v], ?_, ⟨_, by rw [hrt]; rfl, own_kept ho (fun k e => World.putObj_heap_other (fun e2 => ?_))⟩, hB.trans (belowK_b (w := w) (Nat.le_refl _) W D _ _ (by omega) hK rfl rfl)⟩
    · simp [results, Tryz.f34, go_sem, hc1, hc2]
    · subst e2; exact (hv _ e).1 hOD

theorem tcheck_any (T : Ft.FT) (a : Option Addr) (cap : Nat) (w : World) (hN : Ft.Fd w (· < w.heap.size) T a cap) (hz : Ft.szT T = true) :
    Calls Tryz.prog 34 #[Ft.fdV T a cap] w fun e w' => Ft.ChkIs T w.heap.size e w' ∧ Below w.heap.size w w' :=
  callsIn_wide.1 (tcheck_in T a cap w hN hz)

/-- What trees.Get asks of it. -/
theorem tchk : Ft.TChk := by
  intro T a cap w hN hz
  refine (tcheck_any T a cap w hN hz).mono ?_
  rintro e w' ⟨⟨v, he, _⟩, hb⟩
  exact ⟨⟨v, by rw [he]; rfl⟩, hb⟩
end Go.Proofs.YtfbhofomcenabaaGreatDoor
