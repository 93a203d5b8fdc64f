/- What holds while Print writes: a builder beside the memory of a walk. What trees.Print answers. -/
import Derived.Test.YtfbhofomcenabaaGreatDoorTM
import Derived.Test.YtfbhofomcenabaaGreatDoorFRead
namespace Go.Proofs.YtfbhofomcenabaaGreatDoor
open Go Go.RowKit

namespace Ft
/-- The builder at n holds l; nothing below n has turned since W, nor what is in O. -/
def Pw (n : Nat) (O : Nat → Prop) (W V : World) (l : List UInt8) : Prop :=
  ∃ v, Bt V n n l v ∧ (∀ k, v.ownBlock = some k → ¬ O k) ∧ Below n W V ∧ (∀ k, O k → V.heap[k]? = W.heap[k]?) ∧ n ≤ W.heap.size ∧ ∀ k, O k → n + 1 ≤ k ∧ k < W.heap.size
theorem Pw.under {n : Nat} {O : Nat → Prop} {W V V' : World} {l : List UInt8} (h : Pw n O W V l) (hb : Below V.heap.size V V') : Pw n O W V' l := by
  obtain ⟨v, h1, h2, h3, h4, h5, h6⟩ := h
  have hs := h3.size
  exact ⟨v, h1.under hb, h2, h3.trans (hb.mono (by omega)), fun k hk => (hb.block k (by have := h6 k hk; omega)).trans (h4 k hk), h5, h6⟩
theorem Pw.write {n : Nat} {O : Nat → Prop} {W V V' : World} {l l' : List UInt8} {v : Value} (h1 : Bt V n n l v) (h2 : ∀ k, v.ownBlock = some k → ¬ O k) (h3 : Below n W V) (h4 : ∀ k, O k → V.heap[k]? = W.heap[k]?) (h5 : n ≤ W.heap.size) (h6 : ∀ k, O k → n + 1 ≤ k ∧ k < W.heap.size) (hE : BtE V n n l' v V') : Pw n O W V' l' := by
  obtain ⟨v', g1, g2, g3⟩ := hE
  have hs := h3.size
  have hnl : ∀ k, v.ownBlock = some k → n ≤ k := fun k e => own_base h1.row e
  refine ⟨v', g1, fun k e hO => ?_, h3.trans (g2.below (by omega) (fun k e => e.elim (fun e => by omega) (hnl k))), fun k hk => (g2.block k (by have := h6 k hk; omega) (fun e => ?_)).trans (h4 k hk), h5, h6⟩
  · rcases g3 with q | ⟨g, q, hg⟩
    · exact h2 k (by rw [← q]; exact e) hO
    · rw [q] at e; cases e
      have := h6 _ hO
      omega
  · rcases e with e | e
    · have := h6 k hk; omega
    · exact h2 k e hk
end Ft
theorem pw_str {n : Nat} {O : Nat → Prop} {W V : World} {l : List UInt8} (h : Ft.Pw n O W V l) (s : ByteArray) (hlen : l.length + s.size ≤ 140737488355328) :
    Calls Tryz.prog 36 #[.pointer (some ⟨n, 0, none⟩), .string s] V fun e V' => e = .returned (.tuple #[.int .i64 s.size, .nilIface]) ∧ Hid (Ft.Pw n O W V' (l ++ s.data.toList)) := by
  obtain ⟨v, h1, h2, h3, h4, h5, h6⟩ := h
  refine (wstr_t n n l v s V h1 (Nat.le_trans h5 h3.size) hlen).mono ?_
  rintro e V' ⟨rfl, hE⟩
  exact ⟨rfl, Ft.Pw.write h1 h2 h3 h4 h5 h6 hE⟩
theorem pw_byte {n : Nat} {O : Nat → Prop} {W V : World} {l : List UInt8} (h : Ft.Pw n O W V l) (c : UInt8) (hlen : l.length + 1 ≤ 140737488355328) :
    Calls Tryz.prog 37 #[.pointer (some ⟨n, 0, none⟩), .int .u8 (c.toNat : Int)] V fun e V' => e = .returned .nilIface ∧ Hid (Ft.Pw n O W V' (l ++ [c])) := by
  obtain ⟨v, h1, h2, h3, h4, h5, h6⟩ := h
  refine (wbyte_t n n l v c V h1 (Nat.le_trans h5 h3.size) hlen).mono ?_
  rintro e V' ⟨rfl, hE⟩
  exact ⟨rfl, Ft.Pw.write h1 h2 h3 h4 h5 h6 hE⟩
theorem bstr_t (n : Nat) (l : List UInt8) (v : Value) (w : World) (h : Bt w n n l v) (hn : n ≤ w.heap.size) :
    Calls Tryz.prog 40 #[.pointer (some ⟨n, 0, none⟩)] w fun e w' => e = .returned (.string (Ln.bs l)) ∧ Below n w w' ∧ Lib.OthersKept 5 (some n) w w' := by
  refine (Any.Builder_String_any_k Tryz.lays169 Tryz.Builder_Extra_169 n n l w (h.bd hn).1 hn).mono ?_
  rintro e w' ⟨rfl, _, h2, h3⟩
  exact ⟨rfl, h2, h3⟩

namespace Ft
/-- What holds between two rounds of Print. -/
def PrI (w : World) (n : Nat) (O : Nat → Prop) (pre : List Wy) (W : World) : Prop :=
  ∃ v, Bt W n n (prtL (pre.map Wy.it)) v ∧ (∀ k, v.ownBlock = some k → ¬ O k) ∧ Below w.heap.size w W ∧ w.heap.size ≤ n ∧ n + 2 ≤ W.heap.size ∧ ∀ k, O k → n + 2 ≤ k ∧ k < W.heap.size
theorem pr_abi (w : World) (n : Nat) : Abi (PrI w n) := by
  rintro O O' pre A B ⟨v, h1, h2, h4, hn, h5, h6⟩ hT hO
  have hs := hT.size
  refine ⟨v, h1.tu hT (fun e => by have := h6 n e; omega) h2, fun k e hk => ?_, ⟨hT.os.trans h4.os, hT.tape.trans h4.tape, hT.output.trans h4.output, by omega, fun k hk => (hT.block k (by omega) (fun e => by have := h6 k e; omega)).trans (h4.block k hk)⟩, hn, by omega, fun k hk => ⟨(hO k hk).1.elim (fun e => (h6 k e).1) (fun e => by omega), (hO k hk).2⟩⟩
  rcases (hO k hk).1 with h | h
  · exact h2 k e h
  · have := (h1.row.lt k e).2; omega
def PrX (_ : Code) (_ : Nat → Prop) (_ : World) : Prop := False
theorem pr_abiX (c : Code) : AbiX (PrX c) := fun _ _ _ _ h _ _ => h
/-- What Print answers. -/
def prtR (T : FT) : ByteArray := if rightT T = true then Ln.bs (prtT T) else ⟨#[]⟩
end Ft
end Go.Proofs.YtfbhofomcenabaaGreatDoor
namespace Go.Proofs.YtfbhofomcenabaaGreatDoor
open Go Go.RowKit Go.Shelf

attribute [local go_sem] Oper.semAt_some

theorem Wds.at {w : World} (h : Wds w) {k : Nat} (hk : k = 1 ∨ k = 2 ∨ k = 3) : ∃ s : ByteArray, w.cell? ⟨0, k, none⟩ = some (.string s) ∧ s.data.toList = Ft.wordB k := by
  rcases hk with rfl | rfl | rfl
  · exact ⟨_, h.c1, rfl⟩
  · exact ⟨_, h.c2, rfl⟩
  · exact ⟨_, h.c3, rfl⟩

theorem pb5 {L0 : List UInt8} {WB Q : ByteArray} (h : L0.length + WB.size + 1 + Q.size + 1 ≤ 70368744177664) : (L0 ++ WB.data.toList ++ [32]).length + Q.size ≤ 140737488355328 ∧ (L0 ++ WB.data.toList ++ [32] ++ Q.data.toList).length + 1 ≤ 140737488355328 := by
  have e1 := Ln.szL WB
  have e2 := Ln.szL Q
  constructor
  · simp only [List.length_append, List.length_cons, List.length_nil]; omega
  · simp only [List.length_append, List.length_cons, List.length_nil]; omega
theorem pb7 {L0 : List UInt8} {WB Q D : ByteArray} (h : L0.length + WB.size + 1 + Q.size + (1 + D.size) + 1 ≤ 70368744177664) : (L0 ++ WB.data.toList ++ [32] ++ Q.data.toList ++ [32]).length + D.size ≤ 140737488355328 ∧ (L0 ++ WB.data.toList ++ [32] ++ Q.data.toList ++ [32] ++ D.data.toList).length + 1 ≤ 140737488355328 := by
  have e1 := Ln.szL WB
  have e2 := Ln.szL Q
  have e3 := Ln.szL D
  constructor
  · simp only [List.length_append, List.length_cons, List.length_nil]; omega
  · simp only [List.length_append, List.length_cons, List.length_nil]; omega

theorem Ft.pw_close {w V V' : World} {n : Nat} {O : Nat → Prop} {pre : List Ft.Wy} {x : Ft.Wy} {l : List UInt8} (P : Ft.Pw n O V V' l) (hl : Ft.prtL ((pre ++ [x]).map Ft.Wy.it) = l) (h4 : Below w.heap.size w V) (hn : w.heap.size + 1 ≤ n) (h5 : n + 2 ≤ V.heap.size) (h6 : ∀ k, O k → n + 2 ≤ k ∧ k < V.heap.size) :
    Ke (fun k => O k ∨ k < w.heap.size + 1) V V' ∧ Ft.PrI w n O (pre ++ [x]) V' := by
  obtain ⟨v, b1, b2, b3, b4, b5, b6⟩ := P
  have hs := b3.size
  exact ⟨⟨hs, fun k hk => hk.elim (b4 k) (fun e => b3.block k (by omega))⟩, v, by rw [hl]; exact b1, b2, h4.trans (b3.mono (by omega)), by omega, by omega, fun k hk => ⟨(h6 k hk).1, by have := h6 k hk; omega⟩⟩

set_option maxRecDepth 100000 in
set_option maxHeartbeats 4000000 in
theorem tprint_in (T : Ft.FT) (a : Option Addr) (cap : Nat) (w : World) (TT : TxT w) (hN : Ft.Fd w (· < w.heap.size) T a cap) (hz : Ft.szT T = true) (hlen : Ft.rightT T = true → (Ft.prtT T).length ≤ 70368744177664) :
    CallsIn Fence.wide 4 Tryz.prog 8 #[Ft.fdV T a cap] w fun e w' => e = .returned (.tuple #[.string (Ft.prtR T), .int .i64 (Ft.lstC T)]) ∧ Below w.heap.size w w' := by
  obtain ⟨W1, hW1⟩ : ∃ W1, W1 = w.alloc (.cells (Ft.fdA T a cap) 25) := ⟨_, rfl⟩
  have hB1 : Below w.heap.size w W1 := by rw [hW1]; exact (Below.refl _ _).alloc (Nat.le_refl _) _
  have hF1 : Ft.FileAt W1 w.heap.size T a cap := by rw [hW1]; exact Ft.file_new w T a cap
  have hs1 : W1.heap.size = w.heap.size + 1 := by rw [hW1]; simp
  have C1 := tchk T a cap W1 ((hN.under hB1).mono (fun b (h : b < _) => by omega)) hz
  obtain ⟨q0, q1, q2, q3⟩ := hF1.four
  have HW1 : Hid (W1 = w.alloc (.cells #[.string T.nm, .int .u8 (T.k : Int), .string T.d, .slice a T.kids.length cap] 25)) := hW1
  have HLEN : Hid _ := hlen
  have HN : Hid _ := hN
  have HZ : Hid _ := hz
  have HT : Hid _ := TT
  have HF1 : Hid _ := hF1
  have HB1 : Hid _ := hB1
  have hk := hN.room.1
  clear hW1 hN hz TT hF1 hB1 hlen
  simp only [Ft.fdV, Ft.fdA] at C1 ⊢
  refine callsIn_of_wp_marks Tryz.func8 rfl trivial ?_ rfl
  simp only [Tryz.ntmps8, List.size_toArray, List.length_cons, List.length_nil, Nat.reduceAdd, Nat.reduceSub, Array.replicate_succ, Array.replicate_zero, List.push_toArray, List.append_toArray, List.nil_append, List.cons_append]
  gi_wp2_with fail
  rw [← HW1.out]
  refine ⟨trivial, ?_⟩
  refine CallsIn.mono (callsIn_wide.2 C1) ?_
  clear C1
  rintro e w1 ⟨⟨v0, rfl⟩, b1⟩
  have hF2 := Ft.FileAt.under HF1.out b1
  have hB2 : Below w.heap.size w w1 := HB1.out.trans (b1.mono (by omega))
  have hs2 := b1.size
  obtain ⟨r0, r1, r2, r3⟩ := hF2.four
  cases hr : Ft.rightT T
  · have HE : Hid (Ft.prtR T = ⟨#[]⟩ ∧ Ft.lstC T = 30) := by unfold Hid Ft.prtR Ft.lstC; rw [hr]; exact ⟨rfl, rfl⟩
    have HB2 : Hid _ := hB2
    rw [HE.out.2]
    clear b1 hF2 hB2 hr
    gi_wp2_with fail
    refine ⟨_, results_tmp2 rfl _ _ _, ?_, HB2.out⟩
    rw [HE.out.1, HE.out.2]
    rfl
  · have hlen := HLEN.out hr
    have HE : Hid (Ft.prtR T = Ln.bs (Ft.prtT T) ∧ Ft.lstC T = 0) := by unfold Hid Ft.prtR Ft.lstC; rw [hr]; exact ⟨rfl, rfl⟩
    rw [HE.out.2]
    obtain ⟨W0, hW0⟩ : ∃ W0, W0 = (w1.alloc (.cells #[.pointer none, .slice none 0 0] 65)).alloc (.cells #[.pointer (some ⟨w.heap.size, 0, none⟩)] 69) := ⟨_, rfl⟩
    have hB0 : Below w1.heap.size w1 W0 := by rw [hW0]; exact ((Below.refl _ _).alloc (Nat.le_refl _) _).alloc (by simp) _
    have hs0 : W0.heap.size = w1.heap.size + 2 := by rw [hW0]; simp
    have hbt : Bt W0 w1.heap.size w1.heap.size [] (.slice none 0 0) := by rw [hW0]; exact (Bt.new w1).under ((Below.refl _ _).alloc (Nat.le_refl _) _)
    have f3 : W0.cell? ⟨w1.heap.size + 1, 0, none⟩ = some (.pointer (some ⟨w.heap.size, 0, none⟩)) := by
      rw [hW0]
      have h := heap_alloc_new (w1.alloc (.cells #[.pointer none, .slice none 0 0] 65)) (.cells #[.pointer (some ⟨w.heap.size, 0, none⟩)] 69)
      rw [World.size_alloc] at h
      rw [cell_of_row _ _ _ _ _ _ h]
      rfl
    have hF0 := hF2.under hB0
    have hN0 : Ft.Fd W0 (· < w.heap.size + 1) T a cap := HN.out.same (fun b (h : b < _) => (hB0.block b (by omega)).trans (hB2.block b h)) (fun b (h : b < _) => by show _ < _; omega)
    have HT0 : Hid (TxT W0) := (HT.out.under hB2).under hB0
    have HW0 : Hid (W0 = (w1.alloc (.cells #[.pointer none, .slice none 0 0] 65)).alloc (.cells #[.pointer (some ⟨w.heap.size, 0, none⟩)] 69)) := hW0
    have hSq := inside1_seq 3 (w.heap.size + 1) (w1.heap.size + 1) w.heap.size (· < w.heap.size + 1) T a cap W0 (by omega) f3 (by omega) (by show _ < _; omega) hF0.four hN0 (fun _ h => h) (by omega)
    have HBw : Hid (Below w.heap.size w W0) := hB2.trans (hB0.mono (by omega))
    have HBt : Hid _ := hbt
    have HHr : Hid _ := hr
    have HT0s : Hid (6 ≤ w.heap.size) := HT.out.size
    have hzs : W1.heap.size ≤ w1.heap.size := hs2
    clear b1 hF2 hB2 hB0 hbt f3 hF0 hN0 hW0 hr
    gi_wp2_with (refine ⟨trivial, ?_⟩; gi_at_call 35; refine (tinside_in Fence.wide 3 trivial rfl _ _).mono ?_; rintro e w' ⟨rfl, rfl⟩)
    rw [← HW0.out]
    refine wpIn_rangeW rfl (by omega) (gf := 71) (lb := #[.pointer (some ⟨w1.heap.size + 1, 0, none⟩)]) rfl trivial (enters_of Tryz.func71 (by kernel_rfl) rfl)
      hSq (fun _ h => h.elim) (fun k (h : k < _) => by omega) (fun _ _ _ _ h _ => h) (fun x O A C h hk => h.kept hk) (fun _ => rfl)
      (Ft.PrI w w1.heap.size) Ft.PrX (Ft.pr_abi w w1.heap.size) Ft.pr_abiX ?init
      (fun _ _ _ => True) (fun _ _ _ _ _ _ => trivial)
      (fun x _ => { tmps := #[.agg #[.string T.nm, .int .u8 (T.k : Int), .string T.d, .slice a T.kids.length cap], .pointer (some ⟨w.heap.size, 0, none⟩), .string ⟨#[]⟩, .int .i64 0, .int .i64 0, v0, .pointer (some ⟨w1.heap.size, 0, none⟩), .slice x.ap x.p.length x.cp, .pointer (some ⟨x.b, x.o, none⟩), .tuple #[.int .i64 0, v0], .agg #[.string T.nm, .int .u8 (T.k : Int), .string T.d, .slice a T.kids.length cap], .tuple #[.int .i64 0, v0], .int .i64 0, v0, .int .i64 0, .bool false, undef, .func (.func 71) #[] #[.pointer (some ⟨w1.heap.size + 1, 0, none⟩)], .slice x.ap x.p.length x.cp, .pointer (some ⟨x.b, x.o, none⟩), undef, undef, undef, undef, undef, undef, undef, undef, undef, undef, undef, undef, undef, undef, undef, undef, undef, undef, undef, undef, undef, undef, undef, undef, undef, undef, undef], defers := [] }) ?assign ?body ?done ?stop
    case init =>
      intro O W hT hO
      have hs := hT.size
      have hB0 : Below W0.heap.size W0 W := ⟨hT.os, hT.tape, hT.output, hT.size, fun k h => hT.block k h id⟩
      exact ⟨_, HBt.out.under hB0, fun k e => (by cases e), HBw.out.trans (hB0.mono (by omega)), by omega, by omega, fun k h => ⟨(hO k h).1.elim (fun e => e.elim) (fun e => by omega), (hO k h).2⟩⟩
    case assign =>
      intro l x V K hK
      simp only [Ft.Wy.two]
      gi_wp2
      exact hK _ (Tu.refl _ V) trivial
    case body =>
      rintro l O pre x g V _ ⟨v, h1, h2, h4, hn, h5, h6⟩ ⟨O1, hU, hO1⟩ ⟨h65, h0⟩ hlen2 hPf
      have P0 : Ft.Pw w1.heap.size O V V (Ft.prtL (pre.map Ft.Wy.it)) := ⟨v, h1, h2, Below.refl _ _, fun _ _ => rfl, by omega, fun k hk => ⟨by have := h6 k hk; omega, (h6 k hk).2⟩⟩
      have hmem : x.it ∈ (Ft.wkT none [] T).filter Ft.inB := by
        obtain ⟨r, e⟩ := hPf
        rw [← e]
        simp
      have hmem2 : x.it ∈ Ft.wkT none [] T := (List.mem_filter.1 hmem).1
      obtain ⟨hnm, hne, h64, hal, hd⟩ := Ft.wk_in HHr.out HZ.out hmem2 h0
      have hnm : ∀ s ∈ x.p, Pl.nameB s = true := hnm
      have hne : x.p ≠ [] := hne
      have hal : Ft.aloneT x.T = true := hal
      have hd : x.T.d.size ≤ 1048576 := hd
      have h64 : x.p.length ≤ 64 := h64
      have htot := Ft.prtL_front hPf
      rw [List.map_append, List.map_cons, List.map_nil, Ft.prtL_snoc] at htot
      have hk3 := Ft.alone_k hal
      have hTV := HT.out.below HT0s.out h4
      obtain ⟨WB, cW, hWB⟩ := hTV.wds.at hk3
      have hsum := Ft.names_sum x.p hnm
      have hsz : ∀ s ∈ x.p, s.size ≤ 1048576 := fun s hs => by have := Pl.name_size (hnm s hs); omega
      have hFs : Strs V x.ap x.cp x.p := Ft.wy_strs hU h65 hsz
      have hZl : x.b < w.heap.size + 1 := hU.lies
      have k1 := hU.four.c1
      have k2 := hU.four.c2
      have HLn : Hid ((Ft.prtL (pre.map Ft.Wy.it) ++ Ft.lineT x.p x.T).length ≤ 70368744177664) := by show _ ≤ _; exact Nat.le_trans htot hlen
      obtain ⟨L0, hL0⟩ : ∃ L0, L0 = Ft.prtL (pre.map Ft.Wy.it) := ⟨_, rfl⟩
      rw [← hL0] at P0 HLn
      have HP0 : Hid _ := P0
      have HLN : Hid (Ft.prtL ((pre ++ [x]).map Ft.Wy.it) = L0 ++ Ft.lineT x.p x.T) := by show _ = _; rw [List.map_append, List.map_cons, List.map_nil, Ft.prtL_snoc, hL0]; rfl
      have HTV : Hid _ := hTV
      have HFs : Hid (Strs V x.ap x.cp x.p ∧ ∀ ad, x.ap = some ad → O ad.block) := ⟨hFs, fun ad e => hO1 _ (hU.own _ (by rw [e]; rfl))⟩
      have HV : Hid (Below w.heap.size w V ∧ w.heap.size ≤ w1.heap.size ∧ w1.heap.size + 2 ≤ V.heap.size ∧ ∀ k, O k → w1.heap.size + 2 ≤ k ∧ k < V.heap.size) := ⟨h4, hn, h5, h6⟩
      have HNe : Hid (x.p ≠ []) := hne
      have kk : (x.T.k : Int) < 4 := by omega
      have hWs : WB.size = (Ft.wordB x.T.k).length := by rw [← hWB, Ln.szL]
      have HWB : Hid (WB.data.toList = Ft.wordB x.T.k) := hWB
      have hsum2 : Pl.sumP x.p ≤ 16640 := by omega
      obtain ⟨Q, hQ⟩ : ∃ Q, Q = Ln.quoP (Ln.bs (Pl.textF x.p)) := ⟨_, rfl⟩
      obtain ⟨D, hD⟩ : ∃ D, D = Ln.quoP x.T.d := ⟨_, rfl⟩
      have HQ : Hid (Q = Ln.quoP (Ln.bs (Pl.textF x.p))) := hQ
      have HDq : Hid (D = Ln.quoP x.T.d) := hD
      have HLT : Hid (Ft.lineT x.p x.T = WB.data.toList ++ [32] ++ Q.data.toList ++ (if x.T.k = 1 then [] else [32] ++ D.data.toList) ++ [10]) := by show _ = _; rw [HWB.out, hQ, hD]; rfl
      have HLn2 : Hid (L0.length + WB.size + 1 + Q.size + (if x.T.k = 1 then 0 else 1 + D.size) + 1 ≤ 70368744177664) := by
        have h := HLn.out
        rw [HLT.out] at h
        have e1 := Ln.szL WB
        have e2 := Ln.szL Q
        have e3 := Ln.szL D
        show _ ≤ _
        split
        · rename_i hk; rw [if_pos hk] at h; simp only [List.length_append, List.length_cons, List.length_nil] at h; omega
        · rename_i hk; rw [if_neg hk] at h; simp only [List.length_append, List.length_cons, List.length_nil] at h; omega
      have HL5 : Hid (L0.length + WB.size + 1 + Q.size + 1 ≤ 70368744177664) := by
        have := HLn2.out
        show _ ≤ _
        split at this <;> omega
      have C1 := pw_str HP0.out WB (by have := HLn2.out; split at this <;> omega)
      clear P0 h1 h2 h4 hn h5 h6 hO1 hPf hmem hmem2 hnm hne hal htot hk3 hWB hWs hsum hsz hFs hTV hL0 hU HLn hQ hD
      gi_wp2_with fail
      refine ⟨trivial, ?_⟩
      refine CallsIn.mono (CallsIn.inRound l (callsIn_wide.2 C1)) ?_
      clear C1
      rintro e V1 ⟨rfl, P1⟩
      have C2 := pw_byte P1.out 32 (by have := HLn2.out; rw [List.length_append, Ln.szL]; split at this <;> omega)
      gi_wp2_with fail
      refine ⟨trivial, ?_⟩
      refine CallsIn.mono (CallsIn.inRound l (callsIn_wide.2 C2)) ?_
      clear C2 P1
      rintro e V2 ⟨rfl, P2⟩
      have hS2 : Strs V2 x.ap x.cp x.p := by
        obtain ⟨_, _, _, g3, g4, _⟩ := P2.out
        exact Ft.strs_keep HFs.out.1 (fun _ ad e => g4 _ (HFs.out.2 ad e)) g3.size
      have C3 := fjoin_any x.p x.ap x.cp V2 hS2 (by omega) HNe.out
      clear hS2
      gi_wp2_with fail
      refine ⟨trivial, ?_⟩
      refine CallsIn.mono (CallsIn.inRound l (callsIn_wide.2 C3)) ?_
      clear C3
      rintro e V3 ⟨rfl, b3⟩
      have P3 : Hid _ := Ft.Pw.under P2.out b3
      have hcat : (⟨#[47]⟩ : ByteArray) ++ Ln.bs (Lib.join (x.p.map (·.data.toList)) [47]) = Ln.bs (Pl.textF x.p) := by
        apply Ln.data_inj
        rw [← Ft.join_text x.p HNe.out]
        simp [Ln.bs]
      have hb63 : ¬ 9223372036854775807 < 1 + (Ln.bs (Lib.join (x.p.map (·.data.toList)) [47])).size := by
        have := join_len x.p
        rw [Ln.bs_size]
        omega
      have T3 : TxT V3 := by
        obtain ⟨_, _, _, g3, _, _⟩ := P3.out
        exact HTV.out.below (by have := HT0s.out; have := HV.out.2.1; omega) g3
      have C4 := quote_any (Ln.bs (Pl.textF x.p)) V3 T3.tabs (by rw [Ln.bs_size, Pl.textF_length]; omega)
      rw [← HQ.out] at C4
      have HC4 : Hid _ := C4
      clear b3 P2 T3 C4
      gi_wp2_with fail
      refine ⟨trivial, ?_⟩
      refine CallsIn.mono (CallsIn.inRound l (callsIn_wide.2 HC4.out)) ?_
      clear HC4 hcat hb63
      rintro e V4 ⟨rfl, b4⟩
      have P4 : Hid _ := Ft.Pw.under P3.out b4
      have C5 := pw_str P4.out Q (pb5 HL5.out).1
      clear b4 P3
      gi_wp2_with fail
      refine ⟨trivial, ?_⟩
      refine CallsIn.mono (CallsIn.inRound l (callsIn_wide.2 C5)) ?_
      clear C5 P4
      rintro e V5 ⟨rfl, P5⟩
      have hB5 : Below w1.heap.size V V5 := by
        obtain ⟨_, _, _, g3, _, _⟩ := P5.out
        exact g3
      have hxl : x.b < w1.heap.size := by have := HV.out.2.1; omega
      have k15 := (hB5.cell (p := ⟨x.b, x.o + 1, none⟩) hxl).trans k1
      have k1b := k2
      have T5 : TxT V5 := HTV.out.below (by have := HT0s.out; have := HV.out.2.1; omega) hB5
      have HT5 : Hid _ := T5
      have HK2 : Hid _ := k1b
      clear hB5 k1 k2 T5
      by_cases hk1 : x.T.k = 1
      · have e1 : ((x.T.k : Int) != 1) = false := by rw [hk1]; rfl
        have C6 := pw_byte P5.out 10 (pb5 HL5.out).2
        have HE2 : Hid (L0 ++ Ft.lineT x.p x.T = L0 ++ WB.data.toList ++ [32] ++ Q.data.toList ++ [10]) := by show _ = _; rw [HLT.out, if_pos hk1]; simp
        clear hk1 P5
        gi_wp2_with fail
        refine ⟨trivial, ?_⟩
        refine CallsIn.mono (CallsIn.inRound l (callsIn_wide.2 C6)) ?_
        clear C6
        rintro e V6 ⟨rfl, P6⟩
        gi_wp2_with fail
        obtain ⟨z1, z2⟩ := Ft.pw_close P6.out (HLN.out.trans HE2.out) HV.out.1 (by omega) HV.out.2.2.1 HV.out.2.2.2
        exact ⟨z1, z2, h64⟩
      · have e1 : ((x.T.k : Int) != 1) = true := bne_iff_ne.2 (by omega)
        have HE2 : Hid (L0 ++ Ft.lineT x.p x.T = L0 ++ WB.data.toList ++ [32] ++ Q.data.toList ++ [32] ++ D.data.toList ++ [10]) := by show _ = _; rw [HLT.out, if_neg hk1]; simp
        have HL7 : Hid (L0.length + WB.size + 1 + Q.size + (1 + D.size) + 1 ≤ 70368744177664) := by
          have := HLn2.out
          show _ ≤ _
          rw [if_neg hk1] at this
          omega
        have C6 := pw_byte P5.out 32 (pb5 HL5.out).2
        have C7 := quote_any x.T.d V5 HT5.out.tabs (by omega)
        clear hk1 P5 C7
        gi_wp2_with fail
        refine ⟨trivial, ?_⟩
        refine CallsIn.mono (CallsIn.inRound l (callsIn_wide.2 C6)) ?_
        clear C6
        rintro e V6 ⟨rfl, P6⟩
        have hB6 : Below w1.heap.size V V6 := by
          obtain ⟨_, _, _, g3, _, _⟩ := P6.out
          exact g3
        have k26 := (hB6.cell (p := ⟨x.b, x.o + 2, none⟩) hxl).trans HK2.out
        have T6 : TxT V6 := HTV.out.below (by have := HT0s.out; have := HV.out.2.1; omega) hB6
        have C7 := quote_any x.T.d V6 T6.tabs (by omega)
        rw [← HDq.out] at C7
        have HC7 : Hid _ := C7
        clear hB6 T6 C7
        gi_wp2_with fail
        refine ⟨trivial, ?_⟩
        refine CallsIn.mono (CallsIn.inRound l (callsIn_wide.2 HC7.out)) ?_
        clear HC7
        rintro e V7 ⟨rfl, b7⟩
        have P7 : Hid _ := Ft.Pw.under P6.out b7
        have C8 := pw_str P7.out D (pb7 HL7.out).1
        clear b7 P6
        gi_wp2_with fail
        refine ⟨trivial, ?_⟩
        refine CallsIn.mono (CallsIn.inRound l (callsIn_wide.2 C8)) ?_
        clear C8 P7
        rintro e V8 ⟨rfl, P8⟩
        have C9 := pw_byte P8.out 10 (pb7 HL7.out).2
        clear P8
        gi_wp2_with fail
        refine ⟨trivial, ?_⟩
        refine CallsIn.mono (CallsIn.inRound l (callsIn_wide.2 C9)) ?_
        clear C9
        rintro e V9 ⟨rfl, P9⟩
        gi_wp2_with fail
        obtain ⟨z1, z2⟩ := Ft.pw_close P9.out (HLN.out.trans HE2.out) HV.out.1 (by omega) HV.out.2.2.1 HV.out.2.2.2
        exact ⟨z1, z2, h64⟩
    case done =>
      rintro D O O' ys W hD hys hOD' hOD hOO ⟨v, h1, h2, h4, hn, h5, h6⟩ hK
      have hys2 : Ft.prtL (ys.map Ft.Wy.it) = Ft.prtT T := by rw [hys]; rfl
      rw [hys2] at h1
      have C1 := bstr_t w1.heap.size (Ft.prtT T) v W h1 (by omega)
      have HB : Hid (Below w.heap.size w W) := h4
      have HK : Hid _ := hK
      have HD : Hid (w1.heap.size + 2 ≤ D) := by
        have := h6 D hOD'
        exact this.1
      clear hys hys2 h1 h2 h4 h6 hK hOO hOD hOD' hSq
      gi_wp2_with fail
      refine ⟨trivial, ?_⟩
      refine CallsIn.mono (callsIn_wide.2 C1) ?_
      clear C1
      rintro e W2 ⟨rfl, b2, o2⟩
      have hK' : W2.heap[D]? = some (.deferred (some [])) := o2 D _ HK.out (by have := HD.out; intro e; cases e; omega) (fun c fz e => by cases e)
      have HB2 : Hid (Below w.heap.size w W2) := HB.out.trans (b2.mono (by omega))
      have HK' : Hid _ := hK'
      clear b2 o2 hK'
      gi_wp2_with fail
      refine ⟨by simp, .inl ⟨_, _, rfl, run_takeDeferred HK'.out, ?_⟩⟩
      refine ⟨_, results_tmp2 rfl _ _ _, ?_, HB2.out.trans (belowK_b (w := w) (Nat.le_refl _) W2 D _ _ (by have := HD.out; omega) HK'.out rfl rfl)⟩
      rw [HE.out.1, HE.out.2]
      rfl
    case stop =>
      rintro D O' c W hD hOD hX hK
      exact hX.elim

theorem tprint_any (T : Ft.FT) (a : Option Addr) (cap : Nat) (w : World) (TT : TxT w) (hN : Ft.Fd w (· < w.heap.size) T a cap) (hz : Ft.szT T = true) (hlen : Ft.rightT T = true → (Ft.prtT T).length ≤ 70368744177664) :
    Calls Tryz.prog 8 #[Ft.fdV T a cap] w fun e w' => e = .returned (.tuple #[.string (Ft.prtR T), .int .i64 (Ft.lstC T)]) ∧ Below w.heap.size w w' :=
  callsIn_wide.1 (tprint_in T a cap w TT hN hz hlen)
end Go.Proofs.YtfbhofomcenabaaGreatDoor
