/- The law ArgsOwn: answers are their asker's own, in all their lists. -/
import Derived.Test.YtklcfjakhabbgaaArOw
import Derived.Test.YtklcfjakhabbgaaArC
import Derived.Test.YtklcfjakhabbgaaArAs
namespace Go.Proofs.Ytklcfjakhabbgaa
open Go.RowKit

theorem made_below {W V : World} {o : Obj} (hg : (W.alloc o).grownBy V (some W.heap.size)) : Below W.heap.size W V :=
  ⟨hg.os, hg.tape, hg.output, Nat.le_trans (by simp) hg.size, fun k h => (hg.block k (by simp; omega) (fun e => by have := Option.some.inj e; omega)).trans (heap_alloc_old W o h)⟩
/-- What was read lies between two sizes of the heap. -/
theorem Cop.tu {n m : Nat} {x : Ar.Av} {a b : Option Addr} {c d : Nat} {W A V : World} {O : Nat → Prop} (h : Cop n x a c b d W) (hm : W.heap.size ≤ m) (hO : ∀ k, n ≤ k → k < m → ¬ O k) (hA : AvR A x a c b d) (ht : Tu O A V) : AvR V x a c b d := by
  refine hA.tu ht (fun ad e => ?_) (fun ad e => ?_)
  · subst e
    have := h.rs.lt ad.block rfl
    exact hO _ this.1 (by omega)
  · subst e
    have := h.rn.lt ad.block rfl
    exact hO _ this.1 (by omega)
theorem box_tu {A V : World} {O : Nat → Prop} (ht : Tu O A V) {g : Nat} {o : Obj} (h : A.heap[g]? = some o) (hO : ¬ O g) : V.heap[g]? = some o := by
  rw [ht.block g (by
    rcases Nat.lt_or_ge g A.heap.size with hl | hl
    · exact hl
    · rw [Array.getElem?_eq_none hl] at h; cases h) hO]
  exact h
theorem box_cells {w : World} {g : Nat} {x : Ar.Av} {a b : Option Addr} {c d : Nat} (h : w.heap[g]? = some (.cells (avA x a c b d) 28)) : (w.cell? ⟨g, 0, none⟩ = some (.bool x.q) ∧ w.cell? ⟨g, 1, none⟩ = some (.bool x.e) ∧ w.cell? ⟨g, 2, none⟩ = some (.bool x.s) ∧ w.cell? ⟨g, 3, none⟩ = some (.bool x.i) ∧ w.cell? ⟨g, 4, none⟩ = some (.string x.sf) ∧ w.cell? ⟨g, 5, none⟩ = some (.slice a x.sc.length c) ∧ w.cell? ⟨g, 6, none⟩ = some (.slice b x.nm.length d)) :=
  ⟨cell_of_row _ _ _ _ _ _ h, cell_of_row _ _ _ _ _ _ h, cell_of_row _ _ _ _ _ _ h, cell_of_row _ _ _ _ _ _ h, cell_of_row _ _ _ _ _ _ h, cell_of_row _ _ _ _ _ _ h, cell_of_row _ _ _ _ _ _ h⟩
/-- Why and what is read, of any list. -/
theorem PrIs.ownx {x : Ar.Av} {n : Nat} {v : Value} {w : World} (h : PrIs x n v w) : OwnX w 9 1 v (Ar.prR x).length ∧ ∀ k, blk v = some k → n ≤ k := by
  by_cases he : Ar.printE x = 0
  · have hp : Ar.prR x = Ar.printL x := if_pos he
    have ho := h.1 he
    rw [hp]
    exact ⟨⟨_, own_lo ho (Nat.zero_le _)⟩, fun k e => (World.ownsRow.lt ho k e).1⟩
  · have hp : Ar.prR x = [] := if_neg he
    rw [hp, h.2 he]
    exact ⟨⟨[], World.ownsRow_nil _ _ _ _⟩, fun k e => (by cases e)⟩

set_option maxRecDepth 100000 in
set_option maxHeartbeats 8000000 in
theorem law_own (L : List ByteArray) (al : Option Addr) (cl : Nat) (w : World) (hL : Rdy w al cl L) (hl : L.length ≤ 1048576) (hm : MaxG w) :
    Calls Try.prog 8 #[.slice al L.length cl] w fun e w' => e = .returned (.bool true) ∧ Below w.heap.size w w' := by
  obtain ⟨i0, hi0, hz0, hz1, hz2⟩ := info_parts Try.infoStr
  obtain ⟨i1, hi1, hy0, hy1, hy2⟩ := info_parts Try.infoPc
  have HBg : Hid _ := begins_any w hm.m hm.g
  have HLw : Hid _ := hL
  have HMw : Hid _ := hm
  have HLl : Hid _ := hl
  clear hL hm hl
  obtain ⟨G, hG⟩ : ∃ G, G = (⟨#[45, 101]⟩ : ByteArray) :: (⟨#[120]⟩ : ByteArray) :: L := ⟨_, rfl⟩
  have HZ : Hid (∀ s ∈ G, s.size ≤ 1048576) := fun s hs => by
    rw [hG] at hs
    rcases List.mem_cons.1 hs with rfl | hs
    · decide
    rcases List.mem_cons.1 hs with rfl | hs
    · decide
    exact HLw.out.sz s hs
  have HGl : Hid (G.length = L.length + 1 + 1) := by show _ = _; rw [hG]; rfl
  have HG : Hid _ := hG
  clear hG
  go_enter Try.func8, Try.ntmps8
  go_wp2_with fail
  refine Calls.mono HBg.out ?_
  rintro e w1 ⟨rfl, hb1⟩
  have HB1 : Hid (Below w.heap.size w w1) := hb1
  have HRow1 : Hid _ := row_lit w1 [(⟨#[45, 101]⟩ : ByteArray), ⟨#[120]⟩] (by simp)
  have HR1 : Hid (∀ o, Strs (w1.alloc o) al cl L) := fun o => ((HLw.out.below HB1.out).below (alloc_below w1 o)).st
  clear hb1 HBg
  go_wp2_with (at_builtin; refine wpList_append_strs _ rfl _ _ rfl w1.heap.size _ [(⟨#[45, 101]⟩ : ByteArray), ⟨#[120]⟩] rfl HRow1.out al cl L rfl (HR1.out _) (by have := HLl.out; show 2 + _ ≤ _; omega) (by simp) ?_)
  intro v2 w2 ho2 hg2
  have ho2' : w2.ownsRow w1.heap.size 9 1 v2 G.length (G.map Value.string) := by rw [HG.out]; exact ho2
  obtain ⟨a2, c2, rfl, hr2⟩ := own_rdy ho2' (by have := HGl.out; have := HLl.out; omega) HZ.out
  have HR2 : Hid _ := hr2
  have HB2 : Hid (Below w.heap.size w w2) := HB1.out.trans ((made_below hg2).mono HB1.out.size)
  have HC2 : Hid _ := copied_any G a2 c2 w2 hr2.st (by have := HGl.out; have := HLl.out; omega)
  obtain ⟨gl, hgl⟩ : ∃ gl, gl = G.length := ⟨_, rfl⟩
  rw [← hgl] at HC2 ⊢
  have HGn : Hid _ := hgl
  clear ho2 ho2' hg2 hr2 hgl HRow1 HR1 HB1
  go_wp2_with fail
  refine Calls.mono HC2.out ?_
  rintro e w3 ⟨v3, rfl, ho3, hb3⟩
  have ho3' : w3.ownsRow w2.heap.size 9 1 v3 G.length (G.map Value.string) := by rw [← HGn.out]; exact ho3
  obtain ⟨a3, c3, rfl, hr3⟩ := own_rdy ho3' (by have := HGl.out; have := HLl.out; omega) HZ.out
  have HW3 : Hid _ := hr3
  have HG3 : Hid _ := HR2.out.below hb3
  have HF23 : Hid _ := hb3
  have HB3 : Hid (Below w.heap.size w w3) := HB2.out.trans (hb3.mono HB2.out.size)
  have HRd3 : Hid _ := HG3.out.read (HMw.out.below HB3.out)
  rw [← HGn.out] at HRd3
  clear ho3 ho3' hb3 hr3 HC2
  go_wp2_with fail
  refine Calls.mono HRd3.out ?_
  rintro e w4 ⟨xa, xc, xb, xd, rfl, hc4, hb4⟩
  have HX4 : Hid _ := Cop.read HZ.out hc4
  have HN : Hid _ := read_nums G HZ.out
  obtain ⟨R, hR⟩ : ∃ R, R = Ar.readF G := ⟨_, rfl⟩
  rw [← hR] at hc4 HX4 HN ⊢
  have HRf : Hid _ := hR
  have HC4 : Hid _ := hc4
  have HB4 : Hid (Below w.heap.size w w4) := HB3.out.trans (hb4.mono HB3.out.size)
  obtain ⟨w5, hw5⟩ : ∃ w5, w5 = w4.alloc (.cells (avA R.1 xa xc xb xd) 28) := ⟨_, rfl⟩
  have hb5 : Below w4.heap.size w4 w5 := by rw [hw5]; exact alloc_below _ _
  have HGa5 : Hid (w5.heap[w4.heap.size]? = some (.cells (avA R.1 xa xc xb xd) 28)) := by show _ = _; rw [hw5]; exact heap_alloc_new _ _
  have HS5 : Hid (w3.heap.size ≤ w4.heap.size ∧ w5.heap.size = w4.heap.size + 1) := ⟨hb4.size, by rw [hw5]; simp⟩
  have HC5 : Hid _ := HC4.out.below hb5
  have HG5 : Hid _ := (HG3.out.below hb4).below hb5
  have HW35 : Hid _ := (HW3.out.below hb4).below hb5
  have HF35 : Hid (Below w3.heap.size w3 w5) := hb4.trans (hb5.mono hb4.size)
  have HB5 : Hid (Below w.heap.size w w5) := HB4.out.trans (hb5.mono HB4.out.size)
  have HW5 : Hid _ := hw5
  have HRd5 : Hid _ := HG5.out.read (HMw.out.below HB5.out)
  rw [← HGn.out] at HRd5
  clear hc4 hb4 hb5 hw5 hR HRd3 HG3
  simp only [avA] at HW5 ⊢
  go_upto_region 6 with fail
  rw [← HW5.out]
  go_wp2_with fail
  refine Calls.mono HRd5.out ?_
  rintro e w6 ⟨ya, yc, yb, yd, rfl, hc6, hb6⟩
  have HY6 : Hid _ := Cop.read HZ.out hc6
  rw [← HRf.out] at hc6 HY6 ⊢
  have HC6 : Hid _ := hc6
  have HB6 : Hid (Below w.heap.size w w6) := HB5.out.trans (hb6.mono HB5.out.size)
  obtain ⟨w7, hw7⟩ : ∃ w7, w7 = w6.alloc (.cells (avA R.1 ya yc yb yd) 28) := ⟨_, rfl⟩
  have hb7 : Below w6.heap.size w6 w7 := by rw [hw7]; exact alloc_below _ _
  have HGb7 : Hid (w7.heap[w6.heap.size]? = some (.cells (avA R.1 ya yc yb yd) 28)) := by show _ = _; rw [hw7]; exact heap_alloc_new _ _
  have HS7 : Hid (w5.heap.size ≤ w6.heap.size ∧ w7.heap.size = w6.heap.size + 1) := ⟨hb6.size, by rw [hw7]; simp⟩
  have HF57 : Hid (Below w5.heap.size w5 w7) := hb6.trans (hb7.mono hb6.size)
  have HY7 : Hid _ := HY6.out.below hb7
  have HB7 : Hid (Below w.heap.size w w7) := HB6.out.trans (hb7.mono HB6.out.size)
  have HW7 : Hid _ := hw7
  have HCp : Hid _ := rcopy_any R.1 ya yb yc yd w7 HY7.out
  clear hc6 hb6 hb7 hw7 HRd5 HG5
  simp only [avA] at HW7 HCp ⊢
  obtain ⟨X, er, at'⟩ := R
  dsimp only at *
  obtain ⟨z1, z2⟩ := HN.out
  go_upto_region 9 with fail
  rw [← HW7.out]
  obtain ⟨f00, f01, f02, f03, f04, f05, f06⟩ := box_cells HGb7.out
  go_wp2_with fail
  refine Calls.mono HCp.out ?_
  rintro e w8 ⟨ka, kc, kb, kd, rfl, hc8, hb8⟩
  have HC8 : Hid _ := hc8
  have HB8 : Hid (Below w.heap.size w w8) := HB7.out.trans (hb8.mono HB7.out.size)
  have HK8 : Hid (AvR w8 X ka kc kb kd) := hc8.reads HY7.out
  obtain ⟨w9, hw9⟩ : ∃ w9, w9 = w8.alloc (.cells (avA X ka kc kb kd) 28) := ⟨_, rfl⟩
  have hb9 : Below w8.heap.size w8 w9 := by rw [hw9]; exact alloc_below _ _
  have HGk9 : Hid (w9.heap[w8.heap.size]? = some (.cells (avA X ka kc kb kd) 28)) := by show _ = _; rw [hw9]; exact heap_alloc_new _ _
  have HS9 : Hid (w7.heap.size ≤ w8.heap.size ∧ w9.heap.size = w8.heap.size + 1) := ⟨hb8.size, by rw [hw9]; simp⟩
  have HF79 : Hid (Below w7.heap.size w7 w9) := hb8.trans (hb9.mono hb8.size)
  have HB9 : Hid (Below w.heap.size w w9) := HB8.out.trans (hb9.mono HB8.out.size)
  have HGb9 : Hid (w9.heap[w6.heap.size]? = some (.cells (avA X ya yc yb yd) 28)) := by show _ = _; rw [HF79.out.block _ (by have := HS7.out; omega)]; exact HGb7.out
  have HY9 : Hid _ := HY7.out.below HF79.out
  have HK9 : Hid _ := HK8.out.below hb9
  have HW9 : Hid _ := hw9
  have HPr : Hid _ := print_any X ya yb yc yd w9 HY9.out
  clear hc8 hb8 hb9 hw9 HCp f00 f01 f02 f03 f04 f05 f06
  simp only [avA] at HW9 HPr ⊢
  go_upto_region 10 with fail
  rw [← HW9.out]
  obtain ⟨f00, f01, f02, f03, f04, f05, f06⟩ := box_cells HGb9.out
  go_wp2_with fail
  refine Calls.mono HPr.out ?_
  rintro e w10 ⟨vc, rfl, hp10, hb10⟩
  have HF9 : Hid (Below w9.heap.size w9 w10) := hb10
  have HF59 : Hid (Below w5.heap.size w5 w9) := HF57.out.trans (HF79.out.mono HF57.out.size)
  have HF5 : Hid (Below w5.heap.size w5 w10) := HF59.out.trans (hb10.mono HF59.out.size)
  have hox := hp10.ownx
  obtain ⟨va, vcp, hvc⟩ := hox.1.slice
  have HS10 : Hid (w9.heap.size ≤ w10.heap.size) := hb10.size
  have HOw : Hid (Ow w3.heap.size w5.heap.size w9.heap.size w10 w4.heap.size X (.slice xa X.sc.length xc) (.slice xb X.nm.length xd) vc X.sc.length X.nm.length (Ar.prR X).length w10) := by
    have hC10 := HC5.out.below HF5.out
    have s5 := HS5.out
    have s7 := HS7.out
    have s9 := HS9.out
    refine ⟨Tu.refl _ _, ⟨s5.1, by omega⟩, ?_, ⟨_, own_lo hC10.rs (Nat.zero_le _)⟩, ⟨_, own_lo hC10.rn (Nat.zero_le _)⟩, hox.1, fun k e => ?_, fun k e => ?_, fun k e => ?_, HC4.out.ne⟩
    · rw [HF5.out.block _ (by omega)]; exact HGa5.out
    · have := HC4.out.rs.lt k e; exact ⟨.inl (by omega), by omega⟩
    · have := HC4.out.rn.lt k e; exact ⟨.inl (by omega), by omega⟩
    · have := hox.2 k e; exact ⟨.inr (by omega), by omega⟩
  have HFin : Hid (∀ V, Tu (fun k => (w3.heap.size ≤ k ∧ k < w5.heap.size) ∨ w9.heap.size ≤ k) w10 V → AvR V X ya yc yb yd ∧ AvR V X ka kc kb kd ∧ V.heap[w6.heap.size]? = some (.cells (avA X ya yc yb yd) 28) ∧ V.heap[w8.heap.size]? = some (.cells (avA X ka kc kb kd) 28) ∧ Strs V a2 c2 G ∧ Strs V a3 c3 G ∧ Below w.heap.size w V) := fun V ht => by
    have s5 := HS5.out
    have s7 := HS7.out
    have s9 := HS9.out
    have s10 := HS10.out
    have hB3 := HB3.out.size
    have hB10 : Below w.heap.size w w10 := HB9.out.trans (hb10.mono HB9.out.size)
    refine ⟨HC6.out.tu (m := w9.heap.size) (by omega) (fun k h1 h2 h3 => by omega) (HY9.out.below hb10) ht, HC8.out.tu (m := w9.heap.size) (by omega) (fun k h1 h2 h3 => by omega) (HK9.out.below hb10) ht, box_tu ht (by rw [hb10.block _ (by omega)]; exact HGb9.out) (fun h => by omega), box_tu ht (by rw [hb10.block _ (by omega)]; exact HGk9.out) (fun h => by omega), ?_, ?_, ?_⟩
    · refine (((HR2.out.st.below HF23.out).below HF35.out).below HF5.out).tu ht (fun ad e h => ?_)
      have := HR2.out.af ad e
      have := HF23.out.size
      omega
    · refine (HW35.out.st.below HF5.out).tu ht (fun ad e h => ?_)
      have := HW3.out.af ad e
      omega
    · exact below_tr hB10 (ht.below (by have := hB10.size; omega) (fun k h => by omega))
  subst hvc
  have HSz : Hid (X.sc.length ≤ 1099511627776 ∧ X.nm.length ≤ 1099511627776) := ⟨HX4.out.sc.len, HX4.out.nm.len⟩
  have HGA : Hid (w4.heap.size < w10.heap.size) := by show _ < _; have := HS5.out; have := HS7.out; have := HS9.out; have := HS10.out; omega
  have HN410 : Hid _ := HS10.out
  clear hp10 hb10 hox HPr HF23 HF9 HF59 HF5 HF57 HF79 HC4 HC5 HC6 HC8 HY9 HK9 HK8 HY7 HY6 HX4 HGb7 HGb9 HGk9 HGa5 HB3 HB4 HB5 HB6 HB7 HB8 HB9 HR2 HW3 HW35 HS5 HS7 HS9 HS10 HW5 HW7 HW9 HMw HLw HLl HGl HG HZ HRf f00 f01 f02 f03 f04 f05 f06 HF35 HN
  have hns := HSz.out.1
  have hnn := HSz.out.2
  generalize w4.heap.size = ga at *
  generalize w6.heap.size = gb at *
  generalize w8.heap.size = gk at *
  generalize w3.heap.size = N1 at *
  generalize w5.heap.size = N2 at *
  generalize w9.heap.size = N4 at *
  have HNp : Hid ((Ar.prR X).length ≤ 65536) := Ar.prR_len X
  generalize (Ar.prR X).length = np at *
  go_wp2_with fail
  go_loopw [14] (fun iv wr => ∃ k : Nat, iv = .int .i64 (k : Int) ∧ k ≤ X.sc.length ∧ Hid (Ow N1 N2 N4 w10 ga X (.slice xa X.sc.length xc) (.slice xb X.nm.length xd) (.slice va np vcp) X.sc.length X.nm.length np wr)) (fun iv _ => X.sc.length - (intOf iv).toNat)
  case atStart => exact ⟨0, rfl, Nat.zero_le _, HOw⟩
  case round =>
    clear HOw
    obtain ⟨k, rfl, hk, HO⟩ := hrel
    have c5 : wr.cell? ⟨ga, 5, none⟩ = some (.slice xa X.sc.length xc) := HO.out.cell 5
    by_cases hlt : k < X.sc.length
    · have hd : (k : Int) < (X.sc.length : Int) := by omega
      have hw : IntKind.i64.wrap ((k : Int) + 1) = (k : Int) + 1 := by rw [IntKind.wrap_i64]; omega
      obtain ⟨g, cap, e, hgl, hfz, hc⟩ := HO.out.rs.at' (by omega)
      injection e with e1 e2 e3
      subst e1
      obtain ⟨u, hu⟩ := hc (k * 2 + 1) (by omega)
      have hf := hfz (k * 2 + 1)
      have HO2 : Hid (Ow N1 N2 N4 w10 ga X (.slice (some ⟨g, 0, none⟩) X.sc.length xc) (.slice xb X.nm.length xd) (.slice va np vcp) X.sc.length X.nm.length np (wr.setCell ⟨g, k * 2 + 1, none⟩ (.string ⟨#[63]⟩))) := HO.out.set g (k * 2 + 1) _ (HO.out.os g rfl)
      clear hc hfz HO
      go_wp2_with fail
      go_roundw
      case rel => exact ⟨k + 1, by simp, by omega, HO2⟩
      case measure => simp only [intOf]; omega
    · have hd : ¬ (k : Int) < (X.sc.length : Int) := by omega
      clear hlt hk
      go_wp2_with fail
      rename World => wA
      go_loopw [15] (fun iv wr => ∃ k : Nat, iv = .int .i64 (k : Int) ∧ k ≤ X.nm.length ∧ Hid (Ow N1 N2 N4 w10 ga X (.slice xa X.sc.length xc) (.slice xb X.nm.length xd) (.slice va np vcp) X.sc.length X.nm.length np wr)) (fun iv _ => X.nm.length - (intOf iv).toNat)
      case atStart => exact ⟨0, rfl, Nat.zero_le _, HO⟩
      case round =>
        clear HO c5 hd
        obtain ⟨k, rfl, hk, HO⟩ := hrel
        have c6 : wr.cell? ⟨ga, 6, none⟩ = some (.slice xb X.nm.length xd) := HO.out.cell 6
        by_cases hlt : k < X.nm.length
        · have hd : (k : Int) < (X.nm.length : Int) := by omega
          have hw : IntKind.i64.wrap ((k : Int) + 1) = (k : Int) + 1 := by rw [IntKind.wrap_i64]; omega
          obtain ⟨g, cap, e, hgl, hfz, hc⟩ := HO.out.rn.at' (by omega)
          injection e with e1 e2 e3
          subst e1
          obtain ⟨u, hu⟩ := hc k (by omega)
          have hf := hfz k
          have HO2 : Hid (Ow N1 N2 N4 w10 ga X (.slice xa X.sc.length xc) (.slice (some ⟨g, 0, none⟩) X.nm.length xd) (.slice va np vcp) X.sc.length X.nm.length np (wr.setCell ⟨g, k, none⟩ (.string ⟨#[63]⟩))) := HO.out.set g k _ (HO.out.on g rfl)
          clear hc hfz HO
          go_wp2_with fail
          go_roundw
          case rel => exact ⟨k + 1, by simp, by omega, HO2⟩
          case measure => simp only [intOf]; omega
        · have hd : ¬ (k : Int) < (X.nm.length : Int) := by omega
          clear hlt hk
          go_wp2_with fail
          rename World => wB
          go_loopw [16] (fun iv wr => ∃ k : Nat, iv = .int .i64 (k : Int) ∧ k ≤ np ∧ Hid (Ow N1 N2 N4 w10 ga X (.slice xa X.sc.length xc) (.slice xb X.nm.length xd) (.slice va np vcp) X.sc.length X.nm.length np wr)) (fun iv _ => np - (intOf iv).toNat)
          case atStart => exact ⟨0, rfl, Nat.zero_le _, HO⟩
          case round =>
            clear HO c6 hd
            obtain ⟨k, rfl, hk, HO⟩ := hrel
            by_cases hlt : k < np
            · have hd : (k : Int) < (np : Int) := by omega
              obtain ⟨g, cap, e, hgl, hfz, hc⟩ := HO.out.rc.at' (by omega)
              have hnp : np ≤ 65536 := HNp.out
              have hw : IntKind.i64.wrap ((k : Int) + 1) = (k : Int) + 1 := by rw [IntKind.wrap_i64]; omega
              injection e with e1 e2 e3
              subst e1
              obtain ⟨u, hu⟩ := hc k (by omega)
              have hf := hfz k
              have HO2 : Hid (Ow N1 N2 N4 w10 ga X (.slice xa X.sc.length xc) (.slice xb X.nm.length xd) (.slice (some ⟨g, 0, none⟩) np vcp) X.sc.length X.nm.length np (wr.setCell ⟨g, k, none⟩ (.string ⟨#[33]⟩))) := HO.out.set g k _ (HO.out.oc g rfl)
              clear hc hfz HO
              go_wp2_with fail
              go_roundw
              case rel => exact ⟨k + 1, by simp, by omega, HO2⟩
              case measure => simp only [intOf]; omega
            · have hd : ¬ (k : Int) < (np : Int) := by omega
              clear hlt hk
              rename World => wC
              have c6 : wC.cell? ⟨ga, 6, none⟩ = some (.slice xb X.nm.length xd) := HO.out.cell 6
              obtain ⟨xs, hxs⟩ := HO.out.rn
              have HXs : Hid _ := hxs
              clear hxs
              go_wp2_with (at_builtin; refine wpList_append_own_at _ rfl (.tmp 79) (.tmp 80) 22 rfl 0 9 i0 (.string ⟨#[]⟩) 1 16 Try.underlying22 hi0 hz0 hz1 hz2 rfl (by decide) _ X.nm.length xs rfl (own_below HXs.out (alloc_below _ _)) ⟨wC.heap.size, 0, none⟩ 1 1 [.string ⟨#[109, 111, 114, 101]⟩] rfl rfl (strs_one wC ⟨#[109, 111, 114, 101]⟩ 9 (by decide)).news (by intro u hu; simp only [List.mem_singleton] at hu; subst hu; rfl) (by unfold maxLen; omega) (by omega) (Nat.zero_le _) ?_)
              intro v' wD hoD hgD _ hatD
              obtain ⟨na, ncp, rfl⟩ := own_slice hoD
              obtain ⟨hO2, c6', f6'⟩ := HO.out.growN HN410.out HGA.out _ hgD hoD (by first | exact hatD | simpa using hatD)
              have HO2 : Hid _ := hO2
              obtain ⟨wF, hwF⟩ : ∃ wF, wF = wD.setCell ⟨ga, 6, none⟩ (.slice na (X.nm.length + 1) ncp) := ⟨_, rfl⟩
              rw [← hwF] at HO2
              have HWF : Hid _ := hwF
              clear hO2 hoD hgD hatD HXs c6 hwF
              go_upto_region 24 with fail
              rw [← HWF.out]
              have c5 : wF.cell? ⟨ga, 5, none⟩ = some (.slice xa X.sc.length xc) := HO2.out.cell 5
              obtain ⟨ys, hys⟩ := HO2.out.rs
              have HYs : Hid _ := hys
              clear hys c6' f6'
              go_wp2_with (at_builtin; refine wpList_append_own_at _ rfl (.tmp 84) (.tmp 86) 26 rfl 0 45 i1 _ 2 24 Try.underlying26 hi1 hy0 hy1 hy2 rfl (by decide) _ X.sc.length ys rfl (own_below HYs.out (alloc_below _ _)) ⟨wF.heap.size, 0, none⟩ 1 1 [.bool false, .string ⟨#[]⟩] rfl rfl (pc_new _ (false, ⟨#[]⟩) _) (pc_one (false, ⟨#[]⟩)) (by unfold maxLen; omega) (by omega) (Nat.zero_le _) ?_)
              intro v' wG hoG hgG _ _
              obtain ⟨ma, mcp, rfl⟩ := own_slice hoG
              obtain ⟨hT2, c5', f5'⟩ := HO2.out.growS (v' := .slice ma (X.sc.length + 1) mcp) HGA.out _ hgG
              obtain ⟨wH, hwH⟩ : ∃ wH, wH = wG.setCell ⟨ga, 5, none⟩ (.slice ma (X.sc.length + 1) mcp) := ⟨_, rfl⟩
              rw [← hwH] at hT2
              obtain ⟨q1, q2, q3, q4, q5, q6, q7⟩ := HFin.out _ hT2
              have HQ5 : Hid _ := q5
              have HQ6 : Hid _ := q6
              have HQ7 : Hid _ := q7
              have HS : Hid (Calls Try.prog 12 #[.agg (avA X ya yc yb yd), .agg (avA X ka kc kb kd)] wH fun e w' => e = .returned (.bool true) ∧ Below wH.heap.size wH w') := (rsame_any X X ya yb ka kb yc yd kc kd wH q1 q2).mono fun e w' h => ⟨by rw [h.1, Ar.sameA_refl], h.2⟩
              have HWH : Hid _ := hwH
              obtain ⟨d00, d01, d02, d03, d04, d05, d06⟩ := box_cells q3
              obtain ⟨e00, e01, e02, e03, e04, e05, e06⟩ := box_cells q4
              simp only [avA] at HS
              clear q1 q2 q3 q4 q5 q6 q7 hT2 hoG hgG hwH HYs c5 HO2 HO HFin
              go_upto_region 25 with fail
              rw [← HWH.out]
              go_wp2_with fail
              refine Calls.mono HS.out ?_
              rintro e w20 ⟨rfl, hb20⟩
              have HT : Hid (Calls Try.prog 13 #[.slice a2 gl c2, .slice a3 G.length c3] w20 fun e w' => e = .returned (.bool true) ∧ Below w20.heap.size w20 w') := by
                have h := texts_any a2 a3 c2 c3 G G w20 (HQ5.out.below hb20) (HQ6.out.below hb20)
                rw [HGn.out]
                refine h.mono ?_
                rintro e w' ⟨rfl, hb⟩
                exact ⟨by rw [decide_eq_true rfl], hb⟩
              have HB20 : Hid (Below w.heap.size w w20) := HQ7.out.trans (hb20.mono HQ7.out.size)
              clear hb20
              go_wp2_with fail
              refine Calls.mono HT.out ?_
              rintro e w21 ⟨rfl, hb21⟩
              have HB21 : Hid (Below w.heap.size w w21) := HB20.out.trans (hb21.mono HB20.out.size)
              clear hb21
              go_wp2_with fail
              go_ret
              exact ⟨rfl, HB21.out⟩
end Go.Proofs.Ytklcfjakhabbgaa
