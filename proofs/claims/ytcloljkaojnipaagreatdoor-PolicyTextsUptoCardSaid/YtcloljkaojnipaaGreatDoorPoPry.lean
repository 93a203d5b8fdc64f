/- What policy.Print answers of a right policy. -/
import Derived.Test.YtcloljkaojnipaaGreatDoorPgL
namespace Go.Proofs.YtcloljkaojnipaaGreatDoor
open Go.RowKit

namespace Pl
theorem q4_le {f m o e M : Nat} (h0 : f ≤ M) (h1 : m ≤ M) (h2 : o ≤ M) (h3 : e ≤ M) : ∀ i, q4 f m o e i ≤ M
  | 0 => h0
  | 1 => h1
  | 2 => h2
  | _ + 3 => h3
end Pl
/-- What lies in memory while the numbers are written. -/
structure Prt (w wB wr : World) (b : Nat) (l : List UInt8) (vR vW : Value) (f m o e : Nat) : Prop where
  bd : Bd wr wB.heap.size b l
  bel : Below wB.heap.size wB wr
  p : wr.heap[w.heap.size]? = some (polO vR vW f m o e)
  T : PT wr
  lt : w.heap.size < wB.heap.size
theorem Prt.under {w wB wr w' : World} {b : Nat} {l : List UInt8} {vR vW : Value} {f m o e : Nat} (h : Prt w wB wr b l vR vW f m o e) (hb : Below wr.heap.size wr w') : Prt w wB w' b l vR vW f m o e :=
  ⟨h.bd.under hb, h.bel.trans (hb.mono h.bel.size), (hb.block _ (lt_of_block h.p)).trans h.p, h.T.under hb, h.lt⟩
theorem Prt.wrote {w wB wr w' : World} {b : Nat} {l l' : List UInt8} {vR vW : Value} {f m o e : Nat} (h : Prt w wB wr b l vR vW f m o e) (hd : Bd w' wB.heap.size b l') (hb : Below wB.heap.size wr w') (hT : 9 ≤ wB.heap.size) : Prt w wB w' b l' vR vW f m o e :=
  ⟨hd, h.bel.trans hb, (hb.block _ h.lt).trans h.p, h.T.below hb hT, h.lt⟩
theorem Prt.cell {w wB wr : World} {b : Nat} {l : List UInt8} {vR vW : Value} {f m o e : Nat} (h : Prt w wB wr b l vR vW f m o e) : wr.cell? ⟨w.heap.size, 2, none⟩ = some (.int .i64 (f : Int)) ∧ wr.cell? ⟨w.heap.size, 3, none⟩ = some (.int .i64 (m : Int)) ∧ wr.cell? ⟨w.heap.size, 4, none⟩ = some (.int .i64 (o : Int)) ∧ wr.cell? ⟨w.heap.size, 5, none⟩ = some (.int .i64 (e : Int)) := by
  simp only [World.cell?, h.p]; exact ⟨rfl, rfl, rfl, rfl⟩

set_option maxRecDepth 100000 in
set_option maxHeartbeats 2000000 in
theorem pprint_yes (ar aw : Option Addr) (cr cw : Nat) (R W : List (List ByteArray)) (f m o e : Nat) (w : World) (T : PT w) (hr : Pts w ar cr R) (hw : Pts w aw cw W) (hc : Pl.polC R W f m o e = 0) (hR : R.length ≤ 1024) (hW : W.length ≤ 1024) (hq : f ≤ 4294967296 ∧ m ≤ 4294967296 ∧ o ≤ 4294967296 ∧ e ≤ 4294967296) :
    Calls Tryz.prog 25 #[.agg #[.slice ar R.length cr, .slice aw W.length cw, .int .i64 (f : Int), .int .i64 (m : Int), .int .i64 (o : Int), .int .i64 (e : Int)]] w fun x w' => ∃ cR cW, Pl.Cov R cR ∧ Pl.Cov W cW ∧ x = .returned (.tuple #[.string (Ln.bs (Pl.polB cR cW (Pl.q4 f m o e))), .int .i64 0]) ∧ Below w.heap.size w w' := by
  obtain ⟨wa, hwa⟩ : ∃ wa, wa = w.alloc (.cells #[.slice ar R.length cr, .slice aw W.length cw, .int .i64 (f : Int), .int .i64 (m : Int), .int .i64 (o : Int), .int .i64 (e : Int)] 24) := ⟨_, rfl⟩
  have hB : Below w.heap.size w wa := by rw [hwa]; exact (Below.refl _ _).alloc (Nat.le_refl _) _
  have HB : Hid (Below w.heap.size w wa) := hB
  have hx : wa.heap[w.heap.size]? = some (polO (.slice ar R.length cr) (.slice aw W.length cw) f m o e) := by rw [hwa]; exact heap_alloc_new _ _
  have HW : Hid (wa = w.alloc (.cells #[.slice ar R.length cr, .slice aw W.length cw, .int .i64 (f : Int), .int .i64 (m : Int), .int .i64 (o : Int), .int .i64 (e : Int)] 24)) := hwa
  have H1 := pnormal_yes ar aw cr cw R W f m o e wa (hr.below hB) (hw.below hB) hc
  have HX : Hid (wa.heap[w.heap.size]? = some (polO (.slice ar R.length cr) (.slice aw W.length cw) f m o e)) := hx
  have HT : Hid (PT wa) := T.under hB
  have hTs := T.size
  have hq4 : ∀ i, Pl.q4 f m o e i ≤ 4294967296 := Pl.q4_le hq.1 hq.2.1 hq.2.2.1 hq.2.2.2
  have HQ : Hid (∀ i, Pl.q4 f m o e i ≤ 4294967296) := hq4
  obtain ⟨hqf, hqm, hqo, hqe⟩ := hq
  clear hwa hx hB hr hw hc hq4 T
  go_enter Tryz.func25, Tryz.ntmps25
  go_wp2_with fail
  rw [← HW.out]
  refine H1.mono ?_
  rintro x w1 ⟨hb1, cR, cW, aR, aW, nR, nW, hcR, hcW, hlR, hlW, rfl, hrR, hrW⟩
  have x1 := (hb1.block _ (lt_of_block HX.out)).trans HX.out
  have p0 : w1.cell? ⟨w.heap.size, 0, none⟩ = some (.slice ar R.length cr) := by simp only [World.cell?, x1]; rfl
  have p1 : w1.cell? ⟨w.heap.size, 1, none⟩ = some (.slice aw W.length cw) := by simp only [World.cell?, x1]; rfl
  have p2 : w1.cell? ⟨w.heap.size, 2, none⟩ = some (.int .i64 (f : Int)) := by simp only [World.cell?, x1]; rfl
  have p3 : w1.cell? ⟨w.heap.size, 3, none⟩ = some (.int .i64 (m : Int)) := by simp only [World.cell?, x1]; rfl
  have p4 : w1.cell? ⟨w.heap.size, 4, none⟩ = some (.int .i64 (o : Int)) := by simp only [World.cell?, x1]; rfl
  have p5 : w1.cell? ⟨w.heap.size, 5, none⟩ = some (.int .i64 (e : Int)) := by simp only [World.cell?, x1]; rfl
  have f0 : ∀ j, w1.frozen? ⟨w.heap.size, j, none⟩ = false := fun j => frozen_of_row w1 _ j _ _ x1
  obtain ⟨y0, y1⟩ := put6_at x1 (.slice aR cR.length nR) (.slice aW cW.length nW) (.int .i64 (f : Int)) (.int .i64 (m : Int)) (.int .i64 (o : Int)) (.int .i64 (e : Int))
  have h0 : ∀ s, (Value.slice ar R.length cr) ≠ .string s ∧ (Value.slice aw W.length cw) ≠ .string s := fun s => ⟨by simp, by simp⟩
  have hgl : w.heap.size < wa.heap.size := lt_of_block HX.out
  obtain ⟨_, _, e1, q1⟩ := (hrR.keep x1 h0 y1 hgl).pts (by omega)
  obtain ⟨_, _, e2, q2⟩ := (hrW.keep x1 h0 y1 hgl).pts (by omega)
  obtain ⟨rfl, rfl⟩ : aR = _ ∧ nR = _ := by injection e1 with a1 _ a2; exact ⟨a1, a2⟩
  obtain ⟨rfl, rfl⟩ : aW = _ ∧ nW = _ := by injection e2 with a1 _ a2; exact ⟨a1, a2⟩
  have HB1 : Hid (Below w.heap.size w w1) := HB.out.trans (hb1.mono HB.out.size)
  have HT1 : Hid (PT w1) := HT.out.under hb1
  have HCv : Hid (Pl.Cov R cR ∧ Pl.Cov W cW) := ⟨hcR, hcW⟩
  obtain ⟨wB, hwB⟩ : ∃ wB, wB = put6 w1 w.heap.size (.slice aR cR.length nR) (.slice aW cW.length nW) (.int .i64 (f : Int)) (.int .i64 (m : Int)) (.int .i64 (o : Int)) (.int .i64 (e : Int)) := ⟨_, rfl⟩
  rw [← hwB] at q1 q2 y0 y1
  have HwB : Hid (wB = put6 w1 w.heap.size (.slice aR cR.length nR) (.slice aW cW.length nW) (.int .i64 (f : Int)) (.int .i64 (m : Int)) (.int .i64 (o : Int)) (.int .i64 (e : Int))) := hwB
  have HTB : Hid (PT wB) := HT1.out.tu y1 (fun k e => by omega)
  have HBB : Hid (Below w.heap.size w wB) := HB1.out.trans (y1.below HB1.out.size (fun k e => by omega))
  have HY0 : Hid (wB.heap[w.heap.size]? = some (polO (.slice aR cR.length nR) (.slice aW cW.length nW) f m o e)) := y0
  have hltB : w.heap.size < wB.heap.size := lt_of_block y0
  have HPR : Hid (Pts wB aR nR cR) := q1
  have HPW : Hid (Pts wB aW nW cW) := q2
  have hsB := HTB.out.size
  unfold put6 at HwB
  clear x1 hb1 hcR hcW e1 e2 h0 hrR hrW hgl hwB q1 q2 y0 y1 HX HT HB HW H1
  have HPt : Hid (Prt w wB (wB.alloc (.cells #[.pointer none, .slice none 0 0] 76)) wB.heap.size [] (.slice aR cR.length nR) (.slice aW cW.length nW) f m o e) := ⟨bd_new wB, (Below.refl _ _).alloc (Nat.le_refl _) _, (heap_alloc_old _ _ hltB).trans HY0.out, HTB.out.under ((Below.refl _ _).alloc (Nat.le_refl _) _), hltB⟩
  have d0 : wB.cell? ⟨w.heap.size, 0, none⟩ = some (.slice aR cR.length nR) := by simp only [World.cell?, HY0.out]; rfl
  go_upto_region 2 with fail
  rw [← HwB.out]
  clear HwB p0 p1 p2 p3 p4 p5 f0
  go_wp2_with fail
  refine (printPaths_any wB.heap.size [] ⟨#[114, 101, 97, 100]⟩ wB aR nR cR _ HTB.out HPR.out (by omega) HPt.out.bel HPt.out.bd (by simp) (by decide)).mono ?_
  rintro x w2 ⟨rfl, hd2, hb2⟩
  have HPt2 : Hid (Prt w wB w2 wB.heap.size ([] ++ Pl.pathsB readL cR) (.slice aR cR.length nR) (.slice aW cW.length nW) f m o e) := HPt.out.wrote hd2 hb2 (by omega)
  have d1 : w2.cell? ⟨w.heap.size, 1, none⟩ = some (.slice aW cW.length nW) := by simp only [World.cell?, HPt2.out.p]; rfl
  have hl1 := Pl.pathsB_len readL cR
  have hl2 := Pl.pathsB_len writeL cW
  have hl1' : (Pl.pathsB readL cR).length ≤ 5000000 := Nat.le_trans hl1 (Nat.le_trans (Nat.mul_le_mul (show cR.length ≤ 1024 by omega) (show readL.length + 4100 ≤ 4200 by decide)) (by decide))
  have hl2' : (Pl.pathsB writeL cW).length ≤ 5000000 := Nat.le_trans hl2 (Nat.le_trans (Nat.mul_le_mul (show cW.length ≤ 1024 by omega) (show writeL.length + 4100 ≤ 4200 by decide)) (by decide))
  clear hd2 hb2 hl1 hl2 HPt d0
  go_wp2_with fail
  refine (printPaths_any wB.heap.size _ ⟨#[119, 114, 105, 116, 101]⟩ wB aW nW cW _ HTB.out HPW.out (by omega) HPt2.out.bel HPt2.out.bd (by simp; omega) (by decide)).mono ?_
  rintro x w3 ⟨rfl, hd3, hb3⟩
  have HPt3 : Hid (Prt w wB w3 wB.heap.size (Pl.pathsB readL cR ++ Pl.pathsB writeL cW ++ Pl.numK (Pl.q4 f m o e) 0) (.slice aR cR.length nR) (.slice aW cW.length nW) f m o e) := by
    have h3 := HPt2.out.wrote hd3 hb3 (by omega)
    unfold Hid
    rw [List.nil_append] at h3
    rw [Pl.numK, List.append_nil]
    exact h3
  have HLn : Hid ((Pl.pathsB readL cR).length ≤ 5000000 ∧ (Pl.pathsB writeL cW).length ≤ 5000000) := ⟨hl1', hl2'⟩
  clear hd3 hb3 HPt2 d1 hl1' hl2' HPR HPW
  go_wp2_with fail
  refine (quotas_any w.heap.size w3).mono ?_
  rintro x w4 ⟨rfl, hb4⟩
  have HPt4 : Hid (Prt w wB w4 wB.heap.size (Pl.pathsB readL cR ++ Pl.pathsB writeL cW ++ Pl.numK (Pl.q4 f m o e) 0) (.slice aR cR.length nR) (.slice aW cW.length nW) f m o e) := HPt3.out.under hb4
  clear hb4 HPt3
  simp only [quoV]
  have HG : Hid (∀ (k : Nat) (O : List UInt8), O = Pl.pathsB readL cR ++ Pl.pathsB writeL cW ++ Pl.numK (Pl.q4 f m o e) k → k ≤ 4 → O.length ≤ 11000000) := fun k O hO hk => by
    have h1 := Pl.numK_len _ HQ.out k hk
    have h2 := HLn.out
    rw [hO, List.length_append, List.length_append]
    omega
  have HEnd : Hid (Pl.polB cR cW (Pl.q4 f m o e) = Pl.pathsB readL cR ++ Pl.pathsB writeL cW ++ Pl.numK (Pl.q4 f m o e) 4) := rfl
  have HStep : Hid (∀ k, Pl.pathsB readL cR ++ Pl.pathsB writeL cW ++ Pl.numK (Pl.q4 f m o e) (k + 1) = (Pl.pathsB readL cR ++ Pl.pathsB writeL cW ++ Pl.numK (Pl.q4 f m o e) k) ++ Pl.lineB (Pl.wordL k) (Lib.decDigits (Pl.q4 f m o e k))) := fun k => by rw [Pl.numK]; simp only [List.append_assoc]
  go_wp2_with fail
  go_loopw [7, 23] (fun _ i wr => ∃ k : Nat, k ≤ 4 ∧ i = .int .i64 k ∧ Hid (Prt w wB wr wB.heap.size (Pl.pathsB readL cR ++ Pl.pathsB writeL cW ++ Pl.numK (Pl.q4 f m o e) k) (.slice aR cR.length nR) (.slice aW cW.length nW) f m o e)) (fun _ i _ => 4 - (intOf i).toNat)
  case atStart => exact ⟨0, by omega, rfl, HPt4⟩
  case round =>
    clear HPt4
    obtain ⟨k, hk, rfl, HP⟩ := hrel
    obtain rfl | rfl | rfl | rfl | rfl : k = 0 ∨ k = 1 ∨ k = 2 ∨ k = 3 ∨ k = 4 := by omega
    · have rq := quo_at0 w.heap.size
      simp only [quoV] at rq
      have HO := HG.out 0 _ rfl (by decide)
      have HSt := HStep.out 0
      generalize hO : Pl.pathsB readL cR ++ Pl.pathsB writeL cW ++ Pl.numK (Pl.q4 f m o e) 0 = O at *
      have HSt : Hid _ := HSt
      have hOl : O.length ≤ 11000000 := HO
      clear hO HO
      have hdl := Pl.dec_len f (by omega)
      obtain ⟨cc2, cc3, cc4, cc5⟩ := HP.out.cell
      have HBx : Hid (Prt w wB ((wr.alloc (.cells #[.string ⟨#[102, 117, 101, 108]⟩, .pointer (some ⟨w.heap.size, 2, none⟩), .int .i64 1073741824] 52)).drew) wB.heap.size O (.slice aR cR.length nR) (.slice aW cW.length nW) f m o e) := HP.out.under (((Below.refl _ wr).alloc (Nat.le_refl _) _).drew)
      have hgr : w.heap.size < wr.heap.size := lt_of_block HP.out.p
      go_wp2_with fail
      go_region_with (first | (go_at_call 51; refine (itoa_any f _ HBx.out.T (by omega)).mono ?_; rintro ex w5 ⟨rfl, hb5⟩; have HP5 : Hid (Prt w wB w5 wB.heap.size O (.slice aR cR.length nR) (.slice aW cW.length nW) f m o e) := HBx.out.under hb5; have c5 : w5.cell? ⟨wr.heap.size, 0, none⟩ = some (.string ⟨#[102, 117, 101, 108]⟩) := ((hb5.cell (p := ⟨wr.heap.size, 0, none⟩) (by show wr.heap.size < _; simp)).trans (by simp [go_sem])); clear hb5) | (go_at_call 50; refine (printLine_any wB.heap.size wB.heap.size O ⟨#[102, 117, 101, 108]⟩ (Ln.bs (Lib.decDigits f)) _ HP5.out.bd (by rw [Ln.bs_size]; show O.length + 4 + (Lib.decDigits f).length + 2 ≤ 1073741824; omega)).mono ?_; rintro ex w6 ⟨rfl, hd6, hb6⟩; have HP6 : Hid (Prt w wB w6 wB.heap.size (Pl.pathsB readL cR ++ Pl.pathsB writeL cW ++ Pl.numK (Pl.q4 f m o e) 1) (.slice aR cR.length nR) (.slice aW cW.length nW) f m o e) := (by unfold Hid; rw [HSt.out]; exact HP5.out.wrote hd6 hb6 (by omega)); clear hd6 hb6))
      all_goals
        go_wp2_with fail
        go_roundw
        case rel => exact ⟨1, by omega, by go_num, HP6⟩
        case measure => simp [intOf]
    · have rq := quo_at1 w.heap.size
      simp only [quoV] at rq
      have HO := HG.out 1 _ rfl (by decide)
      have HSt := HStep.out 1
      generalize hO : Pl.pathsB readL cR ++ Pl.pathsB writeL cW ++ Pl.numK (Pl.q4 f m o e) 1 = O at *
      have HSt : Hid _ := HSt
      have hOl : O.length ≤ 11000000 := HO
      clear hO HO
      have hdl := Pl.dec_len m (by omega)
      obtain ⟨cc2, cc3, cc4, cc5⟩ := HP.out.cell
      have HBx : Hid (Prt w wB ((wr.alloc (.cells #[.string ⟨#[109, 101, 109, 111, 114, 121]⟩, .pointer (some ⟨w.heap.size, 3, none⟩), .int .i64 1073741824] 52)).drew) wB.heap.size O (.slice aR cR.length nR) (.slice aW cW.length nW) f m o e) := HP.out.under (((Below.refl _ wr).alloc (Nat.le_refl _) _).drew)
      have hgr : w.heap.size < wr.heap.size := lt_of_block HP.out.p
      go_wp2_with fail
      go_region_with (first | (go_at_call 51; refine (itoa_any m _ HBx.out.T (by omega)).mono ?_; rintro ex w5 ⟨rfl, hb5⟩; have HP5 : Hid (Prt w wB w5 wB.heap.size O (.slice aR cR.length nR) (.slice aW cW.length nW) f m o e) := HBx.out.under hb5; have c5 : w5.cell? ⟨wr.heap.size, 0, none⟩ = some (.string ⟨#[109, 101, 109, 111, 114, 121]⟩) := ((hb5.cell (p := ⟨wr.heap.size, 0, none⟩) (by show wr.heap.size < _; simp)).trans (by simp [go_sem])); clear hb5) | (go_at_call 50; refine (printLine_any wB.heap.size wB.heap.size O ⟨#[109, 101, 109, 111, 114, 121]⟩ (Ln.bs (Lib.decDigits m)) _ HP5.out.bd (by rw [Ln.bs_size]; show O.length + 6 + (Lib.decDigits m).length + 2 ≤ 1073741824; omega)).mono ?_; rintro ex w6 ⟨rfl, hd6, hb6⟩; have HP6 : Hid (Prt w wB w6 wB.heap.size (Pl.pathsB readL cR ++ Pl.pathsB writeL cW ++ Pl.numK (Pl.q4 f m o e) 2) (.slice aR cR.length nR) (.slice aW cW.length nW) f m o e) := (by unfold Hid; rw [HSt.out]; exact HP5.out.wrote hd6 hb6 (by omega)); clear hd6 hb6))
      all_goals
        go_wp2_with fail
        go_roundw
        case rel => exact ⟨2, by omega, by go_num, HP6⟩
        case measure => simp [intOf]
    · have rq := quo_at2 w.heap.size
      simp only [quoV] at rq
      have HO := HG.out 2 _ rfl (by decide)
      have HSt := HStep.out 2
      generalize hO : Pl.pathsB readL cR ++ Pl.pathsB writeL cW ++ Pl.numK (Pl.q4 f m o e) 2 = O at *
      have HSt : Hid _ := HSt
      have hOl : O.length ≤ 11000000 := HO
      clear hO HO
      have hdl := Pl.dec_len o (by omega)
      obtain ⟨cc2, cc3, cc4, cc5⟩ := HP.out.cell
      have HBx : Hid (Prt w wB ((wr.alloc (.cells #[.string ⟨#[111, 117, 116, 112, 117, 116]⟩, .pointer (some ⟨w.heap.size, 4, none⟩), .int .i64 4294967296] 52)).drew) wB.heap.size O (.slice aR cR.length nR) (.slice aW cW.length nW) f m o e) := HP.out.under (((Below.refl _ wr).alloc (Nat.le_refl _) _).drew)
      have hgr : w.heap.size < wr.heap.size := lt_of_block HP.out.p
      go_wp2_with fail
      go_region_with (first | (go_at_call 51; refine (itoa_any o _ HBx.out.T (by omega)).mono ?_; rintro ex w5 ⟨rfl, hb5⟩; have HP5 : Hid (Prt w wB w5 wB.heap.size O (.slice aR cR.length nR) (.slice aW cW.length nW) f m o e) := HBx.out.under hb5; have c5 : w5.cell? ⟨wr.heap.size, 0, none⟩ = some (.string ⟨#[111, 117, 116, 112, 117, 116]⟩) := ((hb5.cell (p := ⟨wr.heap.size, 0, none⟩) (by show wr.heap.size < _; simp)).trans (by simp [go_sem])); clear hb5) | (go_at_call 50; refine (printLine_any wB.heap.size wB.heap.size O ⟨#[111, 117, 116, 112, 117, 116]⟩ (Ln.bs (Lib.decDigits o)) _ HP5.out.bd (by rw [Ln.bs_size]; show O.length + 6 + (Lib.decDigits o).length + 2 ≤ 1073741824; omega)).mono ?_; rintro ex w6 ⟨rfl, hd6, hb6⟩; have HP6 : Hid (Prt w wB w6 wB.heap.size (Pl.pathsB readL cR ++ Pl.pathsB writeL cW ++ Pl.numK (Pl.q4 f m o e) 3) (.slice aR cR.length nR) (.slice aW cW.length nW) f m o e) := (by unfold Hid; rw [HSt.out]; exact HP5.out.wrote hd6 hb6 (by omega)); clear hd6 hb6))
      all_goals
        go_wp2_with fail
        go_roundw
        case rel => exact ⟨3, by omega, by go_num, HP6⟩
        case measure => simp [intOf]
    · have rq := quo_at3 w.heap.size
      simp only [quoV] at rq
      have HO := HG.out 3 _ rfl (by decide)
      have HSt := HStep.out 3
      generalize hO : Pl.pathsB readL cR ++ Pl.pathsB writeL cW ++ Pl.numK (Pl.q4 f m o e) 3 = O at *
      have HSt : Hid _ := HSt
      have hOl : O.length ≤ 11000000 := HO
      clear hO HO
      have hdl := Pl.dec_len e (by omega)
      obtain ⟨cc2, cc3, cc4, cc5⟩ := HP.out.cell
      have HBx : Hid (Prt w wB ((wr.alloc (.cells #[.string ⟨#[101, 97, 99, 104]⟩, .pointer (some ⟨w.heap.size, 5, none⟩), .int .i64 4294967296] 52)).drew) wB.heap.size O (.slice aR cR.length nR) (.slice aW cW.length nW) f m o e) := HP.out.under (((Below.refl _ wr).alloc (Nat.le_refl _) _).drew)
      have hgr : w.heap.size < wr.heap.size := lt_of_block HP.out.p
      go_wp2_with fail
      go_region_with (first | (go_at_call 51; refine (itoa_any e _ HBx.out.T (by omega)).mono ?_; rintro ex w5 ⟨rfl, hb5⟩; have HP5 : Hid (Prt w wB w5 wB.heap.size O (.slice aR cR.length nR) (.slice aW cW.length nW) f m o e) := HBx.out.under hb5; have c5 : w5.cell? ⟨wr.heap.size, 0, none⟩ = some (.string ⟨#[101, 97, 99, 104]⟩) := ((hb5.cell (p := ⟨wr.heap.size, 0, none⟩) (by show wr.heap.size < _; simp)).trans (by simp [go_sem])); clear hb5) | (go_at_call 50; refine (printLine_any wB.heap.size wB.heap.size O ⟨#[101, 97, 99, 104]⟩ (Ln.bs (Lib.decDigits e)) _ HP5.out.bd (by rw [Ln.bs_size]; show O.length + 4 + (Lib.decDigits e).length + 2 ≤ 1073741824; omega)).mono ?_; rintro ex w6 ⟨rfl, hd6, hb6⟩; have HP6 : Hid (Prt w wB w6 wB.heap.size (Pl.pathsB readL cR ++ Pl.pathsB writeL cW ++ Pl.numK (Pl.q4 f m o e) 4) (.slice aR cR.length nR) (.slice aW cW.length nW) f m o e) := (by unfold Hid; rw [HSt.out]; exact HP5.out.wrote hd6 hb6 (by omega)); clear hd6 hb6))
      all_goals
        go_wp2_with fail
        go_roundw
        case rel => exact ⟨4, by omega, by go_num, HP6⟩
        case measure => simp [intOf]
    · rw [← HEnd.out] at HP
      clear HEnd HStep HG
      go_wp2_with fail
      refine (bstr_any wB.heap.size wB.heap.size _ wr HP.out.bd).mono ?_
      rintro ex w7 ⟨rfl, hb7⟩
      go_wp2_with fail
      go_ret2
      exact ⟨cR, cW, HCv.out.1, HCv.out.2, rfl, HBB.out.trans ((HP.out.bel.trans hb7).mono HBB.out.size)⟩
end Go.Proofs.YtcloljkaojnipaaGreatDoor
