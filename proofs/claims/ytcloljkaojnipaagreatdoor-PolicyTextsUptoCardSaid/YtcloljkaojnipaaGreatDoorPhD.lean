/- What the reference's Digits and Text answer. What the reference's Print answers. What the reference's count answers. -/
import Derived.Test.YtcloljkaojnipaaGreatDoorPgS
import Derived.Test.YtcloljkaojnipaaGreatDoorPgL
import Derived.Test.YtcloljkaojnipaaGreatDoorPgR
import Derived.Test.YtcloljkaojnipaaGreatDoorRefA
import Derived.Test.YtcloljkaojnipaaGreatDoorPoBkQ
import Derived.Test.YtcloljkaojnipaaGreatDoorPgY
import Derived.Deep.RegionHeld3
namespace Go.Proofs.YtcloljkaojnipaaGreatDoor
open Go.RowKit

set_option maxRecDepth 100000 in
set_option maxHeartbeats 1000000 in
theorem rdigits_any (n : Nat) (w : World) (hn : n ≤ 4294967296) :
    Calls Tryz.prog 55 #[.int .i64 (n : Int)] w fun e w' => e = .returned (.string (Ln.bs (Lib.decDigits n))) ∧ Below w.heap.size w w' := by
  by_cases h0 : n = 0
  · subst h0
    go_enter Tryz.func55, Tryz.ntmps55
    go_wp2_with fail
    go_ret
    exact ⟨by rw [show Lib.decDigits 0 = [48] from Lib.decDigits_one (by omega)]; rfl, Below.refl _ _⟩
  have hb : ((n : Int) == 0) = false := by simpa using h0
  go_enter Tryz.func55, Tryz.ntmps55
  go_wp2_with fail
  go_loopw [0, 3] (fun iv sv wr => ∃ (k : Nat) (u : ByteArray), k ≤ n ∧ iv = .int .i64 (k : Int) ∧ sv = .string u ∧ u.size ≤ 12 ∧ Hid ((0 < k → Lib.decDigits n = Lib.decDigits k ++ u.data.toList) ∧ (k = 0 → Lib.decDigits n = u.data.toList)) ∧ Below w.heap.size w wr) (fun iv _ _ => (intOf iv).toNat)
  case atStart => exact ⟨n, ⟨#[]⟩, Nat.le_refl _, rfl, rfl, by decide, ⟨fun _ => by simp, fun e => absurd e h0⟩, Below.refl _ _⟩
  case round =>
    obtain ⟨k, u, hk, rfl, rfl, hu, HU, hnx⟩ := hrel
    by_cases hlt : 0 < k
    · have i1 : (0 : Int) < (k : Int) := by omega
      obtain ⟨d, hd⟩ : ∃ d, d = k % 10 := ⟨_, rfl⟩
      obtain ⟨q, hq⟩ : ∃ q, q = k / 10 := ⟨_, rfl⟩
      have e1 : (k : Int) % 10 = (d : Int) := by omega
      have e2 : (k : Int) / 10 = (q : Int) := by omega
      have e1' : Int.tmod (k : Int) 10 = (d : Int) := by rw [Int.tmod_eq_emod_of_nonneg (by omega)]; exact e1
      have e2' : Int.tdiv (k : Int) 10 = (q : Int) := by rw [Int.tdiv_eq_ediv_of_nonneg (by omega)]; exact e2
      have hd10 : d < 10 := by omega
      have e3 : (48 + (d : Int)) % 256 = 48 + (d : Int) := by omega
      have hcv : (convert 74 9 (.slice (some ⟨wr.heap.size, 0, none⟩) 1 1)).run Tryz.prog (wr.alloc (.cells #[.int .u8 (48 + (d : Int))] 5)) = .ok (.string (Ln.bs [UInt8.ofNat (48 + d)])) (wr.alloc (.cells #[.int .u8 (48 + (d : Int))] 5)) := by
        have h := conv_lit wr [UInt8.ofNat (48 + d)] (by simp)
        have e : (bcells [UInt8.ofNat (48 + d)]).toArray = #[.int .u8 (48 + (d : Int))] := by
          simp only [bcells, List.map]
          rw [(Pl.dig_ofNat hd10).2]
          rfl
        rw [e] at h
        exact h
      have HN : Hid ((0 < q → Lib.decDigits n = Lib.decDigits q ++ (Ln.bs [UInt8.ofNat (48 + d)] ++ u).data.toList) ∧ (q = 0 → Lib.decDigits n = (Ln.bs [UInt8.ofNat (48 + d)] ++ u).data.toList)) := by
        have hh := HU.out.1 hlt
        have ea : (Ln.bs [UInt8.ofNat (48 + d)] ++ u).data.toList = [UInt8.ofNat (48 + d)] ++ u.data.toList := by simp [Ln.bs]
        rw [ea]
        refine ⟨fun hq0 => ?_, fun hq0 => ?_⟩
        · rw [hh, Lib.decDigits, dif_neg (by omega), ← hq, ← hd]; simp
        · have : k < 10 := by omega
          rw [hh, Lib.decDigits, dif_pos this, show k = d by omega]
      have hz : (Ln.bs [UInt8.ofNat (48 + d)] ++ u).size ≤ 12 := by
        have hl := Pl.dec_len n hn
        rcases Nat.eq_zero_or_pos q with h | h
        · have := congrArg List.length (HN.out.2 h); rw [Ln.szL] at this; omega
        · have := congrArg List.length (HN.out.1 h); rw [List.length_append, Ln.szL] at this; omega
      have hz2 : (Ln.bs [UInt8.ofNat (48 + d)]).size + u.size ≤ 9223372036854775807 := by rw [ByteArray.size_append] at hz; omega
      have HZ : Hid ((Ln.bs [UInt8.ofNat (48 + d)] ++ u).size ≤ 12) := hz
      have hB : Below w.heap.size w (wr.alloc (.cells #[.int .u8 (48 + (d : Int))] 5)) := hnx.alloc hnx.size _
      have hqk : q < k := by omega
      clear HU hz hd hq
      generalize Ln.bs [UInt8.ofNat (48 + d)] = D at *
      go_wp2_with fail
      go_roundw
      case rel => exact ⟨q, _, by omega, rfl, rfl, HZ.out, HN, hB⟩
      case measure => simp [intOf]; omega
    · have i1 : ¬ (0 : Int) < (k : Int) := by omega
      have HE : Hid (u = Ln.bs (Lib.decDigits n)) := by
        show _ = _
        rw [HU.out.2 (by omega), Ln.bs_data]
      go_wp2_with fail
      go_ret
      exact ⟨by rw [← HE.out]; rfl, hnx⟩
theorem ret_str {a b : ByteArray} (h : a = b) : Ending.returned (.string a) = .returned (.string b) := by rw [h]
theorem app3 (u x : ByteArray) (a b : List UInt8) (hu : u = Pl.bs a) : u ++ ⟨b.toArray⟩ ++ x = Pl.bs (a ++ b ++ x.data.toList) := by
  subst hu
  apply Pl.data_inj
  rw [Pl.data_bs]
  simp [ByteArray.data_append, Pl.bs]
set_option maxRecDepth 100000 in
set_option maxHeartbeats 400000 in
theorem rtext_any (a : Option Addr) (cap : Nat) (l : List ByteArray) (w : World) (h : Strs w a cap l) (hr : Pl.rightP l = true) :
    Calls Tryz.prog 54 #[.slice a l.length cap] w fun e w' => e = .returned (.string (Pl.textP l)) ∧ w = w' := by
  have hl := h.len
  have hsum := Pl.right_sum hr
  by_cases h0 : l.length = 0
  · have hb : ((l.length : Int) == 0) = true := by simpa using h0
    have HS : Hid (Pl.textP l = ⟨#[47]⟩) := by show _ = _; unfold Pl.textP; rw [if_pos h0]; rfl
    clear h0
    go_enter Tryz.func54, Tryz.ntmps54
    go_wp2
    go_ret
    exact ⟨by rw [HS.out]; rfl, rfl⟩
  have hb : ((l.length : Int) == 0) = false := by simpa using h0
  have HS : Hid (Pl.textP l = Pl.bs (Pl.textF l)) := by show _ = _; unfold Pl.textP; rw [if_neg h0]
  clear h0 hr
  go_enter Tryz.func54, Tryz.ntmps54
  go_wp2
  go_loop [3, 4] (fun v i => ∃ (k : Nat) (u : ByteArray), k ≤ l.length ∧ i = .int .i64 k ∧ v = .string u ∧ u.size ≤ 1024 ∧ Hid (u = Pl.bs (Pl.textF (l.take k)))) (fun _ i => l.length - (intOf i).toNat)
  case atStart => exact ⟨0, ⟨#[]⟩, Nat.zero_le _, rfl, rfl, by decide, rfl⟩
  case round =>
    obtain ⟨k, u, hk, rfl, rfl, hu, HU⟩ := hrel
    by_cases hlt : k < l.length
    · obtain ⟨b, off, rfl, hb0, hc⟩ := h.cells k hlt
      have HT : Hid (u ++ ⟨#[47]⟩ ++ (l[k]'hlt) = Pl.bs (Pl.textF (l.take (k + 1)))) := by
        show _ = _
        rw [Pl.textF_snoc l k hlt]
        exact app3 u _ _ [47] HU.out
      have hz : (u ++ ⟨#[47]⟩ ++ (l[k]'hlt) : ByteArray).size ≤ 1024 := by
        rw [HT.out, Pl.bs_size, Pl.textF_length]
        have := Pl.sumP_take_le l (k + 1)
        omega
      have hz2 : u.size + 1 + (l[k]'hlt).size ≤ 1024 := by
        rw [ByteArray.size_append, ByteArray.size_append] at hz
        exact hz
      generalize l[k]'hlt = x at *
      have a1 : u.size + (⟨#[47]⟩ : ByteArray).size ≤ 9223372036854775807 := by show u.size + 1 ≤ _; omega
      have a2 : (u ++ ⟨#[47]⟩ : ByteArray).size + x.size ≤ 9223372036854775807 := by rw [ByteArray.size_append]; show u.size + 1 + x.size ≤ _; omega
      have HZ : Hid ((u ++ ⟨#[47]⟩ ++ x : ByteArray).size ≤ 1024) := hz
      clear hz
      go_wp2
      go_round
      case rel => exact ⟨k + 1, _, by omega, by go_num, rfl, HZ.out, HT⟩
      case measure => simp [intOf]; omega
    · have HE : Hid (u = Pl.bs (Pl.textF l)) := by have := HU.out; rwa [List.take_of_length_le (by omega)] at this
      go_wp2
      go_ret
      exact ⟨ret_str (by rw [HS.out, ← HE.out]), rfl⟩

end Go.Proofs.YtcloljkaojnipaaGreatDoor
namespace Go.Proofs.YtcloljkaojnipaaGreatDoor
open Go.RowKit

theorem line_app (u qq : ByteArray) (word : List UInt8) : (u ++ ⟨(word ++ [32]).toArray⟩ ++ qq ++ ⟨#[10]⟩ : ByteArray).data.toList = u.data.toList ++ Pl.lineB word qq.data.toList := by
  simp [ByteArray.data_append, Pl.lineB]

set_option maxRecDepth 100000 in
set_option maxHeartbeats 1000000 in
theorem rprint_yes (ar aw : Option Addr) (cr cw : Nat) (R W : List (List ByteArray)) (f m o e : Int) (w : World) (hr : Pts w ar cr R) (hw : Pts w aw cw W) (hc : Pl.polC R W f m o e = 0) :
    Calls Tryz.prog 26 #[.agg #[.slice ar R.length cr, .slice aw W.length cw, .int .i64 f, .int .i64 m, .int .i64 o, .int .i64 e]] w fun x w' => ∃ s, x = .returned (.tuple #[.string s, .int .i64 0]) ∧ Hid (Pl.PrintIs R W f m o e s ∧ Below w.heap.size w w') := by
  obtain ⟨wa, hwa⟩ : ∃ wa, wa = w.alloc (.cells #[.slice ar R.length cr, .slice aw W.length cw, .int .i64 f, .int .i64 m, .int .i64 o, .int .i64 e] 24) := ⟨_, rfl⟩
  have hB : Below w.heap.size w wa := by rw [hwa]; exact (Below.refl _ _).alloc (Nat.le_refl _) _
  have hx : wa.heap[w.heap.size]? = some (polO (.slice ar R.length cr) (.slice aw W.length cw) f m o e) := by rw [hwa]; exact heap_alloc_new _ _
  have HW : Hid (wa = w.alloc (.cells #[.slice ar R.length cr, .slice aw W.length cw, .int .i64 f, .int .i64 m, .int .i64 o, .int .i64 e] 24)) := hwa
  have H1 := rpnormal_yes ar aw cr cw R W f m o e wa (hr.below hB) (hw.below hB) hc
  have hlr := hr.len
  have hlw := hw.len
  have hga : w.heap.size < wa.heap.size := lt_of_block hx
  have HB : Hid (Below w.heap.size w wa ∧ wa.heap[w.heap.size]? = some (polO (.slice ar R.length cr) (.slice aw W.length cw) f m o e)) := ⟨hB, hx⟩
  obtain ⟨lR, lW⟩ := Pl.polC_len hc
  obtain ⟨ra, rb, ok1, ok2, ok3, ok4⟩ := Pl.polC_ok.1 hc
  have HC : Hid (Pl.polC R W f m o e = 0) := hc
  have HRA : Hid (Pl.rightsP R = true ∧ Pl.rightsP W = true) := ⟨ra, rb⟩
  unfold Pl.okN at ok1 ok2 ok3 ok4
  obtain ⟨fn, rfl⟩ := Int.eq_ofNat_of_zero_le ok1.1
  obtain ⟨mn, rfl⟩ := Int.eq_ofNat_of_zero_le ok2.1
  obtain ⟨on, rfl⟩ := Int.eq_ofNat_of_zero_le ok3.1
  obtain ⟨en, rfl⟩ := Int.eq_ofNat_of_zero_le ok4.1
  clear hwa hB hx hr hw hc ra rb
  go_enter Tryz.func26, Tryz.ntmps26
  go_wp2_with fail
  rw [← HW.out]
  refine H1.mono ?_
  rintro x w1 ⟨b1, cR, cW, aR, aW, nR, nW, v1, v2, v3, v4, rfl, v5, v6⟩
  have hx1 := (b1.block _ hga).trans HB.out.2
  obtain ⟨y0, y1⟩ := put6_at hx1 (.slice aR cR.length nR) (.slice aW cW.length nW) (.int .i64 (fn : Int)) (.int .i64 (mn : Int)) (.int .i64 (on : Int)) (.int .i64 (en : Int))
  obtain ⟨wb, hwb⟩ : ∃ wb, wb = put6 w1 w.heap.size (.slice aR cR.length nR) (.slice aW cW.length nW) (.int .i64 (fn : Int)) (.int .i64 (mn : Int)) (.int .i64 (on : Int)) (.int .i64 (en : Int)) := ⟨_, rfl⟩
  rw [← hwb] at y0 y1
  have h0 : ∀ s, (Value.slice ar R.length cr) ≠ .string s ∧ (Value.slice aw W.length cw) ≠ .string s := fun s => ⟨by simp, by simp⟩
  have pR := v5.keep hx1 h0 y1 hga
  have pW := v6.keep hx1 h0 y1 hga
  obtain ⟨aR', nR', ea, hR⟩ := pR.pts (by omega)
  injection ea with ea _ ea'
  subst ea ea'
  obtain ⟨aW', nW', eb, hW⟩ := pW.pts (by omega)
  injection eb with eb _ eb'
  subst eb eb'
  have hBb : Below w.heap.size w wb := (HB.out.1.trans (b1.mono HB.out.1.size)).trans (y1.below (Nat.le_trans HB.out.1.size b1.size) (fun k e => by omega))
  have HWb : Hid (wb = put6 w1 w.heap.size (.slice aR cR.length nR) (.slice aW cW.length nW) (.int .i64 (fn : Int)) (.int .i64 (mn : Int)) (.int .i64 (on : Int)) (.int .i64 (en : Int))) := hwb
  have HAcR : Hid (∀ q ∈ cR, Pl.rightP q = true) := List.all_eq_true.1 (Pl.cov_right v1 (by have := HRA.out.1; unfold Pl.rightsP at this; simp only [Bool.and_eq_true] at this; exact this.2))
  have HAcW : Hid (∀ q ∈ cW, Pl.rightP q = true) := List.all_eq_true.1 (Pl.cov_right v2 (by have := HRA.out.2; unfold Pl.rightsP at this; simp only [Bool.and_eq_true] at this; exact this.2))
  have HP : Hid (Pts wb aR nR cR ∧ Pts wb aW nW cW) := ⟨hR, hW⟩
  have HV : Hid (Pl.Cov R cR ∧ Pl.Cov W cW ∧ Below w.heap.size w wb ∧ wb.heap[w.heap.size]? = some (polO (.slice aR cR.length nR) (.slice aW cW.length nW) (fn : Int) (mn : Int) (on : Int) (en : Int))) := ⟨v1, v2, hBb, y0⟩
  obtain ⟨⟨u0, u1, u2, u3, u4, u5⟩, _⟩ := cells_pol HV.out.2.2.2
  have hlcR : cR.length ≤ 1024 := by omega
  have hlcW : cW.length ≤ 1024 := by omega
  obtain ⟨⟨t0, t1, t2, t3, t4, t5⟩, tf⟩ := cells_pol hx1
  have hgb : w.heap.size < wb.heap.size := lt_of_block HV.out.2.2.2
  clear H1 HW HB b1 v1 v2 v3 v4 v5 v6 hx1 y0 y1 hwb h0 pR pW hR hW hBb
  unfold put6 at HWb
  go_upto_region 2 with fail
  rw [← HWb.out]
  clear HWb t0 t1 t2 t3 t4 t5 tf
  go_wp2_with fail
  go_loopw [5, 21] (fun v i wr => ∃ (k : Nat) (u : ByteArray), k ≤ cR.length ∧ i = .int .i64 k ∧ v = .string u ∧ u.size ≤ k * 4200 ∧ Hid (u.data.toList = Pl.pathsB readL (cR.take k)) ∧ Below wb.heap.size wb wr) (fun _ i _ => cR.length - (intOf i).toNat)
  case atStart => exact ⟨0, ⟨#[]⟩, Nat.zero_le _, rfl, rfl, by decide, rfl, Below.refl _ _⟩
  case round =>
    obtain ⟨k, u, hk, rfl, rfl, hu, HU, hnx⟩ := hrel
    have hsz := hnx.size
    by_cases hlt : k < cR.length
    · obtain ⟨bb, off, x, c, rfl, hbb, hc, hs⟩ := (HP.out.1.below hnx).cells k hlt
      have i1 : (k : Int) < (cR.length : Int) := by omega
      have hrp : Pl.rightP (cR[k]'hlt) = true := HAcR.out _ (List.getElem_mem hlt)
      have HT : Hid (Pl.pathsB readL (cR.take (k + 1)) = Pl.pathsB readL (cR.take k) ++ Pl.lineB readL (Ln.quoP (Pl.printP (cR[k]'hlt)).1).data.toList) := Pl.pathsB_snoc _ _ k hlt
      rw [Pl.print_right hrp] at HT
      have hxl := hs.len
      have CT := rtext_any _ _ _ wr hs hrp
      have hts : (Pl.textP (cR[k]'hlt)).size ≤ 1024 := by rw [Pl.text_size]; exact Pl.right_size hrp
      generalize cR[k]'hlt = p at *
      have CQ := rquote_any (Pl.textP p) wr (by omega)
      have hqs := Pl.quoP_size (Pl.textP p)
      simp only at HT
      generalize Pl.textP p = tp at *
      generalize Ln.quoP tp = qq at *
      have HN : Hid ((u ++ ⟨#[114, 101, 97, 100, 32]⟩ ++ qq ++ ⟨#[10]⟩ : ByteArray).data.toList = Pl.pathsB readL (cR.take (k + 1))) := by
        show _ = _
        rw [HT.out]; exact (line_app u qq readL).trans (by rw [HU.out])
      have hz1 : (u ++ ⟨#[114, 101, 97, 100, 32]⟩ : ByteArray).size = u.size + 5 := ByteArray.size_append ..
      have hz2 : (u ++ ⟨#[114, 101, 97, 100, 32]⟩ ++ qq : ByteArray).size = u.size + 5 + qq.size := by rw [ByteArray.size_append, hz1]
      have hz3 : (u ++ ⟨#[114, 101, 97, 100, 32]⟩ ++ qq ++ ⟨#[10]⟩ : ByteArray).size = u.size + 5 + qq.size + 1 := by rw [ByteArray.size_append, hz2]; rfl
      have a1 : u.size + (⟨#[114, 101, 97, 100, 32]⟩ : ByteArray).size ≤ 9223372036854775807 := by show u.size + 5 ≤ _; omega
      have a2 : (u ++ ⟨#[114, 101, 97, 100, 32]⟩ : ByteArray).size + qq.size ≤ 9223372036854775807 := by rw [hz1]; omega
      have a3 : (u ++ ⟨#[114, 101, 97, 100, 32]⟩ ++ qq : ByteArray).size + (⟨#[10]⟩ : ByteArray).size ≤ 9223372036854775807 := by rw [hz2]; show _ + 1 ≤ _; omega
      have HZ : Hid ((u ++ ⟨#[114, 101, 97, 100, 32]⟩ ++ qq ++ ⟨#[10]⟩ : ByteArray).size ≤ (k + 1) * 4200) := by show _ ≤ _; rw [hz3]; omega
      clear hz1 hz2 hz3 HT HU
      go_wp2_with fail
      refine CT.mono ?_
      rintro e w2 ⟨rfl, rfl⟩
      go_wp2_with fail
      refine CQ.mono ?_
      rintro e w3 ⟨rfl, b3⟩
      have hB3 := hnx.trans (b3.mono hsz)
      clear b3 CT CQ
      go_wp2_with fail
      go_roundw
      case rel => exact ⟨k + 1, _, by omega, by go_num, rfl, HZ.out, HN, hB3⟩
      case measure => simp [intOf]; omega
    · have hk2 : k = cR.length := by omega
      have HE : Hid (u.data.toList = Pl.pathsB readL cR) := by have := HU.out; rwa [List.take_of_length_le (by omega)] at this
      have i1 : ¬ (k : Int) < (cR.length : Int) := by omega
      clear HU
      have c1 : wr.cell? ⟨w.heap.size, 1, none⟩ = some (.slice aW cW.length nW) := (hnx.cell (p := ⟨w.heap.size, 1, none⟩) hgb).trans u1
      have hu2 : u.size ≤ 9000000 := by omega
      go_wp2_with fail
      clear c1
      rename World => wr0
      go_loopw [5, 36] (fun v i wr => ∃ (k : Nat) (u : ByteArray), k ≤ cW.length ∧ i = .int .i64 k ∧ v = .string u ∧ u.size ≤ 9000000 + k * 4200 ∧ Hid (u.data.toList = Pl.pathsB readL cR ++ Pl.pathsB writeL (cW.take k)) ∧ Below wb.heap.size wb wr) (fun _ i _ => cW.length - (intOf i).toNat)
      case atStart => exact ⟨0, u, Nat.zero_le _, rfl, rfl, by omega, by show _ = _; rw [HE.out]; simp [Pl.pathsB], hnx⟩
      case round =>
        obtain ⟨k, u, hk, rfl, rfl, hu, HU, hnx⟩ := hrel
        have hsz := hnx.size
        by_cases hlt : k < cW.length
        · obtain ⟨bb, off, x, c, rfl, hbb, hc, hs⟩ := (HP.out.2.below hnx).cells k hlt
          have i1 : (k : Int) < (cW.length : Int) := by omega
          have hrp : Pl.rightP (cW[k]'hlt) = true := HAcW.out _ (List.getElem_mem hlt)
          have HT : Hid (Pl.pathsB writeL (cW.take (k + 1)) = Pl.pathsB writeL (cW.take k) ++ Pl.lineB writeL (Ln.quoP (Pl.printP (cW[k]'hlt)).1).data.toList) := Pl.pathsB_snoc _ _ k hlt
          rw [Pl.print_right hrp] at HT
          have hxl := hs.len
          have CT := rtext_any _ _ _ wr hs hrp
          have hts : (Pl.textP (cW[k]'hlt)).size ≤ 1024 := by rw [Pl.text_size]; exact Pl.right_size hrp
          generalize cW[k]'hlt = p at *
          have CQ := rquote_any (Pl.textP p) wr (by omega)
          have hqs := Pl.quoP_size (Pl.textP p)
          simp only at HT
          generalize Pl.textP p = tp at *
          generalize Ln.quoP tp = qq at *
          have HN : Hid ((u ++ ⟨#[119, 114, 105, 116, 101, 32]⟩ ++ qq ++ ⟨#[10]⟩ : ByteArray).data.toList = Pl.pathsB readL cR ++ Pl.pathsB writeL (cW.take (k + 1))) := by
            show _ = _
            rw [HT.out]; exact (line_app u qq writeL).trans (by rw [HU.out]; simp)
          have hz1 : (u ++ ⟨#[119, 114, 105, 116, 101, 32]⟩ : ByteArray).size = u.size + 6 := ByteArray.size_append ..
          have hz2 : (u ++ ⟨#[119, 114, 105, 116, 101, 32]⟩ ++ qq : ByteArray).size = u.size + 6 + qq.size := by rw [ByteArray.size_append, hz1]
          have hz3 : (u ++ ⟨#[119, 114, 105, 116, 101, 32]⟩ ++ qq ++ ⟨#[10]⟩ : ByteArray).size = u.size + 6 + qq.size + 1 := by rw [ByteArray.size_append, hz2]; rfl
          have a1 : u.size + (⟨#[119, 114, 105, 116, 101, 32]⟩ : ByteArray).size ≤ 9223372036854775807 := by show u.size + 6 ≤ _; omega
          have a2 : (u ++ ⟨#[119, 114, 105, 116, 101, 32]⟩ : ByteArray).size + qq.size ≤ 9223372036854775807 := by rw [hz1]; omega
          have a3 : (u ++ ⟨#[119, 114, 105, 116, 101, 32]⟩ ++ qq : ByteArray).size + (⟨#[10]⟩ : ByteArray).size ≤ 9223372036854775807 := by rw [hz2]; show _ + 1 ≤ _; omega
          have HZ : Hid ((u ++ ⟨#[119, 114, 105, 116, 101, 32]⟩ ++ qq ++ ⟨#[10]⟩ : ByteArray).size ≤ 9000000 + (k + 1) * 4200) := by show _ ≤ _; rw [hz3]; omega
          clear hz1 hz2 hz3 HT HU
          go_wp2_with fail
          refine CT.mono ?_
          rintro e w2 ⟨rfl, rfl⟩
          go_wp2_with fail
          refine CQ.mono ?_
          rintro e w3 ⟨rfl, b3⟩
          have hB3 := hnx.trans (b3.mono hsz)
          clear b3 CT CQ
          go_wp2_with fail
          go_roundw
          case rel => exact ⟨k + 1, _, by omega, by go_num, rfl, HZ.out, HN, hB3⟩
          case measure => simp [intOf]; omega
        · have hk2 : k = cW.length := by omega
          have HE : Hid (u.data.toList = Pl.pathsB readL cR ++ Pl.pathsB writeL cW) := by have := HU.out; rwa [List.take_of_length_le (by omega)] at this
          have i1 : ¬ (k : Int) < (cW.length : Int) := by omega
          clear HU
          have c2 : wr.cell? ⟨w.heap.size, 2, none⟩ = some (.int .i64 (fn : Int)) := (hnx.cell (p := ⟨w.heap.size, 2, none⟩) hgb).trans u2
          have hu3 : u.size ≤ 13400000 := by omega
          obtain ⟨D0, hD0⟩ : ∃ D, D = Ln.bs (Lib.decDigits fn) := ⟨_, rfl⟩
          have s0 : D0.size ≤ 12 := by rw [hD0, Ln.bs_size]; exact Pl.dec_len fn (by omega)
          obtain ⟨D1, hD1⟩ : ∃ D, D = Ln.bs (Lib.decDigits mn) := ⟨_, rfl⟩
          have s1 : D1.size ≤ 12 := by rw [hD1, Ln.bs_size]; exact Pl.dec_len mn (by omega)
          obtain ⟨D2, hD2⟩ : ∃ D, D = Ln.bs (Lib.decDigits on) := ⟨_, rfl⟩
          have s2 : D2.size ≤ 12 := by rw [hD2, Ln.bs_size]; exact Pl.dec_len on (by omega)
          obtain ⟨D3, hD3⟩ : ∃ D, D = Ln.bs (Lib.decDigits en) := ⟨_, rfl⟩
          have s3 : D3.size ≤ 12 := by rw [hD3, Ln.bs_size]; exact Pl.dec_len en (by omega)
          have l0 : (⟨#[102, 117, 101, 108, 32]⟩ : ByteArray).size = 5 := rfl
          have l1 : (⟨#[10, 109, 101, 109, 111, 114, 121, 32]⟩ : ByteArray).size = 8 := rfl
          have l2 : (⟨#[10, 111, 117, 116, 112, 117, 116, 32]⟩ : ByteArray).size = 8 := rfl
          have l3 : (⟨#[10, 101, 97, 99, 104, 32]⟩ : ByteArray).size = 6 := rfl
          have l4 : (⟨#[10]⟩ : ByteArray).size = 1 := rfl
          have a0 : (u : ByteArray).size + (⟨#[102, 117, 101, 108, 32]⟩ : ByteArray).size ≤ 9223372036854775807 := by simp only [l0]; omega
          have a1 : (u ++ ⟨#[102, 117, 101, 108, 32]⟩ : ByteArray).size + D0.size ≤ 9223372036854775807 := by simp only [ByteArray.size_append, l0]; omega
          have a2 : (u ++ ⟨#[102, 117, 101, 108, 32]⟩ ++ D0 : ByteArray).size + (⟨#[10, 109, 101, 109, 111, 114, 121, 32]⟩ : ByteArray).size ≤ 9223372036854775807 := by simp only [ByteArray.size_append, l0, l1]; omega
          have a3 : (u ++ ⟨#[102, 117, 101, 108, 32]⟩ ++ D0 ++ ⟨#[10, 109, 101, 109, 111, 114, 121, 32]⟩ : ByteArray).size + D1.size ≤ 9223372036854775807 := by simp only [ByteArray.size_append, l0, l1]; omega
          have a4 : (u ++ ⟨#[102, 117, 101, 108, 32]⟩ ++ D0 ++ ⟨#[10, 109, 101, 109, 111, 114, 121, 32]⟩ ++ D1 : ByteArray).size + (⟨#[10, 111, 117, 116, 112, 117, 116, 32]⟩ : ByteArray).size ≤ 9223372036854775807 := by simp only [ByteArray.size_append, l0, l1, l2]; omega
          have a5 : (u ++ ⟨#[102, 117, 101, 108, 32]⟩ ++ D0 ++ ⟨#[10, 109, 101, 109, 111, 114, 121, 32]⟩ ++ D1 ++ ⟨#[10, 111, 117, 116, 112, 117, 116, 32]⟩ : ByteArray).size + D2.size ≤ 9223372036854775807 := by simp only [ByteArray.size_append, l0, l1, l2]; omega
          have a6 : (u ++ ⟨#[102, 117, 101, 108, 32]⟩ ++ D0 ++ ⟨#[10, 109, 101, 109, 111, 114, 121, 32]⟩ ++ D1 ++ ⟨#[10, 111, 117, 116, 112, 117, 116, 32]⟩ ++ D2 : ByteArray).size + (⟨#[10, 101, 97, 99, 104, 32]⟩ : ByteArray).size ≤ 9223372036854775807 := by simp only [ByteArray.size_append, l0, l1, l2, l3]; omega
          have a7 : (u ++ ⟨#[102, 117, 101, 108, 32]⟩ ++ D0 ++ ⟨#[10, 109, 101, 109, 111, 114, 121, 32]⟩ ++ D1 ++ ⟨#[10, 111, 117, 116, 112, 117, 116, 32]⟩ ++ D2 ++ ⟨#[10, 101, 97, 99, 104, 32]⟩ : ByteArray).size + D3.size ≤ 9223372036854775807 := by simp only [ByteArray.size_append, l0, l1, l2, l3]; omega
          have a8 : (u ++ ⟨#[102, 117, 101, 108, 32]⟩ ++ D0 ++ ⟨#[10, 109, 101, 109, 111, 114, 121, 32]⟩ ++ D1 ++ ⟨#[10, 111, 117, 116, 112, 117, 116, 32]⟩ ++ D2 ++ ⟨#[10, 101, 97, 99, 104, 32]⟩ ++ D3 : ByteArray).size + (⟨#[10]⟩ : ByteArray).size ≤ 9223372036854775807 := by simp only [ByteArray.size_append, l0, l1, l2, l3, l4]; omega
          have n0 : u.size + 5 ≤ 9223372036854775807 := by omega
          have n1 : u.size + 5 + D0.size ≤ 9223372036854775807 := by omega
          have n2 : u.size + 5 + D0.size + 8 ≤ 9223372036854775807 := by omega
          have n3 : u.size + 5 + D0.size + 8 + D1.size ≤ 9223372036854775807 := by omega
          have n4 : u.size + 5 + D0.size + 8 + D1.size + 8 ≤ 9223372036854775807 := by omega
          have n5 : u.size + 5 + D0.size + 8 + D1.size + 8 + D2.size ≤ 9223372036854775807 := by omega
          have n6 : u.size + 5 + D0.size + 8 + D1.size + 8 + D2.size + 6 ≤ 9223372036854775807 := by omega
          have n7 : u.size + 5 + D0.size + 8 + D1.size + 8 + D2.size + 6 + D3.size ≤ 9223372036854775807 := by omega
          have n8 : u.size + 5 + D0.size + 8 + D1.size + 8 + D2.size + 6 + D3.size + 1 ≤ 9223372036854775807 := by omega
          have HT : Hid ((u ++ ⟨#[102, 117, 101, 108, 32]⟩ ++ D0 ++ ⟨#[10, 109, 101, 109, 111, 114, 121, 32]⟩ ++ D1 ++ ⟨#[10, 111, 117, 116, 112, 117, 116, 32]⟩ ++ D2 ++ ⟨#[10, 101, 97, 99, 104, 32]⟩ ++ D3 ++ ⟨#[10]⟩ : ByteArray) = Ln.bs (Pl.polB cR cW (Pl.q4 fn mn on en))) := by
            apply Ln.data_inj
            rw [Ln.data_bs, hD0, hD1, hD2, hD3]
            unfold Pl.polB
            simp [ByteArray.data_append, Ln.bs, HE.out, Pl.numK, Pl.lineB, Pl.wordL, Pl.q4]
          have G0 : Hid (∀ V, Below wr.heap.size wr V → Calls Tryz.prog 55 #[.int .i64 (fn : Int)] V fun e w' => e = .returned (.string D0) ∧ Below wr.heap.size wr w') := fun V hV => by rw [hD0]; exact (rdigits_any fn V (by omega)).mono fun e w' hh => ⟨hh.1, hV.trans (hh.2.mono hV.size)⟩
          have G1 : Hid (∀ V, Below wr.heap.size wr V → Calls Tryz.prog 55 #[.int .i64 (mn : Int)] V fun e w' => e = .returned (.string D1) ∧ Below wr.heap.size wr w') := fun V hV => by rw [hD1]; exact (rdigits_any mn V (by omega)).mono fun e w' hh => ⟨hh.1, hV.trans (hh.2.mono hV.size)⟩
          have G2 : Hid (∀ V, Below wr.heap.size wr V → Calls Tryz.prog 55 #[.int .i64 (on : Int)] V fun e w' => e = .returned (.string D2) ∧ Below wr.heap.size wr w') := fun V hV => by rw [hD2]; exact (rdigits_any on V (by omega)).mono fun e w' hh => ⟨hh.1, hV.trans (hh.2.mono hV.size)⟩
          have G3 : Hid (∀ V, Below wr.heap.size wr V → Calls Tryz.prog 55 #[.int .i64 (en : Int)] V fun e w' => e = .returned (.string D3) ∧ Below wr.heap.size wr w') := fun V hV => by rw [hD3]; exact (rdigits_any en V (by omega)).mono fun e w' hh => ⟨hh.1, hV.trans (hh.2.mono hV.size)⟩
          have HS : Hid (∀ V, Below wr.heap.size wr V → Below wr.heap.size wr V ∧ V.cell? ⟨w.heap.size, 2, none⟩ = some (.int .i64 (fn : Int)) ∧ V.cell? ⟨w.heap.size, 3, none⟩ = some (.int .i64 (mn : Int)) ∧ V.cell? ⟨w.heap.size, 4, none⟩ = some (.int .i64 (on : Int)) ∧ V.cell? ⟨w.heap.size, 5, none⟩ = some (.int .i64 (en : Int))) := fun V hV => ⟨hV, ((hnx.trans (hV.mono hnx.size)).cell (p := ⟨w.heap.size, 2, none⟩) hgb).trans u2, ((hnx.trans (hV.mono hnx.size)).cell (p := ⟨w.heap.size, 3, none⟩) hgb).trans u3, ((hnx.trans (hV.mono hnx.size)).cell (p := ⟨w.heap.size, 4, none⟩) hgb).trans u4, ((hnx.trans (hV.mono hnx.size)).cell (p := ⟨w.heap.size, 5, none⟩) hgb).trans u5⟩
          clear hD0 hD1 hD2 hD3 s0 s1 s2 s3 l0 l1 l2 l3 l4 HE
          have HNx : Hid (Below wb.heap.size wb wr) := hnx
          have b0 : Below wr.heap.size wr wr.drew := (Below.refl _ wr).drew
          have s0 := HS.out wr.drew b0
          clear hnx c2
          go_upto_region 15 with fail
          refine wp_region_noPanic ?_
          refine wp_region_held_drew (S := fun w' => Below wr.heap.size wr w' ∧ w'.cell? ⟨w.heap.size, 2, none⟩ = some (.int .i64 (fn : Int)) ∧ w'.cell? ⟨w.heap.size, 3, none⟩ = some (.int .i64 (mn : Int)) ∧ w'.cell? ⟨w.heap.size, 4, none⟩ = some (.int .i64 (on : Int)) ∧ w'.cell? ⟨w.heap.size, 5, none⟩ = some (.int .i64 (en : Int))) (by kernel_rfl) s0 (fun hHeld => ?_)
          refine wpAnyH_take (i := 0) (oi := { dst := some 48, op := Op.move (Operand.tmp 5), type := 9, pos := "ref.go:247", after := #[], guard := none }) (v := .string u) rfl (by kernel_rfl) (by kernel_rfl) (by kernel_rfl) (fun _ _ _ h => h) (Or.inl ⟨by rfl, ?_⟩) (by assumption) ?_
          · intro wq hSw
            go_simp
          try simp only [Act.put, List.setIfInBounds_toArray, List.set_cons_zero, List.set_cons_succ]
          refine wpAnyH_take (i := 1) (oi := { dst := some 49, op := Op.binOp BinOp.add 9 (Operand.tmp 48) (Operand.const (Value.string { data := #[102, 117, 101, 108, 32] })) 9, type := 9, pos := "ref.go:247", after := #[{ on := 0, ground := Ground.data }], guard := none }) (v := .string (u ++ ⟨#[102, 117, 101, 108, 32]⟩)) rfl (by kernel_rfl) (by kernel_rfl) (by kernel_rfl) (fun _ _ _ h => h) (Or.inl ⟨by rfl, ?_⟩) (by assumption) ?_
          · intro wq hSw
            go_simp
          try simp only [Act.put, List.setIfInBounds_toArray, List.set_cons_zero, List.set_cons_succ]
          refine wpAnyH_take (i := 2) (oi := { dst := some 50, op := Op.fieldAddr 24 (Operand.tmp 1) 2, type := 0, pos := "ref.go:247", after := #[], guard := none }) (v := .pointer (some ⟨w.heap.size, 2, none⟩)) rfl (by kernel_rfl) (by kernel_rfl) (by kernel_rfl) (fun _ _ _ h => h) (Or.inl ⟨by rfl, ?_⟩) (by assumption) ?_
          · intro wq hSw
            go_simp
          try simp only [Act.put, List.setIfInBounds_toArray, List.set_cons_zero, List.set_cons_succ]
          refine wpAnyH_take (i := 3) (oi := { dst := some 51, op := Op.load 3 (Operand.tmp 50), type := 3, pos := "ref.go:247", after := #[{ on := 2, ground := Ground.data }], guard := none }) (v := .int .i64 (fn : Int)) rfl (by kernel_rfl) (by kernel_rfl) (by kernel_rfl) (fun _ _ _ h => h) (Or.inl ⟨by rfl, ?_⟩) (by assumption) ?_
          · intro wq hSw
            go_simp
          try simp only [Act.put, List.setIfInBounds_toArray, List.set_cons_zero, List.set_cons_succ]
          refine wpAnyH_take (i := 7) (oi := { dst := some 55, op := Op.fieldAddr 24 (Operand.tmp 1) 3, type := 0, pos := "ref.go:247", after := #[], guard := none }) (v := .pointer (some ⟨w.heap.size, 3, none⟩)) rfl (by kernel_rfl) (by kernel_rfl) (by kernel_rfl) (fun _ _ _ h => h) (Or.inl ⟨by rfl, ?_⟩) (by assumption) ?_
          · intro wq hSw
            go_simp
          try simp only [Act.put, List.setIfInBounds_toArray, List.set_cons_zero, List.set_cons_succ]
          refine wpAnyH_take (i := 8) (oi := { dst := some 56, op := Op.load 3 (Operand.tmp 55), type := 3, pos := "ref.go:247", after := #[{ on := 7, ground := Ground.data }], guard := none }) (v := .int .i64 (mn : Int)) rfl (by kernel_rfl) (by kernel_rfl) (by kernel_rfl) (fun _ _ _ h => h) (Or.inl ⟨by rfl, ?_⟩) (by assumption) ?_
          · intro wq hSw
            go_simp
          try simp only [Act.put, List.setIfInBounds_toArray, List.set_cons_zero, List.set_cons_succ]
          refine wpAnyH_take (i := 12) (oi := { dst := some 60, op := Op.fieldAddr 24 (Operand.tmp 1) 4, type := 0, pos := "ref.go:247", after := #[], guard := none }) (v := .pointer (some ⟨w.heap.size, 4, none⟩)) rfl (by kernel_rfl) (by kernel_rfl) (by kernel_rfl) (fun _ _ _ h => h) (Or.inl ⟨by rfl, ?_⟩) (by assumption) ?_
          · intro wq hSw
            go_simp
          try simp only [Act.put, List.setIfInBounds_toArray, List.set_cons_zero, List.set_cons_succ]
          refine wpAnyH_take (i := 13) (oi := { dst := some 61, op := Op.load 3 (Operand.tmp 60), type := 3, pos := "ref.go:247", after := #[{ on := 12, ground := Ground.data }], guard := none }) (v := .int .i64 (on : Int)) rfl (by kernel_rfl) (by kernel_rfl) (by kernel_rfl) (fun _ _ _ h => h) (Or.inl ⟨by rfl, ?_⟩) (by assumption) ?_
          · intro wq hSw
            go_simp
          try simp only [Act.put, List.setIfInBounds_toArray, List.set_cons_zero, List.set_cons_succ]
          refine wpAnyH_take (i := 17) (oi := { dst := some 65, op := Op.fieldAddr 24 (Operand.tmp 1) 5, type := 0, pos := "ref.go:247", after := #[], guard := none }) (v := .pointer (some ⟨w.heap.size, 5, none⟩)) rfl (by kernel_rfl) (by kernel_rfl) (by kernel_rfl) (fun _ _ _ h => h) (Or.inl ⟨by rfl, ?_⟩) (by assumption) ?_
          · intro wq hSw
            go_simp
          try simp only [Act.put, List.setIfInBounds_toArray, List.set_cons_zero, List.set_cons_succ]
          refine wpAnyH_take (i := 18) (oi := { dst := some 66, op := Op.load 3 (Operand.tmp 65), type := 3, pos := "ref.go:247", after := #[{ on := 17, ground := Ground.data }], guard := none }) (v := .int .i64 (en : Int)) rfl (by kernel_rfl) (by kernel_rfl) (by kernel_rfl) (fun _ _ _ h => h) (Or.inl ⟨by rfl, ?_⟩) (by assumption) ?_
          · intro wq hSw
            go_simp
          try simp only [Act.put, List.setIfInBounds_toArray, List.set_cons_zero, List.set_cons_succ]
          refine wpAnyH_ready (rs := [4]) (by kernel_rfl) (by simp) ?_
          refine AllReadyH.cons (o := { dst := some 52, op := Op.call { callee := Callee.value (Operand.func 55), args := #[Operand.tmp 51], argTypes := #[3] }, type := 9, pos := "ref.go:247", after := #[{ on := 3, ground := Ground.data }], guard := none }) rfl (fun K hK => ?_) AllReadyH.nil
          go_simp
          refine (G0.out _ b0).mono ?_
          rintro x z0 ⟨rfl, l0⟩
          go_wp2_with fail
          refine hK.out _ _ (HS.out _ l0) (fun hHeld => ?_)
          clear hK K
          try simp only [Act.put, List.setIfInBounds_toArray, List.set_cons_zero, List.set_cons_succ]
          refine wpAnyH_take (i := 5) (oi := { dst := some 53, op := Op.binOp BinOp.add 9 (Operand.tmp 49) (Operand.tmp 52) 9, type := 9, pos := "ref.go:247", after := #[{ on := 1, ground := Ground.data }, { on := 4, ground := Ground.data }], guard := none }) (v := .string (u ++ ⟨#[102, 117, 101, 108, 32]⟩ ++ D0)) rfl (by kernel_rfl) (by kernel_rfl) (by kernel_rfl) (fun _ _ _ h => h) (Or.inl ⟨by rfl, ?_⟩) (by assumption) ?_
          · intro wq hSw
            go_simp
          try simp only [Act.put, List.setIfInBounds_toArray, List.set_cons_zero, List.set_cons_succ]
          refine wpAnyH_take (i := 6) (oi := { dst := some 54, op := Op.binOp BinOp.add 9 (Operand.tmp 53) (Operand.const (Value.string { data := #[10, 109, 101, 109, 111, 114, 121, 32] })) 9, type := 9, pos := "ref.go:247", after := #[{ on := 5, ground := Ground.data }], guard := none }) (v := .string (u ++ ⟨#[102, 117, 101, 108, 32]⟩ ++ D0 ++ ⟨#[10, 109, 101, 109, 111, 114, 121, 32]⟩)) rfl (by kernel_rfl) (by kernel_rfl) (by kernel_rfl) (fun _ _ _ h => h) (Or.inl ⟨by rfl, ?_⟩) (by assumption) ?_
          · intro wq hSw
            go_simp
          try simp only [Act.put, List.setIfInBounds_toArray, List.set_cons_zero, List.set_cons_succ]
          refine wpAnyH_ready (rs := [9]) (by kernel_rfl) (by simp) ?_
          refine AllReadyH.cons (o := { dst := some 57, op := Op.call { callee := Callee.value (Operand.func 55), args := #[Operand.tmp 56], argTypes := #[3] }, type := 9, pos := "ref.go:247", after := #[{ on := 8, ground := Ground.data }, { on := 4, ground := Ground.chain }], guard := none }) rfl (fun K hK => ?_) AllReadyH.nil
          go_simp
          refine (G1.out _ l0).mono ?_
          rintro x z1 ⟨rfl, l1⟩
          go_wp2_with fail
          refine hK.out _ _ (HS.out _ l1) (fun hHeld => ?_)
          clear hK K
          try simp only [Act.put, List.setIfInBounds_toArray, List.set_cons_zero, List.set_cons_succ]
          refine wpAnyH_take (i := 10) (oi := { dst := some 58, op := Op.binOp BinOp.add 9 (Operand.tmp 54) (Operand.tmp 57) 9, type := 9, pos := "ref.go:247", after := #[{ on := 6, ground := Ground.data }, { on := 9, ground := Ground.data }], guard := none }) (v := .string (u ++ ⟨#[102, 117, 101, 108, 32]⟩ ++ D0 ++ ⟨#[10, 109, 101, 109, 111, 114, 121, 32]⟩ ++ D1)) rfl (by kernel_rfl) (by kernel_rfl) (by kernel_rfl) (fun _ _ _ h => h) (Or.inl ⟨by rfl, ?_⟩) (by assumption) ?_
          · intro wq hSw
            go_simp
          try simp only [Act.put, List.setIfInBounds_toArray, List.set_cons_zero, List.set_cons_succ]
          refine wpAnyH_take (i := 11) (oi := { dst := some 59, op := Op.binOp BinOp.add 9 (Operand.tmp 58) (Operand.const (Value.string { data := #[10, 111, 117, 116, 112, 117, 116, 32] })) 9, type := 9, pos := "ref.go:247", after := #[{ on := 10, ground := Ground.data }], guard := none }) (v := .string (u ++ ⟨#[102, 117, 101, 108, 32]⟩ ++ D0 ++ ⟨#[10, 109, 101, 109, 111, 114, 121, 32]⟩ ++ D1 ++ ⟨#[10, 111, 117, 116, 112, 117, 116, 32]⟩)) rfl (by kernel_rfl) (by kernel_rfl) (by kernel_rfl) (fun _ _ _ h => h) (Or.inl ⟨by rfl, ?_⟩) (by assumption) ?_
          · intro wq hSw
            go_simp
          try simp only [Act.put, List.setIfInBounds_toArray, List.set_cons_zero, List.set_cons_succ]
          refine wpAnyH_ready (rs := [14]) (by kernel_rfl) (by simp) ?_
          refine AllReadyH.cons (o := { dst := some 62, op := Op.call { callee := Callee.value (Operand.func 55), args := #[Operand.tmp 61], argTypes := #[3] }, type := 9, pos := "ref.go:247", after := #[{ on := 13, ground := Ground.data }, { on := 9, ground := Ground.chain }], guard := none }) rfl (fun K hK => ?_) AllReadyH.nil
          go_simp
          refine (G2.out _ l1).mono ?_
          rintro x z2 ⟨rfl, l2⟩
          go_wp2_with fail
          refine hK.out _ _ (HS.out _ l2) (fun hHeld => ?_)
          clear hK K
          try simp only [Act.put, List.setIfInBounds_toArray, List.set_cons_zero, List.set_cons_succ]
          refine wpAnyH_take (i := 15) (oi := { dst := some 63, op := Op.binOp BinOp.add 9 (Operand.tmp 59) (Operand.tmp 62) 9, type := 9, pos := "ref.go:247", after := #[{ on := 11, ground := Ground.data }, { on := 14, ground := Ground.data }], guard := none }) (v := .string (u ++ ⟨#[102, 117, 101, 108, 32]⟩ ++ D0 ++ ⟨#[10, 109, 101, 109, 111, 114, 121, 32]⟩ ++ D1 ++ ⟨#[10, 111, 117, 116, 112, 117, 116, 32]⟩ ++ D2)) rfl (by kernel_rfl) (by kernel_rfl) (by kernel_rfl) (fun _ _ _ h => h) (Or.inl ⟨by rfl, ?_⟩) (by assumption) ?_
          · intro wq hSw
            go_simp
          try simp only [Act.put, List.setIfInBounds_toArray, List.set_cons_zero, List.set_cons_succ]
          refine wpAnyH_take (i := 16) (oi := { dst := some 64, op := Op.binOp BinOp.add 9 (Operand.tmp 63) (Operand.const (Value.string { data := #[10, 101, 97, 99, 104, 32] })) 9, type := 9, pos := "ref.go:247", after := #[{ on := 15, ground := Ground.data }], guard := none }) (v := .string (u ++ ⟨#[102, 117, 101, 108, 32]⟩ ++ D0 ++ ⟨#[10, 109, 101, 109, 111, 114, 121, 32]⟩ ++ D1 ++ ⟨#[10, 111, 117, 116, 112, 117, 116, 32]⟩ ++ D2 ++ ⟨#[10, 101, 97, 99, 104, 32]⟩)) rfl (by kernel_rfl) (by kernel_rfl) (by kernel_rfl) (fun _ _ _ h => h) (Or.inl ⟨by rfl, ?_⟩) (by assumption) ?_
          · intro wq hSw
            go_simp
          try simp only [Act.put, List.setIfInBounds_toArray, List.set_cons_zero, List.set_cons_succ]
          refine wpAnyH_ready (rs := [19]) (by kernel_rfl) (by simp) ?_
          refine AllReadyH.cons (o := { dst := some 67, op := Op.call { callee := Callee.value (Operand.func 55), args := #[Operand.tmp 66], argTypes := #[3] }, type := 9, pos := "ref.go:247", after := #[{ on := 18, ground := Ground.data }, { on := 14, ground := Ground.chain }], guard := none }) rfl (fun K hK => ?_) AllReadyH.nil
          go_simp
          refine (G3.out _ l2).mono ?_
          rintro x z3 ⟨rfl, l9⟩
          go_wp2_with fail
          refine hK.out _ _ (HS.out _ l9) (fun hHeld => ?_)
          clear hK K
          try simp only [Act.put, List.setIfInBounds_toArray, List.set_cons_zero, List.set_cons_succ]
          refine wpAnyH_take (i := 20) (oi := { dst := some 68, op := Op.binOp BinOp.add 9 (Operand.tmp 64) (Operand.tmp 67) 9, type := 9, pos := "ref.go:247", after := #[{ on := 16, ground := Ground.data }, { on := 19, ground := Ground.data }], guard := none }) (v := .string (u ++ ⟨#[102, 117, 101, 108, 32]⟩ ++ D0 ++ ⟨#[10, 109, 101, 109, 111, 114, 121, 32]⟩ ++ D1 ++ ⟨#[10, 111, 117, 116, 112, 117, 116, 32]⟩ ++ D2 ++ ⟨#[10, 101, 97, 99, 104, 32]⟩ ++ D3)) rfl (by kernel_rfl) (by kernel_rfl) (by kernel_rfl) (fun _ _ _ h => h) (Or.inl ⟨by rfl, ?_⟩) (by assumption) ?_
          · intro wq hSw
            go_simp
          try simp only [Act.put, List.setIfInBounds_toArray, List.set_cons_zero, List.set_cons_succ]
          refine wpAnyH_take (i := 21) (oi := { dst := some 69, op := Op.binOp BinOp.add 9 (Operand.tmp 68) (Operand.const (Value.string { data := #[10] })) 9, type := 9, pos := "ref.go:247", after := #[{ on := 20, ground := Ground.data }], guard := none }) (v := .string (u ++ ⟨#[102, 117, 101, 108, 32]⟩ ++ D0 ++ ⟨#[10, 109, 101, 109, 111, 114, 121, 32]⟩ ++ D1 ++ ⟨#[10, 111, 117, 116, 112, 117, 116, 32]⟩ ++ D2 ++ ⟨#[10, 101, 97, 99, 104, 32]⟩ ++ D3 ++ ⟨#[10]⟩)) rfl (by kernel_rfl) (by kernel_rfl) (by kernel_rfl) (fun _ _ _ h => h) (Or.inl ⟨by rfl, ?_⟩) (by assumption) ?_
          · intro wq hSw
            go_simp
          try simp only [Act.put, List.setIfInBounds_toArray, List.set_cons_zero, List.set_cons_succ]
          refine wpAnyH_take (i := 22) (oi := { dst := some 2, op := Op.assign (Operand.tmp 69), type := 9, pos := "ref.go:247", after := #[{ on := 21, ground := Ground.data }, { on := 19, ground := Ground.chain }, { on := 0, ground := Ground.phase }, { on := 1, ground := Ground.phase }, { on := 2, ground := Ground.phase }, { on := 3, ground := Ground.phase }, { on := 4, ground := Ground.phase }, { on := 5, ground := Ground.phase }, { on := 6, ground := Ground.phase }, { on := 7, ground := Ground.phase }, { on := 8, ground := Ground.phase }, { on := 9, ground := Ground.phase }, { on := 10, ground := Ground.phase }, { on := 11, ground := Ground.phase }, { on := 12, ground := Ground.phase }, { on := 13, ground := Ground.phase }, { on := 14, ground := Ground.phase }, { on := 15, ground := Ground.phase }, { on := 16, ground := Ground.phase }, { on := 17, ground := Ground.phase }, { on := 18, ground := Ground.phase }, { on := 19, ground := Ground.phase }, { on := 20, ground := Ground.phase }, { on := 21, ground := Ground.phase }], guard := none }) (v := .string (u ++ ⟨#[102, 117, 101, 108, 32]⟩ ++ D0 ++ ⟨#[10, 109, 101, 109, 111, 114, 121, 32]⟩ ++ D1 ++ ⟨#[10, 111, 117, 116, 112, 117, 116, 32]⟩ ++ D2 ++ ⟨#[10, 101, 97, 99, 104, 32]⟩ ++ D3 ++ ⟨#[10]⟩)) rfl (by kernel_rfl) (by kernel_rfl) (by kernel_rfl) (fun _ _ _ h => h) (Or.inl ⟨by rfl, ?_⟩) (by assumption) ?_
          · intro wq hSw
            go_simp
          try simp only [Act.put, List.setIfInBounds_toArray, List.set_cons_zero, List.set_cons_succ]
          refine wpAnyH_take (i := 23) (oi := { dst := some 3, op := Op.assign (Operand.const (Value.int IntKind.i64 0)), type := 28, pos := "ref.go:247", after := #[{ on := 22, ground := Ground.chain }, { on := 0, ground := Ground.phase }, { on := 1, ground := Ground.phase }, { on := 2, ground := Ground.phase }, { on := 3, ground := Ground.phase }, { on := 4, ground := Ground.phase }, { on := 5, ground := Ground.phase }, { on := 6, ground := Ground.phase }, { on := 7, ground := Ground.phase }, { on := 8, ground := Ground.phase }, { on := 9, ground := Ground.phase }, { on := 10, ground := Ground.phase }, { on := 11, ground := Ground.phase }, { on := 12, ground := Ground.phase }, { on := 13, ground := Ground.phase }, { on := 14, ground := Ground.phase }, { on := 15, ground := Ground.phase }, { on := 16, ground := Ground.phase }, { on := 17, ground := Ground.phase }, { on := 18, ground := Ground.phase }, { on := 19, ground := Ground.phase }, { on := 20, ground := Ground.phase }, { on := 21, ground := Ground.phase }, { on := 22, ground := Ground.phase }], guard := none }) (v := .int .i64 0) rfl (by kernel_rfl) (by kernel_rfl) (by kernel_rfl) (fun _ _ _ h => h) (Or.inl ⟨by rfl, ?_⟩) (by assumption) ?_
          · intro wq hSw
            go_simp
          try simp only [Act.put, List.setIfInBounds_toArray, List.set_cons_zero, List.set_cons_succ]
          refine wpAnyH_done (by kernel_rfl) ?_ _
          refine NoPanic.normal ?_
          all_goals go_wp2_with fail
          all_goals
            go_ret2
            have bz := HNx.out.trans (l9.mono HNx.out.size)
            refine ⟨_, rfl, ⟨.inl ⟨HC.out, cR, cW, HV.out.1, HV.out.2.1, ?_⟩, HV.out.2.2.1.trans (bz.mono HV.out.2.2.1.size)⟩⟩
            exact HT.out

set_option maxRecDepth 100000 in
set_option maxHeartbeats 1000000 in
theorem rprint_no (ar aw : Option Addr) (cr cw : Nat) (R W : List (List ByteArray)) (f m o e : Int) (w : World) (hr : Pts w ar cr R) (hw : Pts w aw cw W) (hc : Pl.polC R W f m o e = 50) :
    Calls Tryz.prog 26 #[.agg #[.slice ar R.length cr, .slice aw W.length cw, .int .i64 f, .int .i64 m, .int .i64 o, .int .i64 e]] w fun x w' => x = .returned (.tuple #[.string ⟨#[]⟩, .int .i64 50]) ∧ Below w.heap.size w w' := by
  obtain ⟨wa, hwa⟩ : ∃ wa, wa = w.alloc (.cells #[.slice ar R.length cr, .slice aw W.length cw, .int .i64 f, .int .i64 m, .int .i64 o, .int .i64 e] 24) := ⟨_, rfl⟩
  have hB : Below w.heap.size w wa := by rw [hwa]; exact (Below.refl _ _).alloc (Nat.le_refl _) _
  have hx : wa.heap[w.heap.size]? = some (polO (.slice ar R.length cr) (.slice aw W.length cw) f m o e) := by rw [hwa]; exact heap_alloc_new _ _
  have HW : Hid (wa = w.alloc (.cells #[.slice ar R.length cr, .slice aw W.length cw, .int .i64 f, .int .i64 m, .int .i64 o, .int .i64 e] 24)) := hwa
  have H1 := rpnormal_no ar aw cr cw R W f m o e wa (hr.below hB) (hw.below hB) hc
  have hlr := hr.len
  have hlw := hw.len
  have HB : Hid (Below w.heap.size w wa ∧ wa.heap[w.heap.size]? = some (polO (.slice ar R.length cr) (.slice aw W.length cw) f m o e)) := ⟨hB, hx⟩
  clear hwa hB hx hr hw hc
  go_enter Tryz.func26, Tryz.ntmps26
  go_wp2_with fail
  rw [← HW.out]
  refine H1.mono ?_
  rintro x w1 ⟨rfl, b1⟩
  have hx1 := (b1.block _ (lt_of_block HB.out.2)).trans HB.out.2
  obtain ⟨⟨t0, t1, t2, t3, t4, t5⟩, tf⟩ := cells_pol hx1
  have HX : Hid (w1.heap[w.heap.size]? = some (polO (.slice ar R.length cr) (.slice aw W.length cw) f m o e)) := hx1
  have HB1 : Hid (Below w.heap.size w w1) := HB.out.1.trans (b1.mono HB.out.1.size)
  clear b1 hx1 HB H1 HW
  go_wp2_with fail
  obtain ⟨_, y1⟩ := put6_at HX.out (.slice none 0 0) (.slice none 0 0) (.int .i64 0) (.int .i64 0) (.int .i64 0) (.int .i64 0)
  go_ret2
  exact ⟨rfl, HB1.out.trans (y1.below HB1.out.size (fun k e => by omega))⟩
theorem rprint_g (ar aw : Option Addr) (cr cw : Nat) (R W : List (List ByteArray)) (f m o e : Int) (w : World) (hr : Pts w ar cr R) (hw : Pts w aw cw W) : Calls Tryz.prog 26 #[.agg #[.slice ar R.length cr, .slice aw W.length cw, .int .i64 f, .int .i64 m, .int .i64 o, .int .i64 e]] w fun x w' => ∃ s, x = .returned (.tuple #[.string s, .int .i64 (Pl.polC R W f m o e : Nat)]) ∧ Hid (Pl.PrintIs R W f m o e s ∧ Below w.heap.size w w') := by
  rcases Pl.polC_two R W f m o e with hc | hc
  · refine (rprint_yes ar aw cr cw R W f m o e w hr hw hc).mono ?_
    rintro x w' ⟨s, rfl, h⟩
    exact ⟨s, by rw [hc]; rfl, h⟩
  · refine (rprint_no ar aw cr cw R W f m o e w hr hw hc).mono ?_
    rintro x w' ⟨rfl, hb⟩
    exact ⟨_, by rw [hc]; rfl, ⟨.inr ⟨hc, rfl⟩, hb⟩⟩
end Go.Proofs.YtcloljkaojnipaaGreatDoor
namespace Go.Proofs.YtcloljkaojnipaaGreatDoor
open Go.RowKit

namespace Pl
def cntV (l : List UInt8) : Int := if valN l ≤ 4294967296 then (valN l : Int) else -1
def digA (l : List UInt8) : Bool := l.all digB
def cntR (l : List UInt8) : Int := if l.all digB = true then cntV l else 0
theorem val_snoc (s : ByteArray) (k : Nat) (h : k < s.size) : valN (s.data.toList.take (k + 1)) = valN (s.data.toList.take k) * 10 + (s[k].toNat - 48) := by
  rw [take_snoc s k h]
  unfold valN
  rw [valF_app]
  rfl
end Pl

set_option maxRecDepth 100000 in
set_option maxHeartbeats 1000000 in
theorem rcount_go (s : ByteArray) (w : World) (hs : s.size ≤ 16777216) (h0 : 0 < s.size) (hz : ¬ (1 < s.size ∧ s[0].toNat = 48)) :
    Calls Tryz.prog 78 #[.string s] w fun e w' => e = .returned (.tuple #[.int .i64 (Pl.cntR s.data.toList), .bool (Pl.digA s.data.toList)]) ∧ w = w' := by
  have g0 : ¬ (s.size : Int) < 1 := by omega
  have g0' : decide ((s.size : Int) < 1) = false := by simpa using g0
  have i0 : (0 : Int) < (s.size : Int) := by omega
  have hcase : ((1 : Int) < (s.size : Int) ∧ decide ((1 : Int) < (s.size : Int)) = true ∧ ((s[0].toNat : Int) == 48) = false) ∨ (¬ (1 : Int) < (s.size : Int) ∧ decide ((1 : Int) < (s.size : Int)) = false) := by
    by_cases h1 : 1 < s.size
    · have g1 : (1 : Int) < (s.size : Int) := by omega
      refine .inl ⟨g1, by simpa using g1, ?_⟩
      rw [beq_eq_false_iff_ne]; intro e; exact hz ⟨h1, by omega⟩
    · have g1 : ¬ (1 : Int) < (s.size : Int) := by omega
      exact .inr ⟨g1, by simpa using g1⟩
  clear hz
  rcases hcase with ⟨g1, g1', g2⟩ | ⟨g1, g1'⟩
  all_goals
    go_enter Tryz.func78, Tryz.ntmps78
    go_wp2_with fail
    clear g0 g0' g1 g1'
    go_loop [4, 5] (fun nv iv => ∃ (k : Nat), k ≤ s.size ∧ iv = .int .i64 k ∧ nv = .int .i64 (Pl.cntV (s.data.toList.take k)) ∧ Hid ((s.data.toList.take k).all Pl.digB = true)) (fun _ iv => s.size - (intOf iv).toNat)
    case atStart => exact ⟨0, Nat.zero_le _, rfl, rfl, rfl⟩
    case round =>
      obtain ⟨k, hk, rfl, rfl, HD⟩ := hrel
      by_cases hlt : k < s.size
      · have i1 : (k : Int) < (s.size : Int) := by omega
        by_cases hb : s[k].toNat < 48 ∨ 57 < s[k].toNat
        · have HE0 := Pl.dig_stop hlt hb
          have HE : Hid (Pl.digA s.data.toList = false ∧ Pl.cntR s.data.toList = 0) := ⟨HE0, by unfold Pl.cntR; rw [HE0]; rfl⟩
          clear HE0
          have hb2 : (s[k].toNat : Int) < 48 ∧ decide ((s[k].toNat : Int) < 48) = true ∨ ¬ (s[k].toNat : Int) < 48 ∧ decide ((s[k].toNat : Int) < 48) = false ∧ (57 : Int) < (s[k].toNat : Int) ∧ decide ((57 : Int) < (s[k].toNat : Int)) = true := by
            by_cases q : s[k].toNat < 48
            · exact .inl ⟨by omega, by simp; omega⟩
            · exact .inr ⟨by omega, by simp; omega, by omega, by simp; omega⟩
          generalize Pl.cntV (s.data.toList.take k) = nn at *
          rcases hb2 with ⟨q1, q2⟩ | ⟨q1, q2, q3, q4⟩
          all_goals
            go_wp2_with fail
            go_ret2
            exact ⟨by rw [HE.out.1, HE.out.2]; rfl, rfl⟩
        · have q1 : ¬ (s[k].toNat : Int) < 48 := by omega
          have q2 : decide ((s[k].toNat : Int) < 48) = false := by simpa using q1
          have q3 : ¬ (57 : Int) < (s[k].toNat : Int) := by omega
          have q4 : decide ((57 : Int) < (s[k].toNat : Int)) = false := by simpa using q3
          have HD2 : Hid ((s.data.toList.take (k + 1)).all Pl.digB = true) := Pl.dig_step hlt HD.out (by omega) (by omega)
          have hv := Pl.val_snoc s k hlt
          have HN : Hid (Pl.valN (s.data.toList.take (k + 1)) = Pl.valN (s.data.toList.take k) * 10 + (s[k].toNat - 48)) := hv
          have HC : Hid (Pl.cntV (s.data.toList.take (k + 1)) = if Pl.valN (s.data.toList.take (k + 1)) ≤ 4294967296 then (Pl.valN (s.data.toList.take (k + 1)) : Int) else -1) := rfl
          have hcv : Pl.cntV (s.data.toList.take k) = if Pl.valN (s.data.toList.take k) ≤ 4294967296 then (Pl.valN (s.data.toList.take k) : Int) else -1 := rfl
          obtain ⟨d, hd⟩ : ∃ d : Nat, s[k].toNat = 48 + d := ⟨s[k].toNat - 48, by omega⟩
          have hd10 : d < 10 := by omega
          have e1 : (s[k].toNat : Int) - 48 = (d : Int) := by omega
          have e2 : ((s[k].toNat : Int) - 48) % 256 = (d : Int) := by omega
          clear hv hb HD
          generalize Pl.valN (s.data.toList.take (k + 1)) = v2 at *
          generalize Pl.valN (s.data.toList.take k) = v1 at *
          by_cases hv1 : v1 ≤ 4294967296
          · rw [if_pos hv1] at hcv
            rw [hcv]
            have p1 : (0 : Int) ≤ (v1 : Int) := by omega
            have w1 : IntKind.i64.wrap (10 * (v1 : Int)) = 10 * (v1 : Int) := by rw [IntKind.wrap_i64]; omega
            have w2 : IntKind.i64.wrap (10 * (v1 : Int) + (d : Int)) = (v2 : Int) := by rw [IntKind.wrap_i64]; have := HN.out; omega
            have e3 : 10 * (v1 : Int) + (d : Int) = (v2 : Int) := by have := HN.out; omega
            by_cases hv2 : v2 ≤ 4294967296
            · have r1 : ¬ (4294967296 : Int) < (v2 : Int) := by omega
              have HC2 : Hid (Pl.cntV (s.data.toList.take (k + 1)) = (v2 : Int)) := HC.out.trans (if_pos hv2)
              clear HC hcv
              go_wp2_with fail
              go_round
              case rel => exact ⟨k + 1, by omega, by go_num, by rw [HC2.out]; congr 1; omega, HD2⟩
              case measure => simp [intOf]; omega
            · have r1 : (4294967296 : Int) < (v2 : Int) := by omega
              have HC2 : Hid (Pl.cntV (s.data.toList.take (k + 1)) = -1) := HC.out.trans (if_neg hv2)
              clear HC hcv
              go_wp2_with fail
              go_round
              case rel => exact ⟨k + 1, by omega, by go_num, by rw [HC2.out], HD2⟩
              case measure => simp [intOf]; omega
          · rw [if_neg hv1] at hcv
            rw [hcv]
            have HC2 : Hid (Pl.cntV (s.data.toList.take (k + 1)) = -1) := HC.out.trans (if_neg (by have := HN.out; omega))
            clear HC hcv
            go_wp2_with fail
            go_round
            case rel => exact ⟨k + 1, by omega, by go_num, by rw [HC2.out], HD2⟩
            case measure => simp [intOf]; omega
      · have i1 : ¬ (k : Int) < (s.size : Int) := by omega
        have HE : Hid (Pl.digA s.data.toList = true ∧ Pl.cntR s.data.toList = Pl.cntV (s.data.toList.take k)) := by
          have h2 := HD.out
          have e : s.data.toList.take k = s.data.toList := Pl.take_all s k (by omega)
          rw [e] at h2 ⊢
          exact ⟨h2, by unfold Pl.cntR; rw [h2]; rfl⟩
        generalize Pl.cntV (s.data.toList.take k) = nn at *
        go_wp2_with fail
        go_ret2
        exact ⟨by rw [HE.out.1, HE.out.2]; rfl, rfl⟩
theorem rcount_any (s : ByteArray) (w : World) (hs : s.size ≤ 16777216) :
    Calls Tryz.prog 78 #[.string s] w fun e w' => e = .returned (.tuple #[.int .i64 (if Pl.isNum s.data.toList = true then Pl.cntV s.data.toList else 0), .bool (Pl.isNum s.data.toList)]) ∧ w = w' := by
  by_cases h0 : 0 < s.size
  · have hne : s.data.toList ≠ [] := fun e => by have := Pl.szL s; rw [e] at this; simp at this; omega
    have hh : s.data.toList.head? = some s[0] := by have := Ln.head_drop (s := s) (k := 0) h0; simpa using this
    by_cases hz : 1 < s.size ∧ s[0].toNat = 48
    · have e : Pl.isNum s.data.toList = false := Pl.num_zero (by rw [hh]; congr 1; exact UInt8.toNat_inj.1 hz.2) (by rw [Pl.szL]; exact hz.1)
      rw [e]
      have g0 : ¬ (s.size : Int) < 1 := by omega
      have g0' : decide ((s.size : Int) < 1) = false := by simpa using g0
      have g1 : (1 : Int) < (s.size : Int) := by omega
      have g1' : decide ((1 : Int) < (s.size : Int)) = true := by simpa using g1
      have i0 : (0 : Int) < (s.size : Int) := by omega
      have g2 : ((s[0].toNat : Int) == 48) = true := by rw [beq_iff_eq]; omega
      clear hz hh hne e
      go_enter Tryz.func78, Tryz.ntmps78
      go_wp2_with fail
      go_ret2
      exact ⟨rfl, rfl⟩
    · have e : Pl.isNum s.data.toList = s.data.toList.all Pl.digB := Pl.num_all hne (fun k => hz ⟨by rw [← Pl.szL]; exact k.2, by rw [hh] at k; have := Option.some.inj k.1; rw [this]; rfl⟩)
      refine (rcount_go s w hs h0 hz).mono ?_
      rintro x w' ⟨rfl, rfl⟩
      rw [e]
      exact ⟨rfl, rfl⟩
  · have e : Pl.isNum s.data.toList = false := Pl.num_none (List.eq_nil_of_length_eq_zero (by rw [Pl.szL]; omega))
    rw [e]
    have g0 : (s.size : Int) < 1 := by omega
    have g0' : decide ((s.size : Int) < 1) = true := by simpa using g0
    clear e
    go_enter Tryz.func78, Tryz.ntmps78
    go_wp2_with fail
    go_ret2
    exact ⟨rfl, rfl⟩
end Go.Proofs.YtcloljkaojnipaaGreatDoor
