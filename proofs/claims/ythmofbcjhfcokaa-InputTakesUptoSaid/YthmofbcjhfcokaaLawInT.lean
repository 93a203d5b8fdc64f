/- InputTakes answers true. -/
import Derived.Test.YthmofbcjhfcokaaInX
namespace Go.Proofs.Ythmofbcjhfcokaa
open Go.RowKit

theorem In.tsz_tel : ∀ (T : List In.Tl), In.tsz (T.map In.tel) ≤ In.tsz T
  | [] => Nat.le_refl _
  | x :: r => by
    have := In.tsz_tel r
    have e : (In.tel x).1.size ≤ x.1.size := by
      unfold In.tel
      split
      · exact Nat.le_refl _
      · exact Nat.zero_le _
    simp only [In.tsz, List.map_cons, List.sum_cons] at *
    omega
/-- The source that was made. -/
theorem made_src {w : World} {T : List In.Tl} {ta : Option Addr} {tc : Nat} (h : Tls w ta tc T) (hta : ∀ ad, ta = some ad → ad.block < w.heap.size) : SrV (w.alloc (.cells #[.slice ta T.length tc, .slice none 0 0] 27)) w.heap.size T 0 ta tc (.slice none 0 0) := by
  have hnb : blk (.slice none 0 0) = none := rfl
  exact ⟨heap_alloc_new w _, h.tu (O := fun _ => False) ((Tu.refl _ w).alloc _) (fun _ _ e => e), World.ownsRow_nil _ _ _ _, fun ad e => ⟨Nat.ne_of_lt (hta ad e), by rw [hnb]; simp⟩, by rw [hnb]; simp⟩

theorem line_eql (x1 y1 : ByteArray) (x2 y2 : Bool) (wx : World) : (binOp .eql 34 (.agg #[.string x1, .bool x2]) (.agg #[.string y1, .bool y2])).run Try.prog wx = .ok (.bool ((x1.toList == y1.toList) && (x2 == y2))) wx := by
  have ht : Try.prog.underlying 34 = some (.struct (Try.prog.fieldsOf 34)) := by kernel_rfl
  have hp : Try.prog.stoodInHeld 34 = false := by kernel_rfl
  obtain ⟨f, g, hf, f1, f2, f3, g1, g2, g3⟩ : ∃ f g : Field, (Try.prog.fieldsOf 34).toList = [f, g] ∧ f.name = "Text" ∧ f.type = 9 ∧ f.offset = 0 ∧ g.name = "Whole" ∧ g.type = 4 ∧ g.offset = 1 :=
    ⟨(Try.prog.fieldsOf 34).toList.head!, (Try.prog.fieldsOf 34).toList.tail.head!, by kernel_rfl, by kernel_rfl, by kernel_rfl, by kernel_rfl, by kernel_rfl, by kernel_rfl, by kernel_rfl⟩
  have p1 : ∀ (a : ByteArray) (b : Bool) (w : World), (part 9 #[.string a, .bool b] 0).run Try.prog w = .ok (.string a) w := fun _ _ _ => by kernel_rfl
  have p2 : ∀ (a : ByteArray) (b : Bool) (w : World), (part 4 #[.string a, .bool b] 1).run Try.prog w = .ok (.bool b) w := fun _ _ _ => by kernel_rfl
  rw [run_eql_struct, show (10000 : Nat) = 9999 + 1 from rfl, run_equalIn_struct wx 9999 34 _ _ ht hp, hf]
  simp only [Op.eqFields, f1, f2, f3, g1, g2, g3, Sem.run_bind, Sem.run_ite, p1, p2, Result.andThen_ok, Sem.run_pure, show (9999 : Nat) = 9998 + 1 from rfl, run_equalIn_string wx 9998 9 x1 y1 Try.underlying9, run_equalIn_bool' wx 9998 4 x2 y2 Try.underlying4]
  cases (x1.toList == y1.toList) <;> cases (x2 == y2) <;> simp
set_option maxRecDepth 100000 in
set_option maxHeartbeats 4000000 in
theorem law_takes (a : Option Addr) (cap : Nat) (T0 : List In.Tl) (sep : Bool) (times : Int) (w : World) (h : Tls w a cap T0) (hT0 : T0.length ≤ 1048576) (hz0 : In.tsz T0 ≤ 1048576) :
    Calls Try.prog 3 #[.slice a T0.length cap, .bool sep, .int .i64 times] w fun e w' => e = .returned (.bool true) ∧ Below w.heap.size w w' := by
  have HTo : Hid _ := told_any a cap T0 w h hT0
  obtain ⟨T, hT⟩ : ∃ T, T = T0.map In.tel := ⟨_, rfl⟩
  have hTl : T.length ≤ 1048576 := by rw [hT]; simpa using hT0
  have hz : In.tsz T ≤ 1048576 := by rw [hT]; exact Nat.le_trans (In.tsz_tel T0) hz0
  rw [← hT] at HTo
  clear hT h
  go_enter Try.func3, Try.ntmps3
  go_wp2_with (go_at_call 6; refine Calls.mono HTo.out ?_; rintro e w1 ⟨v, rfl, ho, hb⟩; (obtain ⟨ta, tc, hv, htl, hta⟩ := own_tls ho); (subst hv); (have HTL : Hid _ := htl); (have HTA : Hid _ := hta); (have HB1 : Hid _ := hb); (clear ho hb htl hta))
  have HSr : Hid _ := made_src HTL.out (fun ad e => (HTA.out ad e).2.1)
  have HB2 : Hid (Below w.heap.size w (w1.alloc (.cells #[.slice ta T.length tc, .slice none 0 0] 27))) := HB1.out.alloc HB1.out.size _
  have HTA2 : Hid (∀ ad, ta = some ad → ad.block < (w1.alloc (.cells #[.slice ta T.length tc, .slice none 0 0] 27)).heap.size) := fun ad e => Nat.lt_of_lt_of_le (HTA.out ad e).2.1 (by simp)
  have hsz : w.heap.size ≤ w1.heap.size := HB1.out.size
  by_cases h24 : 1024 < T.length
  · have h24i : (1024 : Int) < (T.length : Int) := by omega
    have h24d : decide ((1024 : Int) < (T.length : Int)) = true := by simp; omega
    have HNB : Hid _ := new_bad ⟨w1.heap.size, 0, none⟩ (T.length : Int) sep (w1.alloc (.cells #[.slice ta T.length tc, .slice none 0 0] 27)) (.inr (by omega))
    have HLv : Hid (∀ w, _) := fun w => lives_any w
    go_wp2_with (first
      | (go_at_call 7; refine Calls.mono HNB.out ?_; rintro e w3 ⟨rfl, m, rfl⟩)
      | (go_at_call 8; refine Calls.mono (HLv.out _) ?_; rintro e w4 ⟨rfl, hb4⟩; (have hc4 := hb4.cell (p := ⟨w1.heap.size, 1, none⟩) (by simp))))
    go_ret
    exact ⟨rfl, below_up (below_drewN HB2.out m) hb4 (Nat.le_refl _)⟩
  · have hLl : (In.ls T).length ≤ 1048576 := Nat.le_trans (In.ahF_len T 0) hz
    have HNW : Hid _ := Oc.new w1.heap.size T sep ta tc w _ HSr.out (by omega) HTA2.out HB2.out hsz
    have HLv : Hid (∀ w, _) := fun w => lives_any w
    have HMo : Hid (∀ wx, Tls wx ta tc T → _) := fun wx hx => most_any ta tc T wx hx hTl hz
    have h24i : ¬ (1024 : Int) < (T.length : Int) := by omega
    go_wp2_with (first
      | (go_at_call 7; refine Calls.mono HNW.out ?_; rintro e w3 ⟨rfl, h3⟩; (have K3 : Hid _ := h3); clear h3)
      | (go_at_call 8; refine Calls.mono (HLv.out _) ?_; rintro e w4 ⟨rfl, hb4⟩; (have K4 : Hid _ := K3.out.still hb4); clear hb4)
      | (go_at_call 9; refine Calls.mono (HMo.out _ K4.out.told) ?_; rintro e w5 ⟨rfl, hb5⟩; (have K5 : Hid _ := K4.out.still hb5); clear hb5))
    go_loopw [9, 11] (fun v i wr => ∃ (t : Nat) (s : In.St), v = .int .i64 (t : Int) ∧ i = .int .i64 (t : Int) ∧ Hid (Oc w (w1.heap.size + 1) w1.heap.size T sep [] ta tc s wr) ∧ Hid (In.Cur T t s) ∧ Hid (In.Lnv T sep t s)) (fun v _ _ => (In.ls T).length - (intOf v).toNat)
    case atStart => exact ⟨0, _, rfl, rfl, by simpa using K5, (In.cur_0 T).1, In.lnv_0 T sep⟩
    case round =>
      obtain ⟨t, s, rfl, rfl, HO, HC, HV⟩ := hrel
      have htL : t ≤ (In.ls T).length := HC.out.rel.t_le
      obtain ⟨⟨l1, l2⟩, hli⟩ : ∃ li, In.lin T t = li := ⟨_, rfl⟩
      have HLI : Hid (In.lin T t = (l1, l2)) := hli
      have hno : s.ln.no < 1000000000000 := by have := HV.out.no_le; omega
      clear hli
      by_cases hy : s.why = 0
      · have HY : Hid (s.why = 0) := hy
        by_cases hn : s.rest.data.toList = []
        · have HRn : Hid (s.rest.data.toList = []) := hn
          have HFD : Hid (decide (t < (In.ls T).length) = false) := decide_eq_false (by have := HC.out.found.1 hn; omega)
          clear hy hn
          have HB0 : Hid (∀ wx, Tls wx ta tc T → Calls Try.prog 10 #[.slice ta T.length tc, .int .i64 (t : Int), .bool sep] wx fun e w' => e = .returned (.agg #[.int .i64 0, .bool s.ln.last, .int .i64 (s.ln.no : Int), .int .i64 (s.ln.pl : Int), .bool s.ln.fresh, .bool s.passed, .string s.ln.data, .int .i64 (s.asked : Int), .string l1, .bool l2, .bool false]) ∧ Below wx.heap.size wx w') := fun wx hx => by
            have := behind_any ta tc T sep t wx hx (by omega) hz htL
            rw [HC.out.bh HV.out, HLI.out, HFD.out, HY.out] at this
            exact this

          go_wp2_with (go_at_call 10; refine Calls.mono (HB0.out _ HO.out.told) ?_; rintro e w5 ⟨rfl, hb5⟩; (have K6 : Hid _ := HO.out.still hb5); (obtain ⟨av, hav, how⟩ := K6.out.asks); (obtain ⟨aa, cc, hv⟩ := own_slice how); (subst hv); (have hg5 := K6.out.gs_lt); (have n5 : ¬ w1.heap.size = w5.heap.size := Nat.ne_of_lt hg5); (clear hb5 how))
          go_quiet (fail)

          have K7 : Hid (Oc w (w1.heap.size + 1) w1.heap.size T sep [] ta tc s ((w5.alloc (.cells #[.int .i64 0, .bool s.ln.last, .int .i64 (s.ln.no : Int), .int .i64 (s.ln.pl : Int), .bool s.ln.fresh, .bool s.passed, .string s.ln.data, .int .i64 (s.asked : Int), .string l1, .bool l2, .bool false] 36)).drewN nq)) := (K6.out.still (alloc_below w5 _)).still (below_drewN (Below.refl _ _) nq)
          go_wp2_with (go_at_call 10; refine Calls.mono (HB0.out _ K7.out.told) ?_; rintro e w6 ⟨rfl, hb6⟩; (have K8 : Hid _ := (K7.out.still hb6).still (alloc_below w6 (.cells #[.int .i64 0, .bool s.ln.last, .int .i64 (s.ln.no : Int), .int .i64 (s.ln.pl : Int), .bool s.ln.fresh, .bool s.passed, .string s.ln.data, .int .i64 (s.asked : Int), .string l1, .bool l2, .bool false] 36))); (clear hb6))
          obtain ⟨wd, hwd⟩ : ∃ wd, wd = w6.alloc (.cells #[.int .i64 0, .bool s.ln.last, .int .i64 (s.ln.no : Int), .int .i64 (s.ln.pl : Int), .bool s.ln.fresh, .bool s.passed, .string s.ln.data, .int .i64 (s.asked : Int), .string l1, .bool l2, .bool false] 36) := ⟨_, rfl⟩
          have hst : wd.heap[w6.heap.size]? = some (.cells (In.bhA 0 s.ln s.passed s.asked (l1, l2) false) 36) := by rw [hwd]; exact heap_alloc_new w6 _
          rw [← hwd] at K8
          rw [← hwd]
          obtain ⟨av6, hv6, ho6⟩ := K8.out.asks
          have hgs6 := K8.out.gs_lt
          have hlt6 : w6.heap.size < wd.heap.size := lt_of_block hst
          have HC9 : Hid (∀ w', Below wd.heap.size wd w' → Below wd.heap.size wd w' ∧ w'.cell? ⟨w1.heap.size, 1, none⟩ = some av6 ∧ w'.cell? ⟨w6.heap.size, 0, none⟩ = some (.int .i64 0) ∧ w'.cell? ⟨w6.heap.size, 7, none⟩ = some (.int .i64 (s.asked : Int)) ∧ w'.cell? ⟨w6.heap.size, 10, none⟩ = some (.bool false)) := fun w' hb => by
            obtain ⟨z0, _, _, _, _, _, _, z7, _, _, z10⟩ := bh_cells hst
            exact ⟨hb, (hb.cell (p := ⟨w1.heap.size, 1, none⟩) hgs6).trans hv6, (hb.cell (p := ⟨w6.heap.size, 0, none⟩) hlt6).trans z0, (hb.cell (p := ⟨w6.heap.size, 7, none⟩) hlt6).trans z7, (hb.cell (p := ⟨w6.heap.size, 10, none⟩) hlt6).trans z10⟩
          have HAs : Hid (∀ V, Below wd.heap.size wd V → Calls Try.prog 13 #[av6, .int .i64 (s.asked : Int)] V fun e w' => e = .returned (.bool true) ∧ Below wd.heap.size wd w' ∧ w'.cell? ⟨w1.heap.size, 1, none⟩ = some av6 ∧ w'.cell? ⟨w6.heap.size, 0, none⟩ = some (.int .i64 0) ∧ w'.cell? ⟨w6.heap.size, 7, none⟩ = some (.int .i64 (s.asked : Int)) ∧ w'.cell? ⟨w6.heap.size, 10, none⟩ = some (.bool false)) := fun V hb => by
            have := asked_any av6 s.asked (s.asked : Int) V (own_keep ho6 (fun b e => hb.block b (own_lt ho6 e))) (by have := HC.out.rel.le; omega)
            refine this.mono fun e w' ⟨he, k, hw⟩ => ⟨by rw [he]; simp, HC9.out w' ?_⟩
            rw [hw]
            exact below_drewN hb k
          have HEr : Hid (∀ V, Below wd.heap.size wd V → Calls Try.prog 12 #[.pointer (some ⟨w1.heap.size + 1, 0, none⟩)] V fun e w' => e = .returned (.int .i64 0) ∧ Below wd.heap.size wd w' ∧ w'.cell? ⟨w1.heap.size, 1, none⟩ = some av6 ∧ w'.cell? ⟨w6.heap.size, 0, none⟩ = some (.int .i64 0) ∧ w'.cell? ⟨w6.heap.size, 7, none⟩ = some (.int .i64 (s.asked : Int)) ∧ w'.cell? ⟨w6.heap.size, 10, none⟩ = some (.bool false)) := fun V hb => by
            refine (K8.out.still hb).err.mono fun e w' ⟨he, hw⟩ => ⟨by rw [he, HY.out], HC9.out w' ?_⟩
            rw [← hw]
            exact hb

          have HAg : Hid (∀ V, Below wd.heap.size wd V → Calls Try.prog 14 #[.pointer (some ⟨w1.heap.size + 1, 0, none⟩), .int .i64 0] V fun e w' => e = .returned (.bool true) ∧ Below wd.heap.size wd w' ∧ w'.cell? ⟨w1.heap.size, 1, none⟩ = some av6 ∧ w'.cell? ⟨w6.heap.size, 0, none⟩ = some (.int .i64 0) ∧ w'.cell? ⟨w6.heap.size, 7, none⟩ = some (.int .i64 (s.asked : Int)) ∧ w'.cell? ⟨w6.heap.size, 10, none⟩ = some (.bool false)) := fun V hb => by
            have := again_any V (K8.out.still hb) HRn.out
            rw [HY.out] at this
            exact this.mono fun e w' ⟨he, hb'⟩ => ⟨he, HC9.out w' (below_up hb hb' (Nat.le_refl _))⟩

          have HBd : Hid (Below w.heap.size w wd) := K8.out.below
          have s0 := HC9.out wd.drew (below_drewN (Below.refl _ _) 1)
          clear hst hv6 ho6 hlt6 hwd K8 K7
          go_region_held3 (fun w' => Below wd.heap.size wd w' ∧ w'.cell? ⟨w1.heap.size, 1, none⟩ = some av6 ∧ w'.cell? ⟨w6.heap.size, 0, none⟩ = some (.int .i64 0) ∧ w'.cell? ⟨w6.heap.size, 7, none⟩ = some (.int .i64 (s.asked : Int)) ∧ w'.cell? ⟨w6.heap.size, 10, none⟩ = some (.bool false)) ((first | exact s0 | exact l9)) (first
            | (go_at_call 13; refine Calls.mono (HAs.out _ (by first | exact s0.1 | exact l9.1 | (rename_i hh; exact hh.1))) ?_; rintro e wn ⟨rfl, l9⟩)
            | (go_at_call 12; refine Calls.mono (HEr.out _ (by first | exact l9.1 | exact s0.1)) ?_; rintro e wn ⟨rfl, l9⟩))
          all_goals
            obtain ⟨hb9, c91, c90, c97, c910⟩ := l9
            go_wp2_with fail

            have s1 := HC9.out wn.drew (below_drewN hb9 1)
            clear c91 c90 c97 c910
            go_region_held3 (fun w' => Below wd.heap.size wd w' ∧ w'.cell? ⟨w1.heap.size, 1, none⟩ = some av6 ∧ w'.cell? ⟨w6.heap.size, 0, none⟩ = some (.int .i64 0) ∧ w'.cell? ⟨w6.heap.size, 7, none⟩ = some (.int .i64 (s.asked : Int)) ∧ w'.cell? ⟨w6.heap.size, 10, none⟩ = some (.bool false)) ((first | exact s1 | exact l8)) (first
              | (go_at_call 14; refine Calls.mono (HAg.out _ (by first | exact s1.1 | exact l8.1)) ?_; rintro e wm ⟨rfl, l8⟩)
              | (go_at_call 13; refine Calls.mono (HAs.out _ (by first | exact l8.1 | exact s1.1)) ?_; rintro e wm ⟨rfl, l8⟩))
            all_goals
              go_wp2_with fail
              go_ret
              exact ⟨by simp, below_up HBd.out l8.1 (Nat.le_refl _)⟩
        · have HFD : Hid (decide (t < (In.ls T).length) = true) := decide_eq_true (HC.out.nextL hn).1
          have HRn : Hid (s.rest.data.toList ≠ []) := hn
          clear hy hn
          by_cases htm : times ≤ (t : Int)
          · have htd : decide (times ≤ (t : Int)) = true := by simp [htm]
            have HB0 : Hid (∀ wx, Tls wx ta tc T → Calls Try.prog 10 #[.slice ta T.length tc, .int .i64 (t : Int), .bool sep] wx fun e w' => e = .returned (.agg #[.int .i64 0, .bool s.ln.last, .int .i64 (s.ln.no : Int), .int .i64 (s.ln.pl : Int), .bool s.ln.fresh, .bool s.passed, .string s.ln.data, .int .i64 (s.asked : Int), .string l1, .bool l2, .bool true]) ∧ Below wx.heap.size wx w') := fun wx hx => by
              have := behind_any ta tc T sep t wx hx (by omega) hz htL
              rw [HC.out.bh HV.out, HLI.out, HFD.out, HY.out] at this
              exact this

            go_wp2_with (go_at_call 10; refine Calls.mono (HB0.out _ HO.out.told) ?_; rintro e w5 ⟨rfl, hb5⟩; (have K6 : Hid _ := HO.out.still hb5); (obtain ⟨av, hav, how⟩ := K6.out.asks); (obtain ⟨aa, cc, hv⟩ := own_slice how); (subst hv); (have hg5 := K6.out.gs_lt); (have n5 : ¬ w1.heap.size = w5.heap.size := Nat.ne_of_lt hg5); (clear hb5 how))
            go_quiet (fail)

            have K7 : Hid (Oc w (w1.heap.size + 1) w1.heap.size T sep [] ta tc s ((w5.alloc (.cells #[.int .i64 0, .bool s.ln.last, .int .i64 (s.ln.no : Int), .int .i64 (s.ln.pl : Int), .bool s.ln.fresh, .bool s.passed, .string s.ln.data, .int .i64 (s.asked : Int), .string l1, .bool l2, .bool true] 36)).drewN nq)) := (K6.out.still (alloc_below w5 _)).still (below_drewN (Below.refl _ _) nq)
            go_wp2_with (go_at_call 10; refine Calls.mono (HB0.out _ K7.out.told) ?_; rintro e w6 ⟨rfl, hb6⟩; (have K8 : Hid _ := (K7.out.still hb6).still (alloc_below w6 (.cells #[.int .i64 0, .bool s.ln.last, .int .i64 (s.ln.no : Int), .int .i64 (s.ln.pl : Int), .bool s.ln.fresh, .bool s.passed, .string s.ln.data, .int .i64 (s.asked : Int), .string l1, .bool l2, .bool true] 36))); (clear hb6))
            obtain ⟨wd, hwd⟩ : ∃ wd, wd = w6.alloc (.cells #[.int .i64 0, .bool s.ln.last, .int .i64 (s.ln.no : Int), .int .i64 (s.ln.pl : Int), .bool s.ln.fresh, .bool s.passed, .string s.ln.data, .int .i64 (s.asked : Int), .string l1, .bool l2, .bool true] 36) := ⟨_, rfl⟩
            have hst : wd.heap[w6.heap.size]? = some (.cells (In.bhA 0 s.ln s.passed s.asked (l1, l2) true) 36) := by rw [hwd]; exact heap_alloc_new w6 _
            rw [← hwd] at K8
            rw [← hwd]
            obtain ⟨av6, hv6, ho6⟩ := K8.out.asks
            have hgs6 := K8.out.gs_lt
            have hlt6 : w6.heap.size < wd.heap.size := lt_of_block hst
            have HC9 : Hid (∀ w', Below wd.heap.size wd w' → Below wd.heap.size wd w' ∧ w'.cell? ⟨w1.heap.size, 1, none⟩ = some av6 ∧ w'.cell? ⟨w6.heap.size, 0, none⟩ = some (.int .i64 0) ∧ w'.cell? ⟨w6.heap.size, 7, none⟩ = some (.int .i64 (s.asked : Int)) ∧ w'.cell? ⟨w6.heap.size, 10, none⟩ = some (.bool true)) := fun w' hb => by
              obtain ⟨z0, _, _, _, _, _, _, z7, _, _, z10⟩ := bh_cells hst
              exact ⟨hb, (hb.cell (p := ⟨w1.heap.size, 1, none⟩) hgs6).trans hv6, (hb.cell (p := ⟨w6.heap.size, 0, none⟩) hlt6).trans z0, (hb.cell (p := ⟨w6.heap.size, 7, none⟩) hlt6).trans z7, (hb.cell (p := ⟨w6.heap.size, 10, none⟩) hlt6).trans z10⟩
            have HAs : Hid (∀ V, Below wd.heap.size wd V → Calls Try.prog 13 #[av6, .int .i64 (s.asked : Int)] V fun e w' => e = .returned (.bool true) ∧ Below wd.heap.size wd w' ∧ w'.cell? ⟨w1.heap.size, 1, none⟩ = some av6 ∧ w'.cell? ⟨w6.heap.size, 0, none⟩ = some (.int .i64 0) ∧ w'.cell? ⟨w6.heap.size, 7, none⟩ = some (.int .i64 (s.asked : Int)) ∧ w'.cell? ⟨w6.heap.size, 10, none⟩ = some (.bool true)) := fun V hb => by
              have := asked_any av6 s.asked (s.asked : Int) V (own_keep ho6 (fun b e => hb.block b (own_lt ho6 e))) (by have := HC.out.rel.le; omega)
              refine this.mono fun e w' ⟨he, k, hw⟩ => ⟨by rw [he]; simp, HC9.out w' ?_⟩
              rw [hw]
              exact below_drewN hb k
            have HEr : Hid (∀ V, Below wd.heap.size wd V → Calls Try.prog 12 #[.pointer (some ⟨w1.heap.size + 1, 0, none⟩)] V fun e w' => e = .returned (.int .i64 0) ∧ Below wd.heap.size wd w' ∧ w'.cell? ⟨w1.heap.size, 1, none⟩ = some av6 ∧ w'.cell? ⟨w6.heap.size, 0, none⟩ = some (.int .i64 0) ∧ w'.cell? ⟨w6.heap.size, 7, none⟩ = some (.int .i64 (s.asked : Int)) ∧ w'.cell? ⟨w6.heap.size, 10, none⟩ = some (.bool true)) := fun V hb => by
              refine (K8.out.still hb).err.mono fun e w' ⟨he, hw⟩ => ⟨by rw [he, HY.out], HC9.out w' ?_⟩
              rw [← hw]
              exact hb

            have HBd : Hid (Below w.heap.size w wd) := K8.out.below
            have s0 := HC9.out wd.drew (below_drewN (Below.refl _ _) 1)
            clear hst hv6 ho6 hlt6 hwd K8 K7
            go_region_held3 (fun w' => Below wd.heap.size wd w' ∧ w'.cell? ⟨w1.heap.size, 1, none⟩ = some av6 ∧ w'.cell? ⟨w6.heap.size, 0, none⟩ = some (.int .i64 0) ∧ w'.cell? ⟨w6.heap.size, 7, none⟩ = some (.int .i64 (s.asked : Int)) ∧ w'.cell? ⟨w6.heap.size, 10, none⟩ = some (.bool true)) ((first | exact s0 | exact l9)) (first
              | (go_at_call 13; refine Calls.mono (HAs.out _ (by first | exact s0.1 | exact l9.1 | (rename_i hh; exact hh.1))) ?_; rintro e wn ⟨rfl, l9⟩)
              | (go_at_call 12; refine Calls.mono (HEr.out _ (by first | exact l9.1 | exact s0.1)) ?_; rintro e wn ⟨rfl, l9⟩))
            all_goals
              obtain ⟨hb9, c91, c90, c97, c910⟩ := l9
              go_wp2_with fail

              go_ret
              exact ⟨by simp, below_up HBd.out hb9 (Nat.le_refl _)⟩
          · have htd : decide (times ≤ (t : Int)) = false := by simp; omega
            have HB0 : Hid (∀ wx, Tls wx ta tc T → Calls Try.prog 10 #[.slice ta T.length tc, .int .i64 (t : Int), .bool sep] wx fun e w' => e = .returned (.agg #[.int .i64 0, .bool s.ln.last, .int .i64 (s.ln.no : Int), .int .i64 (s.ln.pl : Int), .bool s.ln.fresh, .bool s.passed, .string s.ln.data, .int .i64 (s.asked : Int), .string l1, .bool l2, .bool true]) ∧ Below wx.heap.size wx w') := fun wx hx => by
              have := behind_any ta tc T sep t wx hx (by omega) hz htL
              rw [HC.out.bh HV.out, HLI.out, HFD.out, HY.out] at this
              exact this

            go_wp2_with (go_at_call 10; refine Calls.mono (HB0.out _ HO.out.told) ?_; rintro e w5 ⟨rfl, hb5⟩; (have K6 : Hid _ := HO.out.still hb5); (obtain ⟨av, hav, how⟩ := K6.out.asks); (obtain ⟨aa, cc, hv⟩ := own_slice how); (subst hv); (have hg5 := K6.out.gs_lt); (have n5 : ¬ w1.heap.size = w5.heap.size := Nat.ne_of_lt hg5); (clear hb5 how))
            go_quiet (fail)

            have K7 : Hid (Oc w (w1.heap.size + 1) w1.heap.size T sep [] ta tc s ((w5.alloc (.cells #[.int .i64 0, .bool s.ln.last, .int .i64 (s.ln.no : Int), .int .i64 (s.ln.pl : Int), .bool s.ln.fresh, .bool s.passed, .string s.ln.data, .int .i64 (s.asked : Int), .string l1, .bool l2, .bool true] 36)).drewN nq)) := (K6.out.still (alloc_below w5 _)).still (below_drewN (Below.refl _ _) nq)
            have hrn := HRn.out
            have HT0 : Hid (∀ N wx, Oc w (w1.heap.size + 1) w1.heap.size T sep N ta tc s wx → _) := fun N wx (hx : Oc w (w1.heap.size + 1) w1.heap.size T sep N ta tc s wx) => hx.take (fun e => (HC.out.rel.text ((In.emp_not _).1 e)).1) hno (by have := HC.out.rel.sz; omega)
            have htL2 : t < (In.ls T).length := (HC.out.nextL hrn).1
            have ecast : ((t + 1 : Nat) : Int) = (t : Int) + 1 := by omega
            have HEC : Hid _ := ecast
            clear ecast
            by_cases hty0 : (In.tkS T s).why = 0
            · have hty := hty0
              obtain ⟨ht, h1, h2, h3, h4, h5⟩ := In.take_yes HC.out HV.out hrn hty
              obtain ⟨X, hX⟩ : ∃ X, In.takeR T sep s = X := ⟨_, rfl⟩
              have hw0 : X.2.2.2.why = 0 := by
                rw [← hX]
                unfold In.takeR
                rw [if_pos ⟨HC.out.why0 hrn, (In.emp_not _).2 hrn⟩, if_pos hty]
                exact hty
              rw [hX] at h1 h2 h3 h4 h5
              obtain ⟨⟨x1, x2⟩, o, yy, s'⟩ := X
              simp only at h1 h2 h3 h4 h5 hw0
              subst h2; subst h3
              have HCN : Hid (In.Cur T (t + 1) s') := h4
              have HVN : Hid (In.Lnv T sep (t + 1) s') := h5
              have HYN : Hid (s'.why = 0) := hw0
              have HLN : Hid (In.lin T (t + 1) = (x1, x2)) := by show _ = _; rw [In.lin_succ ht, ← h1]
              obtain ⟨fd, hfd⟩ : ∃ fd, decide (t + 1 < (In.ls T).length) = fd := ⟨_, rfl⟩
              have HB1 : Hid (∀ wx, Tls wx ta tc T → Calls Try.prog 10 #[.slice ta T.length tc, .int .i64 ((t : Int) + 1), .bool sep] wx fun e w' => e = .returned (.agg #[.int .i64 0, .bool s'.ln.last, .int .i64 (s'.ln.no : Int), .int .i64 (s'.ln.pl : Int), .bool s'.ln.fresh, .bool s'.passed, .string s'.ln.data, .int .i64 (s'.asked : Int), .string x1, .bool x2, .bool fd]) ∧ Below wx.heap.size wx w') := fun wx hx => by
                have := behind_any ta tc T sep (t + 1) wx hx (by omega) hz htL2
                rw [HEC.out, HCN.out.bh HVN.out, HLN.out, hfd, HYN.out] at this
                exact this
              have HTk : Hid (∀ N wx, Oc w (w1.heap.size + 1) w1.heap.size T sep N ta tc s wx → Calls Try.prog 11 #[.pointer (some ⟨w1.heap.size + 1, 0, none⟩)] wx fun e w' => e = .returned (.tuple #[.agg #[.string x1, .bool x2], .bool true, .int .i64 0]) ∧ Oc w (w1.heap.size + 1) w1.heap.size T sep N ta tc s' w' ∧ Kp N wx w') := fun N wx hx => by
                have := HT0.out N wx hx
                rw [hX] at this
                exact this
              have hne := fun wx => line_neq x1 x1 x2 x2 wx
              clear h1 h4 h5 hw0 hty hrn HT0

              go_wp2_with (first
                | (go_at_call 10; refine Calls.mono (HB1.out _ K7.out.told) ?_; rintro e w6 ⟨rfl, hb6⟩; (have K8 : Hid _ := (K7.out.still hb6).alloc (.cells #[.int .i64 0, .bool s'.ln.last, .int .i64 (s'.ln.no : Int), .int .i64 (s'.ln.pl : Int), .bool s'.ln.fresh, .bool s'.passed, .string s'.ln.data, .int .i64 (s'.asked : Int), .string x1, .bool x2, .bool fd] 36)); (clear hb6))
                | (go_at_call 11; refine Calls.mono (HTk.out _ _ K8.out) ?_; rintro e w7 ⟨rfl, h7, hk7⟩; (have HS7 : Hid (w7.heap[w6.heap.size]? = some (.cells #[.int .i64 0, .bool s'.ln.last, .int .i64 (s'.ln.no : Int), .int .i64 (s'.ln.pl : Int), .bool s'.ln.fresh, .bool s'.passed, .string s'.ln.data, .int .i64 (s'.asked : Int), .string x1, .bool x2, .bool fd] 36)) := (hk7 _ (List.mem_cons_self ..)).trans (heap_alloc_new w6 _)); (have K9 : Hid _ := h7.less (N' := []) (fun k hk => by cases hk)); (have z70 : w7.cell? ⟨w6.heap.size, 0, none⟩ = some (.int .i64 0) := by rw [cell_of_row w7 _ _ _ _ _ HS7.out]; rfl); (have hl76 : w6.heap.size < w7.heap.size := lt_of_block HS7.out); (have n76 : ¬ w6.heap.size = w7.heap.size := Nat.ne_of_lt hl76); (clear h7 hk7)))
              obtain ⟨wd, hwd⟩ : ∃ wd, wd = w7.alloc (.cells #[.string x1, .bool x2] 34) := ⟨_, rfl⟩
              have K10 : Hid (Oc w (w1.heap.size + 1) w1.heap.size T sep [] ta tc s' wd) := by rw [hwd]; exact K9.out.still (alloc_below w7 _)
              have hst : wd.heap[w6.heap.size]? = some (.cells (In.bhA 0 s'.ln s'.passed s'.asked (x1, x2) fd) 36) := by rw [hwd, heap_alloc_old _ _ hl76]; exact HS7.out
              have hsa : wd.heap[w7.heap.size]? = some (.cells #[.string x1, .bool x2] 34) := by rw [hwd]; exact heap_alloc_new w7 _
              rw [← hwd]
              obtain ⟨av6, hv6, ho6⟩ := K10.out.asks
              have hgs6 := K10.out.gs_lt
              have hlt6 : w6.heap.size < wd.heap.size := lt_of_block hst
              have hlt7 : w7.heap.size < wd.heap.size := lt_of_block hsa
              have HC9 : Hid (∀ w', Below wd.heap.size wd w' → Below wd.heap.size wd w' ∧ w'.cell? ⟨w1.heap.size, 1, none⟩ = some av6 ∧ w'.cell? ⟨w6.heap.size, 0, none⟩ = some (.int .i64 0) ∧ w'.cell? ⟨w6.heap.size, 1, none⟩ = some (.bool s'.ln.last) ∧ w'.cell? ⟨w6.heap.size, 2, none⟩ = some (.int .i64 (s'.ln.no : Int)) ∧ w'.cell? ⟨w6.heap.size, 3, none⟩ = some (.int .i64 (s'.ln.pl : Int)) ∧ w'.cell? ⟨w6.heap.size, 4, none⟩ = some (.bool s'.ln.fresh) ∧ w'.cell? ⟨w6.heap.size, 5, none⟩ = some (.bool s'.passed) ∧ w'.cell? ⟨w6.heap.size, 6, none⟩ = some (.string s'.ln.data) ∧ w'.cell? ⟨w6.heap.size, 7, none⟩ = some (.int .i64 (s'.asked : Int)) ∧ w'.cell? ⟨w6.heap.size, 8, none⟩ = some (.string x1) ∧ w'.cell? ⟨w6.heap.size, 9, none⟩ = some (.bool x2) ∧ w'.cell? ⟨w6.heap.size, 10, none⟩ = some (.bool fd) ∧ w'.cell? ⟨w7.heap.size, 0, none⟩ = some (.string x1) ∧ w'.cell? ⟨w7.heap.size, 1, none⟩ = some (.bool x2)) := fun w' hb => by
                obtain ⟨z0, z1, z2, z3, z4, z5, z6, z7, z8, z9, z10⟩ := bh_cells hst
                obtain ⟨q0, q1⟩ := line_cells hsa
                have e6 : ∀ j, w'.cell? ⟨w6.heap.size, j, none⟩ = wd.cell? ⟨w6.heap.size, j, none⟩ := fun j => hb.cell (p := ⟨w6.heap.size, j, none⟩) hlt6
                have e7 : ∀ j, w'.cell? ⟨w7.heap.size, j, none⟩ = wd.cell? ⟨w7.heap.size, j, none⟩ := fun j => hb.cell (p := ⟨w7.heap.size, j, none⟩) hlt7
                exact ⟨hb, (hb.cell (p := ⟨w1.heap.size, 1, none⟩) hgs6).trans hv6, (e6 0).trans z0, (e6 1).trans z1, (e6 2).trans z2, (e6 3).trans z3, (e6 4).trans z4, (e6 5).trans z5, (e6 6).trans z6, (e6 7).trans z7, (e6 8).trans z8, (e6 9).trans z9, (e6 10).trans z10, (e7 0).trans q0, (e7 1).trans q1⟩
              have HAs : Hid (∀ V, Below wd.heap.size wd V → Calls Try.prog 13 #[av6, .int .i64 (s'.asked : Int)] V fun e w' => e = .returned (.bool true) ∧ Below wd.heap.size wd w' ∧ w'.cell? ⟨w1.heap.size, 1, none⟩ = some av6 ∧ w'.cell? ⟨w6.heap.size, 0, none⟩ = some (.int .i64 0) ∧ w'.cell? ⟨w6.heap.size, 1, none⟩ = some (.bool s'.ln.last) ∧ w'.cell? ⟨w6.heap.size, 2, none⟩ = some (.int .i64 (s'.ln.no : Int)) ∧ w'.cell? ⟨w6.heap.size, 3, none⟩ = some (.int .i64 (s'.ln.pl : Int)) ∧ w'.cell? ⟨w6.heap.size, 4, none⟩ = some (.bool s'.ln.fresh) ∧ w'.cell? ⟨w6.heap.size, 5, none⟩ = some (.bool s'.passed) ∧ w'.cell? ⟨w6.heap.size, 6, none⟩ = some (.string s'.ln.data) ∧ w'.cell? ⟨w6.heap.size, 7, none⟩ = some (.int .i64 (s'.asked : Int)) ∧ w'.cell? ⟨w6.heap.size, 8, none⟩ = some (.string x1) ∧ w'.cell? ⟨w6.heap.size, 9, none⟩ = some (.bool x2) ∧ w'.cell? ⟨w6.heap.size, 10, none⟩ = some (.bool fd) ∧ w'.cell? ⟨w7.heap.size, 0, none⟩ = some (.string x1) ∧ w'.cell? ⟨w7.heap.size, 1, none⟩ = some (.bool x2)) := fun V hb => by
                have := asked_any av6 s'.asked (s'.asked : Int) V (own_keep ho6 (fun b e => hb.block b (own_lt ho6 e))) (by have := HCN.out.rel.le; omega)
                refine this.mono fun e w' ⟨he, k, hw⟩ => ⟨by rw [he]; simp, HC9.out w' ?_⟩
                rw [hw]
                exact below_drewN hb k

              have HSa : Hid (∀ V, Below wd.heap.size wd V → Calls Try.prog 15 #[.pointer (some ⟨w1.heap.size + 1, 0, none⟩), .agg #[.int .i64 0, .bool s'.ln.last, .int .i64 (s'.ln.no : Int), .int .i64 (s'.ln.pl : Int), .bool s'.ln.fresh, .bool s'.passed, .string s'.ln.data, .int .i64 (s'.asked : Int), .string x1, .bool x2, .bool fd]] V fun e w' => e = .returned (.bool true) ∧ Below wd.heap.size wd w' ∧ w'.cell? ⟨w1.heap.size, 1, none⟩ = some av6 ∧ w'.cell? ⟨w6.heap.size, 0, none⟩ = some (.int .i64 0) ∧ w'.cell? ⟨w6.heap.size, 1, none⟩ = some (.bool s'.ln.last) ∧ w'.cell? ⟨w6.heap.size, 2, none⟩ = some (.int .i64 (s'.ln.no : Int)) ∧ w'.cell? ⟨w6.heap.size, 3, none⟩ = some (.int .i64 (s'.ln.pl : Int)) ∧ w'.cell? ⟨w6.heap.size, 4, none⟩ = some (.bool s'.ln.fresh) ∧ w'.cell? ⟨w6.heap.size, 5, none⟩ = some (.bool s'.passed) ∧ w'.cell? ⟨w6.heap.size, 6, none⟩ = some (.string s'.ln.data) ∧ w'.cell? ⟨w6.heap.size, 7, none⟩ = some (.int .i64 (s'.asked : Int)) ∧ w'.cell? ⟨w6.heap.size, 8, none⟩ = some (.string x1) ∧ w'.cell? ⟨w6.heap.size, 9, none⟩ = some (.bool x2) ∧ w'.cell? ⟨w6.heap.size, 10, none⟩ = some (.bool fd) ∧ w'.cell? ⟨w7.heap.size, 0, none⟩ = some (.string x1) ∧ w'.cell? ⟨w7.heap.size, 1, none⟩ = some (.bool x2)) := fun V hb => by
                have := same_any V (K10.out.still hb) s'.asked (x1, x2) fd
                rw [HYN.out] at this
                exact this.mono fun e w' ⟨he, hb'⟩ => ⟨he, HC9.out w' (below_up hb hb' (Nat.le_refl _))⟩
              have s0 := HC9.out wd.drew (below_drewN (Below.refl _ _) 1)
              clear hst hsa hv6 ho6 hlt6 hlt7 hwd K9 K8 K7 K6 HS7 z70
              go_region_held3 (fun w' => Below wd.heap.size wd w' ∧ w'.cell? ⟨w1.heap.size, 1, none⟩ = some av6 ∧ w'.cell? ⟨w6.heap.size, 0, none⟩ = some (.int .i64 0) ∧ w'.cell? ⟨w6.heap.size, 1, none⟩ = some (.bool s'.ln.last) ∧ w'.cell? ⟨w6.heap.size, 2, none⟩ = some (.int .i64 (s'.ln.no : Int)) ∧ w'.cell? ⟨w6.heap.size, 3, none⟩ = some (.int .i64 (s'.ln.pl : Int)) ∧ w'.cell? ⟨w6.heap.size, 4, none⟩ = some (.bool s'.ln.fresh) ∧ w'.cell? ⟨w6.heap.size, 5, none⟩ = some (.bool s'.passed) ∧ w'.cell? ⟨w6.heap.size, 6, none⟩ = some (.string s'.ln.data) ∧ w'.cell? ⟨w6.heap.size, 7, none⟩ = some (.int .i64 (s'.asked : Int)) ∧ w'.cell? ⟨w6.heap.size, 8, none⟩ = some (.string x1) ∧ w'.cell? ⟨w6.heap.size, 9, none⟩ = some (.bool x2) ∧ w'.cell? ⟨w6.heap.size, 10, none⟩ = some (.bool fd) ∧ w'.cell? ⟨w7.heap.size, 0, none⟩ = some (.string x1) ∧ w'.cell? ⟨w7.heap.size, 1, none⟩ = some (.bool x2)) ((first | exact s0 | exact l9)) (first
                | (go_at_call 15; refine Calls.mono (HSa.out _ (by first | exact l9.1 | exact s0.1)) ?_; rintro e wn ⟨rfl, l9⟩)
                | (go_at_call 13; refine Calls.mono (HAs.out _ (by first | exact l9.1 | exact s0.1)) ?_; rintro e wn ⟨rfl, l9⟩))
              all_goals
                have K11 : Hid (Oc w (w1.heap.size + 1) w1.heap.size T sep [] ta tc s' wn) := K10.out.still l9.1
                clear l9
                go_wp2_with fail
                go_roundw
                case rel => exact ⟨t + 1, s', by go_num, by go_num, K11, HCN, HVN⟩
                case measure => simp [intOf]; omega
            · have hty := hty0
              obtain ⟨hX, h4⟩ := In.take_bad (sep := sep) HC.out hrn hty
              obtain ⟨s', hs'⟩ : ∃ s', In.tkS T s = s' := ⟨_, rfl⟩
              rw [hs'] at hX h4 hty
              obtain ⟨K, hK⟩ := h4.bhE (sep := sep)
              obtain ⟨⟨m1, m2⟩, hm⟩ : ∃ li, In.lin T (t + 1) = li := ⟨_, rfl⟩
              obtain ⟨fd, hfd⟩ : ∃ fd, decide (t + 1 < (In.ls T).length) = fd := ⟨_, rfl⟩
              obtain ⟨y, hyy⟩ : ∃ y, s'.why = y := ⟨_, rfl⟩
              have ky : (y != 0) = true := by rw [← hyy]; simp [hty]
              have HCN : Hid (In.Cur T (t + 1) s') := h4
              have HYN : Hid (s'.why = y) := hyy
              have HRN : Hid (s'.rest.data.toList = []) := (h4.rel.bad hty).2.1
              have HB1 : Hid (∀ wx, Tls wx ta tc T → Calls Try.prog 10 #[.slice ta T.length tc, .int .i64 ((t : Int) + 1), .bool sep] wx fun e w' => e = .returned (.agg #[.int .i64 y, .bool K.last, .int .i64 (K.no : Int), .int .i64 (K.pl : Int), .bool K.fresh, .bool s'.passed, .string K.data, .int .i64 (s'.asked : Int), .string m1, .bool m2, .bool fd]) ∧ Below wx.heap.size wx w') := fun wx hx => by
                have := behind_any ta tc T sep (t + 1) wx hx (by omega) hz htL2
                rw [HEC.out, hK, hm, hfd, hyy] at this
                exact this
              have HTk : Hid (∀ N wx, Oc w (w1.heap.size + 1) w1.heap.size T sep N ta tc s wx → Calls Try.prog 11 #[.pointer (some ⟨w1.heap.size + 1, 0, none⟩)] wx fun e w' => e = .returned (.tuple #[.agg #[.string ⟨#[]⟩, .bool false], .bool false, .int .i64 y]) ∧ Oc w (w1.heap.size + 1) w1.heap.size T sep N ta tc s' w' ∧ Kp N wx w') := fun N wx hx => by
                have := HT0.out N wx hx
                rw [hX] at this
                rw [← hyy]
                exact this
              have hel := fun wx => line_eql ⟨#[]⟩ ⟨#[]⟩ false false wx
              clear h4 hty hrn HT0 hX hs' hK hm hyy

              go_wp2_with (first
                | (go_at_call 10; refine Calls.mono (HB1.out _ K7.out.told) ?_; rintro e w6 ⟨rfl, hb6⟩; (have K8 : Hid _ := (K7.out.still hb6).alloc (.cells #[.int .i64 y, .bool K.last, .int .i64 (K.no : Int), .int .i64 (K.pl : Int), .bool K.fresh, .bool s'.passed, .string K.data, .int .i64 (s'.asked : Int), .string m1, .bool m2, .bool fd] 36)); (clear hb6))
                | (go_at_call 11; refine Calls.mono (HTk.out _ _ K8.out) ?_; rintro e w7 ⟨rfl, h7, hk7⟩; (have HS7 : Hid (w7.heap[w6.heap.size]? = some (.cells #[.int .i64 y, .bool K.last, .int .i64 (K.no : Int), .int .i64 (K.pl : Int), .bool K.fresh, .bool s'.passed, .string K.data, .int .i64 (s'.asked : Int), .string m1, .bool m2, .bool fd] 36)) := (hk7 _ (List.mem_cons_self ..)).trans (heap_alloc_new w6 _)); (have K9 : Hid _ := h7.less (N' := []) (fun k hk => by cases hk)); (have z70 : w7.cell? ⟨w6.heap.size, 0, none⟩ = some (.int .i64 y) := by rw [cell_of_row w7 _ _ _ _ _ HS7.out]; rfl); (have hl76 : w6.heap.size < w7.heap.size := lt_of_block HS7.out); (have n76 : ¬ w6.heap.size = w7.heap.size := Nat.ne_of_lt hl76); (clear h7 hk7)))
              obtain ⟨wd, hwd⟩ : ∃ wd, wd = w7.alloc (.cells #[.string ⟨#[]⟩, .bool false] 34) := ⟨_, rfl⟩
              have K10 : Hid (Oc w (w1.heap.size + 1) w1.heap.size T sep [] ta tc s' wd) := by rw [hwd]; exact K9.out.still (alloc_below w7 _)
              have hst : wd.heap[w6.heap.size]? = some (.cells (In.bhA y K s'.passed s'.asked (m1, m2) fd) 36) := by rw [hwd, heap_alloc_old _ _ hl76]; exact HS7.out
              have hsa : wd.heap[w7.heap.size]? = some (.cells #[.string ⟨#[]⟩, .bool false] 34) := by rw [hwd]; exact heap_alloc_new w7 _
              rw [← hwd]
              obtain ⟨av6, hv6, ho6⟩ := K10.out.asks
              have hgs6 := K10.out.gs_lt
              have hlt6 : w6.heap.size < wd.heap.size := lt_of_block hst
              have hlt7 : w7.heap.size < wd.heap.size := lt_of_block hsa
              have HC9 : Hid (∀ w', Below wd.heap.size wd w' → Below wd.heap.size wd w' ∧ w'.cell? ⟨w1.heap.size, 1, none⟩ = some av6 ∧ w'.cell? ⟨w6.heap.size, 0, none⟩ = some (.int .i64 y) ∧ w'.cell? ⟨w6.heap.size, 7, none⟩ = some (.int .i64 (s'.asked : Int)) ∧ w'.cell? ⟨w7.heap.size, 0, none⟩ = some (.string ⟨#[]⟩) ∧ w'.cell? ⟨w7.heap.size, 1, none⟩ = some (.bool false)) := fun w' hb => by
                obtain ⟨z0, z1, z2, z3, z4, z5, z6, z7, z8, z9, z10⟩ := bh_cells hst
                obtain ⟨q0, q1⟩ := line_cells hsa
                have e6 : ∀ j, w'.cell? ⟨w6.heap.size, j, none⟩ = wd.cell? ⟨w6.heap.size, j, none⟩ := fun j => hb.cell (p := ⟨w6.heap.size, j, none⟩) hlt6
                have e7 : ∀ j, w'.cell? ⟨w7.heap.size, j, none⟩ = wd.cell? ⟨w7.heap.size, j, none⟩ := fun j => hb.cell (p := ⟨w7.heap.size, j, none⟩) hlt7
                exact ⟨hb, (hb.cell (p := ⟨w1.heap.size, 1, none⟩) hgs6).trans hv6, (e6 0).trans z0, (e6 7).trans z7, (e7 0).trans q0, (e7 1).trans q1⟩
              have HAs : Hid (∀ V, Below wd.heap.size wd V → Calls Try.prog 13 #[av6, .int .i64 (s'.asked : Int)] V fun e w' => e = .returned (.bool true) ∧ Below wd.heap.size wd w' ∧ w'.cell? ⟨w1.heap.size, 1, none⟩ = some av6 ∧ w'.cell? ⟨w6.heap.size, 0, none⟩ = some (.int .i64 y) ∧ w'.cell? ⟨w6.heap.size, 7, none⟩ = some (.int .i64 (s'.asked : Int)) ∧ w'.cell? ⟨w7.heap.size, 0, none⟩ = some (.string ⟨#[]⟩) ∧ w'.cell? ⟨w7.heap.size, 1, none⟩ = some (.bool false)) := fun V hb => by
                have := asked_any av6 s'.asked (s'.asked : Int) V (own_keep ho6 (fun b e => hb.block b (own_lt ho6 e))) (by have := HCN.out.rel.le; omega)
                refine this.mono fun e w' ⟨he, k, hw⟩ => ⟨by rw [he]; simp, HC9.out w' ?_⟩
                rw [hw]
                exact below_drewN hb k

              have HEr : Hid (∀ V, Below wd.heap.size wd V → Calls Try.prog 12 #[.pointer (some ⟨w1.heap.size + 1, 0, none⟩)] V fun e w' => e = .returned (.int .i64 y) ∧ Below wd.heap.size wd w' ∧ w'.cell? ⟨w1.heap.size, 1, none⟩ = some av6 ∧ w'.cell? ⟨w6.heap.size, 0, none⟩ = some (.int .i64 y) ∧ w'.cell? ⟨w6.heap.size, 7, none⟩ = some (.int .i64 (s'.asked : Int)) ∧ w'.cell? ⟨w7.heap.size, 0, none⟩ = some (.string ⟨#[]⟩) ∧ w'.cell? ⟨w7.heap.size, 1, none⟩ = some (.bool false)) := fun V hb => by
                refine (K10.out.still hb).err.mono fun e w' ⟨he, hw⟩ => ⟨by rw [he, HYN.out], HC9.out w' ?_⟩
                rw [← hw]
                exact hb
              have HAg : Hid (∀ V, Below wd.heap.size wd V → Calls Try.prog 14 #[.pointer (some ⟨w1.heap.size + 1, 0, none⟩), .int .i64 y] V fun e w' => e = .returned (.bool true) ∧ Below wd.heap.size wd w' ∧ w'.cell? ⟨w1.heap.size, 1, none⟩ = some av6 ∧ w'.cell? ⟨w6.heap.size, 0, none⟩ = some (.int .i64 y) ∧ w'.cell? ⟨w6.heap.size, 7, none⟩ = some (.int .i64 (s'.asked : Int)) ∧ w'.cell? ⟨w7.heap.size, 0, none⟩ = some (.string ⟨#[]⟩) ∧ w'.cell? ⟨w7.heap.size, 1, none⟩ = some (.bool false)) := fun V hb => by
                have := again_any V (K10.out.still hb) HRN.out
                rw [HYN.out] at this
                exact this.mono fun e w' ⟨he, hb'⟩ => ⟨he, HC9.out w' (below_up hb hb' (Nat.le_refl _))⟩
              have HBd : Hid (Below w.heap.size w wd) := K10.out.below
              have s0 := HC9.out wd.drew (below_drewN (Below.refl _ _) 1)
              clear hst hsa hv6 ho6 hlt6 hlt7 hwd K9 K8 K7 K6 HS7 z70
              go_region_held3 (fun w' => Below wd.heap.size wd w' ∧ w'.cell? ⟨w1.heap.size, 1, none⟩ = some av6 ∧ w'.cell? ⟨w6.heap.size, 0, none⟩ = some (.int .i64 y) ∧ w'.cell? ⟨w6.heap.size, 7, none⟩ = some (.int .i64 (s'.asked : Int)) ∧ w'.cell? ⟨w7.heap.size, 0, none⟩ = some (.string ⟨#[]⟩) ∧ w'.cell? ⟨w7.heap.size, 1, none⟩ = some (.bool false)) ((first | exact s0 | exact l9)) (first
                | (go_at_call 12; refine Calls.mono (HEr.out _ (by first | exact l9.1 | exact s0.1)) ?_; rintro e wn ⟨rfl, l9⟩)
                | (go_at_call 13; refine Calls.mono (HAs.out _ (by first | exact l9.1 | exact s0.1)) ?_; rintro e wn ⟨rfl, l9⟩)
                | (go_at_call 14; refine Calls.mono (HAg.out _ (by first | exact l9.1 | exact s0.1)) ?_; rintro e wn ⟨rfl, l9⟩))
              all_goals
                go_wp2_with fail
                go_ret
                exact ⟨by simp, below_up HBd.out l9.1 (Nat.le_refl _)⟩
      · obtain ⟨y, hyy⟩ : ∃ y, s.why = y := ⟨_, rfl⟩
        have HY : Hid (s.why = y) := hyy
        have ky : (y != 0) = true := by rw [← hyy]; simp [hy]
        have HRn : Hid (s.rest.data.toList = []) := (HC.out.rel.bad hy).2.1
        have HFD : Hid (decide (t < (In.ls T).length) = false) := decide_eq_false (by have := (HC.out.rel.bad hy).1; omega)
        clear hy hyy
        have HB0 : Hid (∀ wx, Tls wx ta tc T → Calls Try.prog 10 #[.slice ta T.length tc, .int .i64 (t : Int), .bool sep] wx fun e w' => e = .returned (.agg #[.int .i64 y, .bool s.ln.last, .int .i64 (s.ln.no : Int), .int .i64 (s.ln.pl : Int), .bool s.ln.fresh, .bool s.passed, .string s.ln.data, .int .i64 (s.asked : Int), .string l1, .bool l2, .bool false]) ∧ Below wx.heap.size wx w') := fun wx hx => by
          have := behind_any ta tc T sep t wx hx (by omega) hz htL
          rw [HC.out.bh HV.out, HLI.out, HFD.out, HY.out] at this
          exact this

        go_wp2_with (go_at_call 10; refine Calls.mono (HB0.out _ HO.out.told) ?_; rintro e w5 ⟨rfl, hb5⟩; (have K6 : Hid _ := HO.out.still hb5); (obtain ⟨av, hav, how⟩ := K6.out.asks); (obtain ⟨aa, cc, hv⟩ := own_slice how); (subst hv); (have hg5 := K6.out.gs_lt); (have n5 : ¬ w1.heap.size = w5.heap.size := Nat.ne_of_lt hg5); (clear hb5 how))
        go_quiet (fail)

        have K7 : Hid (Oc w (w1.heap.size + 1) w1.heap.size T sep [] ta tc s ((w5.alloc (.cells #[.int .i64 y, .bool s.ln.last, .int .i64 (s.ln.no : Int), .int .i64 (s.ln.pl : Int), .bool s.ln.fresh, .bool s.passed, .string s.ln.data, .int .i64 (s.asked : Int), .string l1, .bool l2, .bool false] 36)).drewN nq)) := (K6.out.still (alloc_below w5 _)).still (below_drewN (Below.refl _ _) nq)
        go_wp2_with (go_at_call 10; refine Calls.mono (HB0.out _ K7.out.told) ?_; rintro e w6 ⟨rfl, hb6⟩; (have K8 : Hid _ := (K7.out.still hb6).still (alloc_below w6 (.cells #[.int .i64 y, .bool s.ln.last, .int .i64 (s.ln.no : Int), .int .i64 (s.ln.pl : Int), .bool s.ln.fresh, .bool s.passed, .string s.ln.data, .int .i64 (s.asked : Int), .string l1, .bool l2, .bool false] 36))); (clear hb6))
        obtain ⟨wd, hwd⟩ : ∃ wd, wd = w6.alloc (.cells #[.int .i64 y, .bool s.ln.last, .int .i64 (s.ln.no : Int), .int .i64 (s.ln.pl : Int), .bool s.ln.fresh, .bool s.passed, .string s.ln.data, .int .i64 (s.asked : Int), .string l1, .bool l2, .bool false] 36) := ⟨_, rfl⟩
        have hst : wd.heap[w6.heap.size]? = some (.cells (In.bhA y s.ln s.passed s.asked (l1, l2) false) 36) := by rw [hwd]; exact heap_alloc_new w6 _
        rw [← hwd] at K8
        rw [← hwd]
        obtain ⟨av6, hv6, ho6⟩ := K8.out.asks
        have hgs6 := K8.out.gs_lt
        have hlt6 : w6.heap.size < wd.heap.size := lt_of_block hst
        have HC9 : Hid (∀ w', Below wd.heap.size wd w' → Below wd.heap.size wd w' ∧ w'.cell? ⟨w1.heap.size, 1, none⟩ = some av6 ∧ w'.cell? ⟨w6.heap.size, 0, none⟩ = some (.int .i64 y) ∧ w'.cell? ⟨w6.heap.size, 7, none⟩ = some (.int .i64 (s.asked : Int)) ∧ w'.cell? ⟨w6.heap.size, 10, none⟩ = some (.bool false)) := fun w' hb => by
          obtain ⟨z0, _, _, _, _, _, _, z7, _, _, z10⟩ := bh_cells hst
          exact ⟨hb, (hb.cell (p := ⟨w1.heap.size, 1, none⟩) hgs6).trans hv6, (hb.cell (p := ⟨w6.heap.size, 0, none⟩) hlt6).trans z0, (hb.cell (p := ⟨w6.heap.size, 7, none⟩) hlt6).trans z7, (hb.cell (p := ⟨w6.heap.size, 10, none⟩) hlt6).trans z10⟩
        have HAs : Hid (∀ V, Below wd.heap.size wd V → Calls Try.prog 13 #[av6, .int .i64 (s.asked : Int)] V fun e w' => e = .returned (.bool true) ∧ Below wd.heap.size wd w' ∧ w'.cell? ⟨w1.heap.size, 1, none⟩ = some av6 ∧ w'.cell? ⟨w6.heap.size, 0, none⟩ = some (.int .i64 y) ∧ w'.cell? ⟨w6.heap.size, 7, none⟩ = some (.int .i64 (s.asked : Int)) ∧ w'.cell? ⟨w6.heap.size, 10, none⟩ = some (.bool false)) := fun V hb => by
          have := asked_any av6 s.asked (s.asked : Int) V (own_keep ho6 (fun b e => hb.block b (own_lt ho6 e))) (by have := HC.out.rel.le; omega)
          refine this.mono fun e w' ⟨he, k, hw⟩ => ⟨by rw [he]; simp, HC9.out w' ?_⟩
          rw [hw]
          exact below_drewN hb k
        have HEr : Hid (∀ V, Below wd.heap.size wd V → Calls Try.prog 12 #[.pointer (some ⟨w1.heap.size + 1, 0, none⟩)] V fun e w' => e = .returned (.int .i64 y) ∧ Below wd.heap.size wd w' ∧ w'.cell? ⟨w1.heap.size, 1, none⟩ = some av6 ∧ w'.cell? ⟨w6.heap.size, 0, none⟩ = some (.int .i64 y) ∧ w'.cell? ⟨w6.heap.size, 7, none⟩ = some (.int .i64 (s.asked : Int)) ∧ w'.cell? ⟨w6.heap.size, 10, none⟩ = some (.bool false)) := fun V hb => by
          refine (K8.out.still hb).err.mono fun e w' ⟨he, hw⟩ => ⟨by rw [he, HY.out], HC9.out w' ?_⟩
          rw [← hw]
          exact hb

        have HAg : Hid (∀ V, Below wd.heap.size wd V → Calls Try.prog 14 #[.pointer (some ⟨w1.heap.size + 1, 0, none⟩), .int .i64 y] V fun e w' => e = .returned (.bool true) ∧ Below wd.heap.size wd w' ∧ w'.cell? ⟨w1.heap.size, 1, none⟩ = some av6 ∧ w'.cell? ⟨w6.heap.size, 0, none⟩ = some (.int .i64 y) ∧ w'.cell? ⟨w6.heap.size, 7, none⟩ = some (.int .i64 (s.asked : Int)) ∧ w'.cell? ⟨w6.heap.size, 10, none⟩ = some (.bool false)) := fun V hb => by
          have := again_any V (K8.out.still hb) HRn.out
          rw [HY.out] at this
          exact this.mono fun e w' ⟨he, hb'⟩ => ⟨he, HC9.out w' (below_up hb hb' (Nat.le_refl _))⟩

        have HBd : Hid (Below w.heap.size w wd) := K8.out.below
        have s0 := HC9.out wd.drew (below_drewN (Below.refl _ _) 1)
        clear hst hv6 ho6 hlt6 hwd K8 K7
        go_region_held3 (fun w' => Below wd.heap.size wd w' ∧ w'.cell? ⟨w1.heap.size, 1, none⟩ = some av6 ∧ w'.cell? ⟨w6.heap.size, 0, none⟩ = some (.int .i64 y) ∧ w'.cell? ⟨w6.heap.size, 7, none⟩ = some (.int .i64 (s.asked : Int)) ∧ w'.cell? ⟨w6.heap.size, 10, none⟩ = some (.bool false)) ((first | exact s0 | exact l9)) (first
          | (go_at_call 13; refine Calls.mono (HAs.out _ (by first | exact s0.1 | exact l9.1 | (rename_i hh; exact hh.1))) ?_; rintro e wn ⟨rfl, l9⟩)
          | (go_at_call 12; refine Calls.mono (HEr.out _ (by first | exact l9.1 | exact s0.1)) ?_; rintro e wn ⟨rfl, l9⟩))
        all_goals
          obtain ⟨hb9, c91, c90, c97, c910⟩ := l9
          go_wp2_with fail

          have s1 := HC9.out wn.drew (below_drewN hb9 1)
          clear c91 c90 c97 c910
          go_region_held3 (fun w' => Below wd.heap.size wd w' ∧ w'.cell? ⟨w1.heap.size, 1, none⟩ = some av6 ∧ w'.cell? ⟨w6.heap.size, 0, none⟩ = some (.int .i64 y) ∧ w'.cell? ⟨w6.heap.size, 7, none⟩ = some (.int .i64 (s.asked : Int)) ∧ w'.cell? ⟨w6.heap.size, 10, none⟩ = some (.bool false)) ((first | exact s1 | exact l8)) (first
            | (go_at_call 14; refine Calls.mono (HAg.out _ (by first | exact s1.1 | exact l8.1)) ?_; rintro e wm ⟨rfl, l8⟩)
            | (go_at_call 13; refine Calls.mono (HAs.out _ (by first | exact l8.1 | exact s1.1)) ?_; rintro e wm ⟨rfl, l8⟩))
          all_goals
            go_wp2_with fail
            go_ret
            exact ⟨by simp, below_up HBd.out l8.1 (Nat.le_refl _)⟩
end Go.Proofs.Ythmofbcjhfcokaa
