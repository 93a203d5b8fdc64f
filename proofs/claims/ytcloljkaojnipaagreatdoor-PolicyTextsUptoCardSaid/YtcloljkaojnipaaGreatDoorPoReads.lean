/- What policy.readers answers. -/
import Derived.Test.YtcloljkaojnipaaGreatDoorPgH
import Derived.Test.YtcloljkaojnipaaGreatDoorPoCheck
namespace Go.Proofs.YtcloljkaojnipaaGreatDoor
open Go.RowKit

theorem calls_pathReader (args : Array Value) (wx : World) : (callFunc 73 args).run Tryz.prog wx = .ok (.enter 73 args) wx := by go_simp
theorem run_nil {ev : Operand → Value} {w : World} {d : Option Tmp} {x : Operand} {t : TypeId} {pos : String} {af : Array Edge} {g o : Nat} (hx : ev x = .pointer (some ⟨g, o, none⟩)) :
    (execOp ev ⟨d, .nilCheck x, t, pos, af, none⟩).run Tryz.prog w = .ok (.value (.pointer (some ⟨g, o, none⟩))) w := by go_simp
theorem run_field0 {ev : Operand → Value} {w : World} {d : Option Tmp} {x : Operand} {t : TypeId} {pos : String} {af : Array Edge} {g : Nat} (hx : ev x = pt g) :
    (execOp ev ⟨d, .fieldAddr 24 x 0, t, pos, af, none⟩).run Tryz.prog w = .ok (.value (.pointer (some ⟨g, 0, none⟩))) w := by go_simp
theorem run_field1 {ev : Operand → Value} {w : World} {d : Option Tmp} {x : Operand} {t : TypeId} {pos : String} {af : Array Edge} {g : Nat} (hx : ev x = pt g) :
    (execOp ev ⟨d, .fieldAddr 24 x 1, t, pos, af, none⟩).run Tryz.prog w = .ok (.value (.pointer (some ⟨g, 1, none⟩))) w := by go_simp
theorem run_makeMap' {ev : Operand → Value} {w : World} {d : Option Tmp} {t : TypeId} {pos : String} {af : Array Edge} :
    (execOp ev ⟨d, .makeMap 61 none, t, pos, af, none⟩).run Tryz.prog w = .ok (.value (.map (some w.heap.size))) (w.alloc (.map #[] 0)) := by
  simp [execOp, run_makeMap, Result.andThen]
theorem wpOp_ins {ops : Array Oper} {Q : Exit → Act → World → Prop} {i : Nat} {a : Act} {w : World} {K : Act → World → Prop} {x k y : Operand} {t : TypeId} {pos : String} {af : Array Edge} {m n : Nat} {F : List UInt8 → Option Value} {s : ByteArray} {v : Value}
    (ho : ops[i]? = some ⟨none, .insert 61 x k y, t, pos, af, none⟩) (hx : a.eval x = .map (some m)) (hk : a.eval k = .string s) (hy : a.eval y = v) (hm : MapIs w m n F) (hn : n < maxLen) (hs : s.size ≤ maxLen)
    (hK : ∀ w', MapIs w' m (n + 1) (fun k => if k = s.data.toList then some v else F k) → w.mapTurned w' m → K (a.put none undef) w') : wpOp Tryz.prog ops Q i K a w := by
  obtain ⟨w', hr, h1, h2⟩ := hm.store s v hn hs
  exact wpOp_skip (d := none) ho rfl rfl (by simp [execOp, hx, hk, hy, hr, Result.andThen]) (hK w' h1 h2)

theorem RL.under {N pg m bR bW k n : Nat} {qb tb : Nat → Nat} {w0 w w' : World} (h : RL N pg m bR bW k n qb tb w0 w) (hb : Below w.heap.size w w') : RL N pg m bR bW k n qb tb w0 w' :=
  ⟨h.mp.under (hb.block m h.mp.lt), h.mN, h.nb, (hb.block _ (lt_of_block h.r)).trans h.r, (hb.block _ (lt_of_block h.s)).trans h.s, h.rN, h.sN, fun i hi => (hb.block _ (lt_of_block (h.q i hi))).trans (h.q i hi), fun i hi => (hb.block _ (lt_of_block (h.t i hi))).trans (h.t i hi), h.qN, h.tN, h.tt, h.bel.trans (hb.mono h.hN), Nat.le_trans h.hN hb.size⟩
theorem RL.next' {N pg m bR bW k n : Nat} {qb tb : Nat → Nat} {w0 w W w5 : World} {s : ByteArray} {o : Nat} {mo : Int} (h : RL N pg m bR bW k n qb tb w0 w) (hW : Below w.heap.size w W) (g : Nat) (hg : W.heap.size = g) (hk : k < 4) (hs : s = ⟨(Pl.wordL k).toArray⟩) (ho : o = 2 + k) (hm : mo = (Pl.mostN k : Nat))
    (h5 : w5 = (W.alloc (.cells #[.string s, .pointer (some ⟨pg, o, none⟩), .int .i64 mo] 52)).alloc (.cells #[.bool false] 4)) :
    ∃ w3 qb' tb', (Instr.mapUpdate 61 (.map (some m)) (.string s) (numV g (g + 1))).run Tryz.prog w5 = .ok () w3 ∧ RL N pg m bR bW (k + 1) (n + 1) qb' tb' w0 w3 := by
  subst hs ho hm
  exact h.next hW g hg hk h5
theorem numberReader_h (s : ByteArray) (g o : Nat) (n : Int) (w : World) :
    Calls Tryz.prog 74 #[.agg #[.string s, .pointer (some ⟨g, o, none⟩), .int .i64 n]] w fun e w' => e = .returned (.func (.func 93) #[] #[.pointer (some ⟨w.heap.size, 0, none⟩), .pointer (some ⟨w.heap.size + 1, 0, none⟩)]) ∧
      Hid (w' = (w.alloc (.cells #[.string s, .pointer (some ⟨g, o, none⟩), .int .i64 n] 52)).alloc (.cells #[.bool false] 4)) := numberReader_any s g o n w

set_option maxRecDepth 100000 in
set_option maxHeartbeats 4000000 in
theorem readers_any (pg : Nat) (w : World) (_hp : pg < w.heap.size) :
    Calls Tryz.prog 44 #[.pointer (some ⟨pg, 0, none⟩)] w fun e w' => ∃ m n bR bW qb tb, e = .returned (.map (some m)) ∧ RL w.heap.size pg m bR bW 4 n qb tb w w' := by
  go_enter Tryz.func44, Tryz.ntmps44
  go_upto_region 1 with fail
  go_cut [3] (fun v wx => ∃ m n bR bW qb tb, v = .map (some m) ∧ RL w.heap.size pg m bR bW 0 n qb tb w wx)
  case first =>
    refine wp_region_inv' (fun a0 listed a wx => RJ w.heap.size pg w a0 listed a wx) (by kernel_rfl) (by kernel_rfl) ?_ ?_ ?_
    · exact ⟨Fr.refl _ _, rfl, rfl, ⟨rfl, rfl, rfl, Nat.le_refl _, fun _ _ => rfl⟩, Nat.le_refl _, Slots.new _ _ _, by rw [leftOf_new]; exact Nat.le_refl _, fun h => absurd h (up_new _ _), fun h => absurd h (up_new _ _), fun h => absurd h (up_new _ _), fun h => absurd h (up_new _ _), fun h => absurd h (up_new _ _), fun h => absurd h (up_new _ _), fun h => absurd h (up_new _ _)⟩
    · intro listed a wx i h hi
      have hlt : i < 13 := by
        obtain ⟨_, o, ho, _⟩ := mem_ready.1 hi
        have := (Array.getElem?_eq_some_iff.1 ho).1
        simpa using this
      obtain rfl | rfl | rfl | rfl | rfl | rfl | rfl | rfl | rfl | rfl | rfl | rfl | rfl : i = 0 ∨ i = 1 ∨ i = 2 ∨ i = 3 ∨ i = 4 ∨ i = 5 ∨ i = 6 ∨ i = 7 ∨ i = 8 ∨ i = 9 ∨ i = 10 ∨ i = 11 ∨ i = 12 := by omega
      · obtain ⟨hun, _⟩ := ready_up hi rfl
        exact wpOp_value (d := some 6) rfl rfl rfl run_makeMap' (h.made hun)
      · obtain ⟨hun, _⟩ := ready_up hi rfl
        exact wpOp_value (d := some 7) rfl rfl rfl (run_move' _) (by rw [h.e0]; exact h.step hun (by decide) (by decide) (by decide) (by simp [rdT]))
      · obtain ⟨hun, haf⟩ := ready_up hi rfl
        have L1 := haf ⟨1, .data⟩ (by simp) rfl
        have ev : a.eval (.tmp 7) = pt pg := h.sl (1, 7, pt pg) (by simp [rdT]) L1
        exact wpOp_value (d := some 8) rfl rfl rfl (run_nil ev) (h.step hun (by decide) (by decide) (by decide) (by simp [rdT]))
      · obtain ⟨hun, haf⟩ := ready_up hi rfl
        have L1 := haf ⟨2, .data⟩ (by simp) rfl
        have ev : a.eval (.tmp 8) = pt pg := h.sl (2, 8, pt pg) (by simp [rdT]) L1
        exact wpOp_value (d := some 9) rfl rfl rfl (run_field0 ev) (h.step hun (by decide) (by decide) (by decide) (by simp [rdT]))
      · obtain ⟨hun, haf⟩ := ready_up hi rfl
        have L1 := haf ⟨3, .data⟩ (by simp) rfl
        have ev : a.eval (.tmp 9) = .pointer (some ⟨pg, 0, none⟩) := h.sl (3, 9, .pointer (some ⟨pg, 0, none⟩)) (by simp [rdT]) L1
        refine wpOp_call (d := some 10) rfl rfl rfl (run_call1 rfl calls_pathReader) ?_
        rw [ev]
        refine (pathReader_any pg 0 wx).mono ?_
        rintro x wy ⟨rfl, rfl⟩
        exact ⟨_, rfl, h.call4 hun⟩
      · obtain ⟨hun, haf⟩ := ready_up hi rfl
        have L0 := haf ⟨0, .data⟩ (by simp) rfl
        have L4 := haf ⟨4, .data⟩ (by simp) rfl
        obtain ⟨m, n, h1, h2, h3, h4⟩ := h.mp L0
        exact wpOp_ins (s := ⟨#[114, 101, 97, 100]⟩) rfl h1 rfl rfl h4 (by unfold maxLen; omega) (by decide) (fun w' h5 ht => h.ins5 hun L0 L4 h1 h2 h3 h4 h5 ht _)
      · obtain ⟨hun, _⟩ := ready_up hi rfl
        exact wpOp_value (d := some 11) rfl rfl rfl (run_move' _) (by rw [h.e0]; exact h.step hun (by decide) (by decide) (by decide) (by simp [rdT]))
      · obtain ⟨hun, haf⟩ := ready_up hi rfl
        have L1 := haf ⟨6, .data⟩ (by simp) rfl
        have ev : a.eval (.tmp 11) = pt pg := h.sl (6, 11, pt pg) (by simp [rdT]) L1
        exact wpOp_value (d := some 12) rfl rfl rfl (run_nil ev) (h.step hun (by decide) (by decide) (by decide) (by simp [rdT]))
      · obtain ⟨hun, haf⟩ := ready_up hi rfl
        have L1 := haf ⟨7, .data⟩ (by simp) rfl
        have ev : a.eval (.tmp 12) = pt pg := h.sl (7, 12, pt pg) (by simp [rdT]) L1
        exact wpOp_value (d := some 13) rfl rfl rfl (run_field1 ev) (h.step hun (by decide) (by decide) (by decide) (by simp [rdT]))
      · obtain ⟨hun, haf⟩ := ready_up hi rfl
        have L1 := haf ⟨8, .data⟩ (by simp) rfl
        have ev : a.eval (.tmp 13) = .pointer (some ⟨pg, 1, none⟩) := h.sl (8, 13, .pointer (some ⟨pg, 1, none⟩)) (by simp [rdT]) L1
        refine wpOp_call (d := some 14) rfl rfl rfl (run_call1 rfl calls_pathReader) ?_
        rw [ev]
        refine (pathReader_any pg 1 wx).mono ?_
        rintro x wy ⟨rfl, rfl⟩
        exact ⟨_, rfl, h.call9 hun⟩
      · obtain ⟨hun, haf⟩ := ready_up hi rfl
        have L0 := haf ⟨0, .data⟩ (by simp) rfl
        have L4 := haf ⟨9, .data⟩ (by simp) rfl
        obtain ⟨m, n, h1, h2, h3, h4⟩ := h.mp L0
        exact wpOp_ins (s := ⟨#[119, 114, 105, 116, 101]⟩) rfl h1 rfl rfl h4 (by unfold maxLen; omega) (by decide) (fun w' h5 ht => h.ins10 hun L0 L4 h1 h2 h3 h4 h5 ht _)
      · obtain ⟨hun, haf⟩ := ready_up hi rfl
        have L0 := haf ⟨0, .data⟩ (by simp) rfl
        exact wpOp_value (d := some 15) rfl rfl rfl (run_move' _) (h.mv11 hun L0 rfl)
      · obtain ⟨hun, haf⟩ := ready_up hi rfl
        have L11 := haf ⟨11, .data⟩ (by simp) rfl
        exact wpOp_value (d := some 3) rfl rfl rfl (run_assign' _) (h.mv12 hun (h.out L11).1 (h.out L11).2)
    · intro listed a wx h hup
      obtain ⟨u0, u1⟩ := h.out2 (hup 12 (by simp))
      obtain ⟨m, n, h1, h2, h3, h4⟩ := h.mp u0
      obtain ⟨gR, r1, r2, r3⟩ := h.rb (hup 4 (by simp))
      obtain ⟨gW, s1, s2, s3⟩ := h.wb (hup 9 (by simp))
      have e0 : a.eval (.tmp 3) = .map (some m) := u1.trans h1
      have hf : n ≤ 13 := by omega
      have hrl : RL w.heap.size pg m gR gW 0 n (fun _ => 0) (fun _ => 0) w wx := by
        refine ⟨mapIs_congr h4 (fun k => ?_), h2, by omega, r3, s3, r2, s2, fun i hi => absurd hi (by omega), fun i hi => absurd hi (by omega), fun i hi => absurd hi (by omega), fun i hi => absurd hi (by omega), fun i j hi => absurd hi (by omega), h.bel, h.hN⟩
        unfold rdG
        rw [show listed.getD 5 false = true from hup 5 (by simp), show listed.getD 10 false = true from hup 10 (by simp), r1, s1]
        rfl
      have hae := h.fr.eq (fun d hd => rdS_lt d hd)
      rw [hae]
      simp only [rdS, List.foldl_cons, List.foldl_nil, e0, Act.put, List.setIfInBounds_toArray, List.set_cons_zero, List.set_cons_succ]
      clear hae h hup u0 u1 h1 h3 h4
      generalize a.eval (.tmp 6) = v6
      generalize a.eval (.tmp 7) = v7
      generalize a.eval (.tmp 8) = v8
      generalize a.eval (.tmp 9) = v9
      generalize a.eval (.tmp 10) = v10
      generalize a.eval (.tmp 11) = v11
      generalize a.eval (.tmp 12) = v12
      generalize a.eval (.tmp 13) = v13
      generalize a.eval (.tmp 14) = v14
      generalize a.eval (.tmp 15) = v15
      go_wp2_with fail
      go_meet
      case rel => exact ⟨m, n, gR, gW, _, _, rfl, hrl⟩
  case rest =>
    obtain ⟨m, n, bR, bW, qb, tb, rfl, hrl⟩ := hcut
    have HR0 : Hid (RL w.heap.size pg m bR bW 0 n qb tb w wc) := hrl
    clear hrl
    go_wp2_with fail
    refine (quotas_any pg wc).mono ?_
    rintro x w2 ⟨rfl, hb⟩
    have HQ : Hid (Below wc.heap.size wc w2) := hb
    clear hb
    simp only [quoV]
    have HR2 : Hid (RL w.heap.size pg m bR bW 0 n qb tb w w2) := HR0.out.under HQ.out
    clear HR0 HQ
    go_wp2_with fail
    go_loopw [5, 18] (fun _ i wr => ∃ (k n : Nat) (qb tb : Nat → Nat), k ≤ 4 ∧ i = .int .i64 k ∧ Hid (RL w.heap.size pg m bR bW k n qb tb w wr)) (fun _ i _ => 4 - (intOf i).toNat)
    case atStart => exact ⟨0, n, qb, tb, by omega, rfl, HR2⟩
    case round =>
      clear HR2
      obtain ⟨k, n, qb, tb, hk, rfl, HRL⟩ := hrel
      obtain rfl | rfl | rfl | rfl | rfl : k = 0 ∨ k = 1 ∨ k = 2 ∨ k = 3 ∨ k = 4 := by omega
      · have rq := quo_at0 pg
        simp only [quoV] at rq
        go_wp2_with fail
        go_region_with (go_at_call 74; refine (numberReader_h _ _ _ _ _).mono ?_; rintro e w5 ⟨rfl, H5⟩; obtain ⟨w3, qb', tb', hrun, hrl⟩ := HRL.out.next' (((Below.refl _ wr).alloc (Nat.le_refl _) _).drew) (wr.heap.size + 1) (by simp) (by decide) rfl rfl rfl H5.out; have hrun : (Instr.mapUpdate 61 (.map (some m)) (.string ⟨#[102, 117, 101, 108]⟩) (.func (.func 93) #[] #[.pointer (some ⟨wr.heap.size + 1, 0, none⟩), .pointer (some ⟨wr.heap.size + 1 + 1, 0, none⟩)])).run Tryz.prog w5 = .ok () w3 := hrun; have HRL3 : Hid _ := hrl; have c5 : w5.cell? ⟨wr.heap.size, 0, none⟩ = some (.string ⟨#[102, 117, 101, 108]⟩) := (by rw [H5.out]; simp [go_sem]); clear hrl H5)
        all_goals
          go_wp2_with fail
          go_roundw
          case rel => exact ⟨1, _, _, _, by omega, by go_num, HRL3⟩
          case measure => simp [intOf]
      · have rq := quo_at1 pg
        simp only [quoV] at rq
        go_wp2_with fail
        go_region_with (go_at_call 74; refine (numberReader_h _ _ _ _ _).mono ?_; rintro e w5 ⟨rfl, H5⟩; obtain ⟨w3, qb', tb', hrun, hrl⟩ := HRL.out.next' (((Below.refl _ wr).alloc (Nat.le_refl _) _).drew) (wr.heap.size + 1) (by simp) (by decide) rfl rfl rfl H5.out; have hrun : (Instr.mapUpdate 61 (.map (some m)) (.string ⟨#[109, 101, 109, 111, 114, 121]⟩) (.func (.func 93) #[] #[.pointer (some ⟨wr.heap.size + 1, 0, none⟩), .pointer (some ⟨wr.heap.size + 1 + 1, 0, none⟩)])).run Tryz.prog w5 = .ok () w3 := hrun; have HRL3 : Hid _ := hrl; have c5 : w5.cell? ⟨wr.heap.size, 0, none⟩ = some (.string ⟨#[109, 101, 109, 111, 114, 121]⟩) := (by rw [H5.out]; simp [go_sem]); clear hrl H5)
        all_goals
          go_wp2_with fail
          go_roundw
          case rel => exact ⟨2, _, _, _, by omega, by go_num, HRL3⟩
          case measure => simp [intOf]
      · have rq := quo_at2 pg
        simp only [quoV] at rq
        go_wp2_with fail
        go_region_with (go_at_call 74; refine (numberReader_h _ _ _ _ _).mono ?_; rintro e w5 ⟨rfl, H5⟩; obtain ⟨w3, qb', tb', hrun, hrl⟩ := HRL.out.next' (((Below.refl _ wr).alloc (Nat.le_refl _) _).drew) (wr.heap.size + 1) (by simp) (by decide) rfl rfl rfl H5.out; have hrun : (Instr.mapUpdate 61 (.map (some m)) (.string ⟨#[111, 117, 116, 112, 117, 116]⟩) (.func (.func 93) #[] #[.pointer (some ⟨wr.heap.size + 1, 0, none⟩), .pointer (some ⟨wr.heap.size + 1 + 1, 0, none⟩)])).run Tryz.prog w5 = .ok () w3 := hrun; have HRL3 : Hid _ := hrl; have c5 : w5.cell? ⟨wr.heap.size, 0, none⟩ = some (.string ⟨#[111, 117, 116, 112, 117, 116]⟩) := (by rw [H5.out]; simp [go_sem]); clear hrl H5)
        all_goals
          go_wp2_with fail
          go_roundw
          case rel => exact ⟨3, _, _, _, by omega, by go_num, HRL3⟩
          case measure => simp [intOf]
      · have rq := quo_at3 pg
        simp only [quoV] at rq
        go_wp2_with fail
        go_region_with (go_at_call 74; refine (numberReader_h _ _ _ _ _).mono ?_; rintro e w5 ⟨rfl, H5⟩; obtain ⟨w3, qb', tb', hrun, hrl⟩ := HRL.out.next' (((Below.refl _ wr).alloc (Nat.le_refl _) _).drew) (wr.heap.size + 1) (by simp) (by decide) rfl rfl rfl H5.out; have hrun : (Instr.mapUpdate 61 (.map (some m)) (.string ⟨#[101, 97, 99, 104]⟩) (.func (.func 93) #[] #[.pointer (some ⟨wr.heap.size + 1, 0, none⟩), .pointer (some ⟨wr.heap.size + 1 + 1, 0, none⟩)])).run Tryz.prog w5 = .ok () w3 := hrun; have HRL3 : Hid _ := hrl; have c5 : w5.cell? ⟨wr.heap.size, 0, none⟩ = some (.string ⟨#[101, 97, 99, 104]⟩) := (by rw [H5.out]; simp [go_sem]); clear hrl H5)
        all_goals
          go_wp2_with fail
          go_roundw
          case rel => exact ⟨4, _, _, _, by omega, by go_num, HRL3⟩
          case measure => simp [intOf]
      · go_wp2_with fail
        go_ret
        exact ⟨m, n, bR, bW, qb, tb, rfl, HRL.out⟩
end Go.Proofs.YtcloljkaojnipaaGreatDoor
