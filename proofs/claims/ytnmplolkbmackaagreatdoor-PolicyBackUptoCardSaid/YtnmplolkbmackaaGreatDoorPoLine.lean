/- What policy.readLine does with a line. -/
import Derived.Test.YtnmplolkbmackaaGreatDoorPoReads
import Derived.Test.YtnmplolkbmackaaGreatDoorPoRdQ
namespace Go.Proofs.YtnmplolkbmackaaGreatDoor
open Go.RowKit

namespace Pl
/-- What a line does: the least rule that it breaks (0: none), and what was read then. -/
def lineR (S : PSt) (l : List UInt8) : Nat × PSt :=
  if (Lib.cut l [32]).2.2 = false then (1, S)
  else if (Lib.cut l [32]).1 = wordL 3 then numR S 3 (Lib.cut l [32]).2.1
  else if (Lib.cut l [32]).1 = wordL 2 then numR S 2 (Lib.cut l [32]).2.1
  else if (Lib.cut l [32]).1 = wordL 1 then numR S 1 (Lib.cut l [32]).2.1
  else if (Lib.cut l [32]).1 = wordL 0 then numR S 0 (Lib.cut l [32]).2.1
  else if (Lib.cut l [32]).1 = readL then ((pathR S.R (Ln.bs (Lib.cut l [32]).2.1)).1, { S with R := (pathR S.R (Ln.bs (Lib.cut l [32]).2.1)).2 })
  else if (Lib.cut l [32]).1 = writeL then ((pathR S.W (Ln.bs (Lib.cut l [32]).2.1)).1, { S with W := (pathR S.W (Ln.bs (Lib.cut l [32]).2.1)).2 })
  else (1, S)
theorem pathR_len {l : List (List ByteArray)} {s : ByteArray} (h : l.length ≤ 1024) : (pathR l s).2.length ≤ 1024 := by
  unfold pathR
  split
  · exact h
  · split
    · exact h
    · split
      · exact h
      · simp; omega
theorem numR_paths (S : PSt) (i : Nat) (l : List UInt8) : (numR S i l).2.R = S.R ∧ (numR S i l).2.W = S.W := by
  unfold numR
  split
  · exact ⟨rfl, rfl⟩
  · split
    · exact ⟨rfl, rfl⟩
    · split <;> exact ⟨rfl, rfl⟩
theorem lineR_len {S : PSt} {l : List UInt8} (h : S.R.length ≤ 1024 ∧ S.W.length ≤ 1024) : (lineR S l).2.R.length ≤ 1024 ∧ (lineR S l).2.W.length ≤ 1024 := by
  have hn : ∀ i x, (numR S i x).2.R.length ≤ 1024 ∧ (numR S i x).2.W.length ≤ 1024 := fun i x => by rw [(numR_paths S i x).1, (numR_paths S i x).2]; exact h
  unfold lineR
  split
  · exact h
  · split
    · exact hn _ _
    · split
      · exact hn _ _
      · split
        · exact hn _ _
        · split
          · exact hn _ _
          · split
            · exact ⟨pathR_len h.1, h.2⟩
            · split
              · exact ⟨h.1, pathR_len h.2⟩
              · exact h
theorem cut_len (l : List UInt8) : (Lib.cut l [32]).1.length ≤ l.length ∧ (Lib.cut l [32]).2.1.length ≤ l.length := by
  unfold Lib.cut
  split
  · simp; omega
  · simp
end Pl
/-- What holds when a line is read. -/
structure Rdy (L : Lo) (S : Pl.PSt) (vR vW : Value) (m n : Nat) (w : World) : Prop where
  T : PT w
  st : Sta L S vR vW w
  mp : MapIs w m n (rdK L.bR L.bW L.qb L.tb 4)
  hv : ∀ s, vR ≠ .string s ∧ vW ≠ .string s
  hl : S.R.length ≤ 1024 ∧ S.W.length ≤ 1024
  hG : ∀ k, L.tch k → 9 ≤ k
  mN : m < L.N
  mt : ¬ L.tch m
theorem Rdy.under {L : Lo} {S : Pl.PSt} {vR vW : Value} {m n : Nat} {w w' : World} (h : Rdy L S vR vW m n w) (hb : Below w.heap.size w w') : Rdy L S vR vW m n w' :=
  ⟨h.T.under hb, h.st.below hb, h.mp.under (hb.block m h.mp.lt), h.hv, h.hl, h.hG, h.mN, h.mt⟩
theorem Rdy.next {L : Lo} {S S' : Pl.PSt} {vR vW vR' vW' : Value} {m n : Nat} {w w' : World} (h : Rdy L S vR vW m n w) (ht : Tu L.tch w w') (hs : Sta L S' vR' vW' w') (hv : ∀ s, vR' ≠ .string s ∧ vW' ≠ .string s) (hl : S'.R.length ≤ 1024 ∧ S'.W.length ≤ 1024) : Rdy L S' vR' vW' m n w' :=
  ⟨h.T.tu ht h.hG, hs, h.mp.under (ht.block m h.mp.lt h.mt), hv, hl, h.hG, h.mN, h.mt⟩

set_option maxRecDepth 100000 in
set_option maxHeartbeats 2000000 in
theorem readLine_any (L : Lo) (S : Pl.PSt) (vR vW : Value) (m n : Nat) (s : ByteArray) (w : World) (h : Rdy L S vR vW m n w) (hs : s.size ≤ 16777216) :
    Calls Tryz.prog 46 #[.map (some m), .string s] w fun e w' => ∃ vR' vW', e = .returned (.int .i64 ((Pl.lineR S s.data.toList).1 : Nat)) ∧ Rdy L (Pl.lineR S s.data.toList).2 vR' vW' m n w' ∧ Tu L.tch w w' := by
  have HC := cut_any s w h.T (by omega)
  have hcl := Pl.cut_len s.data.toList
  rw [Ln.szL] at hcl
  have HL : Hid (∀ w1, Below w.heap.size w w1 → (Instr.lookup 61 (.map (some m)) (.string (Ln.bs (Lib.cut s.data.toList [32]).1)) true).run Tryz.prog w1 = .ok (.tuple #[(rdK L.bR L.bW L.qb L.tb 4 (Lib.cut s.data.toList [32]).1).getD .nilFunc, .bool (rdK L.bR L.bW L.qb L.tb 4 (Lib.cut s.data.toList [32]).1).isSome]) w1) := fun w1 hb => (h.under hb).mp.look _ (by rw [Ln.bs_size]; unfold maxLen; omega)
  have HLen : Hid ((Pl.lineR S s.data.toList).2.R.length ≤ 1024 ∧ (Pl.lineR S s.data.toList).2.W.length ≤ 1024) := Pl.lineR_len h.hl
  have HE : Hid (Pl.lineR S s.data.toList = (if (Lib.cut s.data.toList [32]).2.2 = false then (1, S)
  else if (Lib.cut s.data.toList [32]).1 = Pl.wordL 3 then Pl.numR S 3 (Lib.cut s.data.toList [32]).2.1
  else if (Lib.cut s.data.toList [32]).1 = Pl.wordL 2 then Pl.numR S 2 (Lib.cut s.data.toList [32]).2.1
  else if (Lib.cut s.data.toList [32]).1 = Pl.wordL 1 then Pl.numR S 1 (Lib.cut s.data.toList [32]).2.1
  else if (Lib.cut s.data.toList [32]).1 = Pl.wordL 0 then Pl.numR S 0 (Lib.cut s.data.toList [32]).2.1
  else if (Lib.cut s.data.toList [32]).1 = readL then ((Pl.pathR S.R (Ln.bs (Lib.cut s.data.toList [32]).2.1)).1, { S with R := (Pl.pathR S.R (Ln.bs (Lib.cut s.data.toList [32]).2.1)).2 })
  else if (Lib.cut s.data.toList [32]).1 = writeL then ((Pl.pathR S.W (Ln.bs (Lib.cut s.data.toList [32]).2.1)).1, { S with W := (Pl.pathR S.W (Ln.bs (Lib.cut s.data.toList [32]).2.1)).2 })
  else (1, S))) := rfl
  generalize Lib.cut s.data.toList [32] = C at *
  obtain ⟨word, rest, blank⟩ := C
  simp only at HC hcl HL HE
  have HH : Hid (Rdy L S vR vW m n w) := h
  clear h
  have hrs : (Ln.bs rest).size ≤ 16777216 := by rw [Ln.bs_size]; omega
  have HB : Hid ((Ln.bs rest).data.toList = rest) := rfl
  cases blank
  · have HE1 : Hid (Pl.lineR S s.data.toList = (1, S)) := HE.out.trans (if_pos rfl)
    clear HE
    go_enter Tryz.func46, Tryz.ntmps46
    go_wp2_with fail
    refine HC.mono ?_
    rintro e w1 ⟨rfl, hb⟩
    have hlk := HL.out w1 hb
    go_wp2_with fail
    go_ret
    rw [HE1.out]
    exact ⟨vR, vW, rfl, HH.out.under hb, Tu.of_below hb⟩
  have HE0 := HE.out.trans (if_neg (by decide))
  have HE0 : Hid _ := HE0
  clear HE
  by_cases c3 : word = Pl.wordL 3
  · have HE1 : Hid (Pl.lineR S s.data.toList = Pl.numR S 3 rest) := HE0.out.trans (if_pos c3)
    have HF : Hid (rdK L.bR L.bW L.qb L.tb 4 word = some (numV (L.qb 3) (L.tb 3))) := by unfold Hid; rw [c3]; rfl
    go_enter Tryz.func46, Tryz.ntmps46
    go_wp2_with fail
    refine HC.mono ?_
    rintro e w1 ⟨rfl, hb⟩
    have hlk := HL.out w1 hb
    rw [HF.out] at hlk
    simp only [Option.getD_some, Option.isSome_some] at hlk
    have H1 : Hid (Rdy L S vR vW m n w1) := HH.out.under hb
    clear c3
    go_wp2_with fail
    refine (rdNum_any L S vR vW 3 (by decide) (Ln.bs rest) w1 H1.out.T H1.out.st hrs H1.out.hv).mono ?_
    rw [HB.out]
    rintro e w2 ⟨rfl, hst, htu⟩
    have H2 : Hid (Rdy L (Pl.numR S 3 rest).2 vR vW m n w2 ∧ Tu L.tch w w2) := ⟨H1.out.next htu hst H1.out.hv (by have := HLen.out; rw [HE1.out] at this; exact this), (Tu.of_below hb).trans htu (fun k _ e => e)⟩
    clear hst htu
    go_wp2_with fail
    go_ret
    rw [HE1.out]
    exact ⟨vR, vW, rfl, H2.out.1, H2.out.2⟩
  have HE4 : Hid _ := HE0.out.trans (if_neg c3)
  by_cases c2 : word = Pl.wordL 2
  · have HE1 : Hid (Pl.lineR S s.data.toList = Pl.numR S 2 rest) := HE4.out.trans (if_pos c2)
    have HF : Hid (rdK L.bR L.bW L.qb L.tb 4 word = some (numV (L.qb 2) (L.tb 2))) := by unfold Hid; rw [c2]; rfl
    go_enter Tryz.func46, Tryz.ntmps46
    go_wp2_with fail
    refine HC.mono ?_
    rintro e w1 ⟨rfl, hb⟩
    have hlk := HL.out w1 hb
    rw [HF.out] at hlk
    simp only [Option.getD_some, Option.isSome_some] at hlk
    have H1 : Hid (Rdy L S vR vW m n w1) := HH.out.under hb
    clear c2
    go_wp2_with fail
    refine (rdNum_any L S vR vW 2 (by decide) (Ln.bs rest) w1 H1.out.T H1.out.st hrs H1.out.hv).mono ?_
    rw [HB.out]
    rintro e w2 ⟨rfl, hst, htu⟩
    have H2 : Hid (Rdy L (Pl.numR S 2 rest).2 vR vW m n w2 ∧ Tu L.tch w w2) := ⟨H1.out.next htu hst H1.out.hv (by have := HLen.out; rw [HE1.out] at this; exact this), (Tu.of_below hb).trans htu (fun k _ e => e)⟩
    clear hst htu
    go_wp2_with fail
    go_ret
    rw [HE1.out]
    exact ⟨vR, vW, rfl, H2.out.1, H2.out.2⟩
  have HE3 : Hid _ := HE4.out.trans (if_neg c2)
  by_cases c1 : word = Pl.wordL 1
  · have HE1 : Hid (Pl.lineR S s.data.toList = Pl.numR S 1 rest) := HE3.out.trans (if_pos c1)
    have HF : Hid (rdK L.bR L.bW L.qb L.tb 4 word = some (numV (L.qb 1) (L.tb 1))) := by unfold Hid; rw [c1]; rfl
    go_enter Tryz.func46, Tryz.ntmps46
    go_wp2_with fail
    refine HC.mono ?_
    rintro e w1 ⟨rfl, hb⟩
    have hlk := HL.out w1 hb
    rw [HF.out] at hlk
    simp only [Option.getD_some, Option.isSome_some] at hlk
    have H1 : Hid (Rdy L S vR vW m n w1) := HH.out.under hb
    clear c1
    go_wp2_with fail
    refine (rdNum_any L S vR vW 1 (by decide) (Ln.bs rest) w1 H1.out.T H1.out.st hrs H1.out.hv).mono ?_
    rw [HB.out]
    rintro e w2 ⟨rfl, hst, htu⟩
    have H2 : Hid (Rdy L (Pl.numR S 1 rest).2 vR vW m n w2 ∧ Tu L.tch w w2) := ⟨H1.out.next htu hst H1.out.hv (by have := HLen.out; rw [HE1.out] at this; exact this), (Tu.of_below hb).trans htu (fun k _ e => e)⟩
    clear hst htu
    go_wp2_with fail
    go_ret
    rw [HE1.out]
    exact ⟨vR, vW, rfl, H2.out.1, H2.out.2⟩
  have HE2 : Hid _ := HE3.out.trans (if_neg c1)
  by_cases c0 : word = Pl.wordL 0
  · have HE1 : Hid (Pl.lineR S s.data.toList = Pl.numR S 0 rest) := HE2.out.trans (if_pos c0)
    have HF : Hid (rdK L.bR L.bW L.qb L.tb 4 word = some (numV (L.qb 0) (L.tb 0))) := by unfold Hid; rw [c0]; rfl
    go_enter Tryz.func46, Tryz.ntmps46
    go_wp2_with fail
    refine HC.mono ?_
    rintro e w1 ⟨rfl, hb⟩
    have hlk := HL.out w1 hb
    rw [HF.out] at hlk
    simp only [Option.getD_some, Option.isSome_some] at hlk
    have H1 : Hid (Rdy L S vR vW m n w1) := HH.out.under hb
    clear c0
    go_wp2_with fail
    refine (rdNum_any L S vR vW 0 (by decide) (Ln.bs rest) w1 H1.out.T H1.out.st hrs H1.out.hv).mono ?_
    rw [HB.out]
    rintro e w2 ⟨rfl, hst, htu⟩
    have H2 : Hid (Rdy L (Pl.numR S 0 rest).2 vR vW m n w2 ∧ Tu L.tch w w2) := ⟨H1.out.next htu hst H1.out.hv (by have := HLen.out; rw [HE1.out] at this; exact this), (Tu.of_below hb).trans htu (fun k _ e => e)⟩
    clear hst htu
    go_wp2_with fail
    go_ret
    rw [HE1.out]
    exact ⟨vR, vW, rfl, H2.out.1, H2.out.2⟩
  have HE1a : Hid _ := HE2.out.trans (if_neg c0)
  by_cases pR : word = readL
  · have HE1 : Hid (Pl.lineR S s.data.toList = ((Pl.pathR S.R (Ln.bs rest)).1, { S with R := (Pl.pathR S.R (Ln.bs rest)).2 })) := HE1a.out.trans (if_pos pR)
    have HF : Hid (rdK L.bR L.bW L.qb L.tb 4 word = some (pathV L.bR)) := by unfold Hid; rw [pR]; rfl
    go_enter Tryz.func46, Tryz.ntmps46
    go_wp2_with fail
    refine HC.mono ?_
    rintro e w1 ⟨rfl, hb⟩
    have hlk := HL.out w1 hb
    rw [HF.out] at hlk
    simp only [Option.getD_some, Option.isSome_some] at hlk
    have H1 : Hid (Rdy L S vR vW m n w1) := HH.out.under hb
    clear pR
    go_wp2_with fail
    refine (rdPathR_any L S vR vW (Ln.bs rest) w1 H1.out.T H1.out.st hrs H1.out.hv H1.out.hl.1 (H1.out.hG _ (.inl rfl))).mono ?_
    rintro e w2 ⟨v', hv', rfl, hst, htu⟩
    have H2 : Hid (Rdy L { S with R := (Pl.pathR S.R (Ln.bs rest)).2 } v' vW m n w2 ∧ Tu L.tch w w2) := ⟨H1.out.next htu hst (fun s => ⟨hv' s, (H1.out.hv s).2⟩) (by have := HLen.out; rw [HE1.out] at this; exact this), (Tu.of_below hb).trans htu (fun k _ e => e)⟩
    clear hst htu hv'
    go_wp2_with fail
    go_ret
    rw [HE1.out]
    exact ⟨v', vW, rfl, H2.out.1, H2.out.2⟩
  have HE1b : Hid _ := HE1a.out.trans (if_neg pR)
  by_cases pW : word = writeL
  · have HE1 : Hid (Pl.lineR S s.data.toList = ((Pl.pathR S.W (Ln.bs rest)).1, { S with W := (Pl.pathR S.W (Ln.bs rest)).2 })) := HE1b.out.trans (if_pos pW)
    have HF : Hid (rdK L.bR L.bW L.qb L.tb 4 word = some (pathV L.bW)) := by unfold Hid; rw [pW]; rfl
    go_enter Tryz.func46, Tryz.ntmps46
    go_wp2_with fail
    refine HC.mono ?_
    rintro e w1 ⟨rfl, hb⟩
    have hlk := HL.out w1 hb
    rw [HF.out] at hlk
    simp only [Option.getD_some, Option.isSome_some] at hlk
    have H1 : Hid (Rdy L S vR vW m n w1) := HH.out.under hb
    clear pW
    go_wp2_with fail
    refine (rdPathW_any L S vR vW (Ln.bs rest) w1 H1.out.T H1.out.st hrs H1.out.hv H1.out.hl.2 (H1.out.hG _ (.inl rfl))).mono ?_
    rintro e w2 ⟨v', hv', rfl, hst, htu⟩
    have H2 : Hid (Rdy L { S with W := (Pl.pathR S.W (Ln.bs rest)).2 } vR v' m n w2 ∧ Tu L.tch w w2) := ⟨H1.out.next htu hst (fun s => ⟨(H1.out.hv s).1, hv' s⟩) (by have := HLen.out; rw [HE1.out] at this; exact this), (Tu.of_below hb).trans htu (fun k _ e => e)⟩
    clear hst htu hv'
    go_wp2_with fail
    go_ret
    rw [HE1.out]
    exact ⟨vR, v', rfl, H2.out.1, H2.out.2⟩
  have HE1c : Hid _ := HE1b.out.trans (if_neg pW)
  have HF : Hid (rdK L.bR L.bW L.qb L.tb 4 word = none) := by
    unfold Hid
    rw [rdK, if_neg c3, rdK, if_neg c2, rdK, if_neg c1, rdK, if_neg c0, rdK, if_neg pR, if_neg pW]
  have HE2 : Hid (Pl.lineR S s.data.toList = (1, S)) := HE1c.out
  clear c0 c1 c2 c3 pR pW
  go_enter Tryz.func46, Tryz.ntmps46
  go_wp2_with fail
  refine HC.mono ?_
  rintro e w1 ⟨rfl, hb⟩
  have hlk := HL.out w1 hb
  rw [HF.out] at hlk
  simp only [Option.getD_none, Option.isSome_none] at hlk
  go_wp2_with fail
  go_ret
  rw [HE2.out]
  exact ⟨vR, vW, rfl, HH.out.under hb, Tu.of_below hb⟩
end Go.Proofs.YtnmplolkbmackaaGreatDoor
