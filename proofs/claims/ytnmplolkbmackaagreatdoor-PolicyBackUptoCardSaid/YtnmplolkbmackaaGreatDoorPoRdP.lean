/- What a reader of paths does with what stands behind its word. -/
import Derived.Test.YtnmplolkbmackaaGreatDoorPoPut
import Derived.Test.YtnmplolkbmackaaGreatDoorPgI
import Derived.Test.YtnmplolkbmackaaGreatDoorNormal
import Derived.Test.YtnmplolkbmackaaGreatDoorPgP
import Derived.Deep.AppendLies
namespace Go.Proofs.YtnmplolkbmackaaGreatDoor
open Go Go.RowKit

namespace Ln
theorem unqGo_len (L : List UInt8) : ∀ (f off : Nat) (out : List UInt8), (unqGo L f off out).1.length ≤ out.length + f
  | 0, off, out => by simp [unqGo]
  | f + 1, off, out => by
    rw [unqGo]
    split
    · show out.length ≤ _; omega
    · split
      · have := unqGo_len L f (off + 2) (out ++ [34]); simp at this; omega
      · split
        · simp
        · have := unqGo_len L f (untP (L.drop off) off).2.1 (out ++ [(untP (L.drop off) off).1]); simp at this; omega
theorem unqP_len (s : ByteArray) : (unqP s).1.length ≤ s.size := by
  unfold unqP
  split
  · have := unqGo_len s.data.toList s.size 1 []; simpa using this
  · simp
end Ln
namespace Pl
/-- What a line of a path does: the least rule that it breaks; the paths then. -/
def pathR (l : List (List ByteArray)) (s : ByteArray) : Nat × List (List ByteArray) :=
  if ¬ (Ln.unqP s).2.2.1 = 0 ∨ (Ln.unqP s).2.1 < s.size then (2, l)
  else if ¬ (normalP [] (Ln.bs (Ln.unqP s).1)).2.2 = 0 ∨ ¬ (Ln.unqP s).1.head? = some 47 then (5, l)
  else if l.length = 1024 then (6, l) else (0, l ++ [(normalP [] (Ln.bs (Ln.unqP s).1)).1])
theorem pathR_form {l : List (List ByteArray)} {s : ByteArray} (h : ¬ (Ln.unqP s).2.2.1 = 0 ∨ (Ln.unqP s).2.1 < s.size) : pathR l s = (2, l) := by rw [pathR, if_pos h]
theorem pathR_path {l : List (List ByteArray)} {s : ByteArray} (h : ¬ (¬ (Ln.unqP s).2.2.1 = 0 ∨ (Ln.unqP s).2.1 < s.size)) (h2 : ¬ (normalP [] (Ln.bs (Ln.unqP s).1)).2.2 = 0 ∨ ¬ (Ln.unqP s).1.head? = some 47) : pathR l s = (5, l) := by rw [pathR, if_neg h, if_pos h2]
theorem pathR_many {l : List (List ByteArray)} {s : ByteArray} (h : ¬ (¬ (Ln.unqP s).2.2.1 = 0 ∨ (Ln.unqP s).2.1 < s.size)) (h2 : ¬ (¬ (normalP [] (Ln.bs (Ln.unqP s).1)).2.2 = 0 ∨ ¬ (Ln.unqP s).1.head? = some 47)) (h3 : l.length = 1024) : pathR l s = (6, l) := by rw [pathR, if_neg h, if_neg h2, if_pos h3]
theorem pathR_ok {l : List (List ByteArray)} {s : ByteArray} (h : ¬ (¬ (Ln.unqP s).2.2.1 = 0 ∨ (Ln.unqP s).2.1 < s.size)) (h2 : ¬ (¬ (normalP [] (Ln.bs (Ln.unqP s).1)).2.2 = 0 ∨ ¬ (Ln.unqP s).1.head? = some 47)) (h3 : ¬ l.length = 1024) : pathR l s = (0, l ++ [(normalP [] (Ln.bs (Ln.unqP s).1)).1]) := by rw [pathR, if_neg h, if_neg h2, if_neg h3]
end Pl
theorem normal_nil (s : ByteArray) (w : World) (hs : s.size ≤ 16777216) :
    Calls Tryz.prog 92 #[.slice none 0 0, .string s] w fun e w' => ∃ a c, e = .returned (.tuple #[.slice a (Pl.normalP [] s).1.length c, .bool (Pl.normalP [] s).2.1, .int .i64 (Pl.normalP [] s).2.2]) ∧ Strs w' a c (Pl.normalP [] s).1 ∧ (∀ ad : Addr, a = some ad → w.heap.size ≤ ad.block ∧ ad.block < w'.heap.size) ∧ Below w.heap.size w w' := by
  refine (normal_any none 0 [] s w (Strs.empty w) (by omega)).mono ?_
  rintro e w' ⟨v, rfl, ho, hb⟩
  obtain ⟨h1, h2⟩ := Pl.normal_names [] s
  obtain ⟨a, c, rfl, h3, h4⟩ := own_strs_at ho (by omega) (names_size h1)
  exact ⟨a, c, rfl, h3, h4, hb⟩

set_option maxRecDepth 100000 in
set_option maxHeartbeats 2000000 in
theorem rdPathR_any (L : Lo) (S : Pl.PSt) (vR vW : Value) (s : ByteArray) (w : World) (T : PT w) (h : Sta L S vR vW w) (hs : s.size ≤ 16777216) (hv : ∀ s, vR ≠ .string s ∧ vW ≠ .string s) (hl : S.R.length ≤ 1024) (_hG : 9 ≤ L.pg) :
    Calls Tryz.prog 90 #[.string s, .pointer (some ⟨L.bR, 0, none⟩)] w fun e w' => ∃ v', (∀ s, v' ≠ .string s) ∧
      e = .returned (.int .i64 ((Pl.pathR S.R s).1 : Nat)) ∧ Sta L { S with R := (Pl.pathR S.R s).2 } v' vW w' ∧ Tu L.tch w w' := by
  obtain ⟨i0, hi0, hz0, hz1, hz2⟩ := info_parts Tryz.infoPath
  have HV : Hid (∀ s, vR ≠ .string s ∧ vW ≠ .string s) := hv
  clear hv
  have HU := unq_any s w T.tabs hs
  have hul := Ln.unqP_len s
  have HF : Hid (¬ (Ln.unqP s).2.2.1 = 0 ∨ (Ln.unqP s).2.1 < s.size → Pl.pathR S.R s = (2, S.R)) := Pl.pathR_form
  have HP : Hid (¬ (¬ (Ln.unqP s).2.2.1 = 0 ∨ (Ln.unqP s).2.1 < s.size) → ¬ (Pl.normalP [] (Ln.bs (Ln.unqP s).1)).2.2 = 0 ∨ ¬ (Ln.unqP s).1.head? = some 47 → Pl.pathR S.R s = (5, S.R)) := Pl.pathR_path
  have HM : Hid (¬ (¬ (Ln.unqP s).2.2.1 = 0 ∨ (Ln.unqP s).2.1 < s.size) → ¬ (¬ (Pl.normalP [] (Ln.bs (Ln.unqP s).1)).2.2 = 0 ∨ ¬ (Ln.unqP s).1.head? = some 47) → S.R.length = 1024 → Pl.pathR S.R s = (6, S.R)) := Pl.pathR_many
  have HO : Hid (¬ (¬ (Ln.unqP s).2.2.1 = 0 ∨ (Ln.unqP s).2.1 < s.size) → ¬ (¬ (Pl.normalP [] (Ln.bs (Ln.unqP s).1)).2.2 = 0 ∨ ¬ (Ln.unqP s).1.head? = some 47) → ¬ S.R.length = 1024 → Pl.pathR S.R s = (0, S.R ++ [(Pl.normalP [] (Ln.bs (Ln.unqP s).1)).1])) := Pl.pathR_ok
  generalize Ln.unqP s = U at *
  obtain ⟨u, n, why, at0⟩ := U
  simp only at HU hul HF HP HM HO
  have HS : Hid (∀ w', Below w.heap.size w w' → Sta L S vR vW w') := fun w' hb => h.below hb
  have NR : ∀ s, vR ≠ .string s := fun s => (HV.out s).1
  clear h
  have HNR : Hid (∀ s, vR ≠ .string s) := NR
  clear NR
  by_cases c1 : why = 0
  · by_cases c2 : n < s.size
    · have HE : Hid (Pl.pathR S.R s = (2, S.R)) := HF.out (.inr c2)
      subst c1
      have d2 : decide ((n : Int) < (s.size : Int)) = true := decide_eq_true (by omega)
      have c2' : (n : Int) < (s.size : Int) := by omega
      go_enter Tryz.func90, Tryz.ntmps90
      go_wp2_with fail
      refine HU.mono ?_
      rintro e w1 ⟨rfl, hb⟩
      go_wp2_with fail
      go_ret
      rw [HE.out]
      exact ⟨vR, HNR.out, rfl, HS.out w1 hb, Tu.of_below hb⟩
    subst c1
    have d2 : decide ((n : Int) < (s.size : Int)) = false := decide_eq_false (by omega)
    have c2' : ¬ (n : Int) < (s.size : Int) := by omega
    have G1 : Hid (¬ (¬ (0 : Int) = 0 ∨ n < s.size)) := by unfold Hid; omega
    have hub : (Ln.bs u).size ≤ 16777216 := by rw [Ln.bs_size]; omega
    have HH : Hid ((Ln.bs u).data.toList.head? = u.head?) := rfl
    have HN : Hid (∀ w1, Calls Tryz.prog 92 #[.slice none 0 0, .string (Ln.bs u)] w1 fun e w' => ∃ a c, e = .returned (.tuple #[.slice a (Pl.normalP [] (Ln.bs u)).1.length c, .bool (Pl.normalP [] (Ln.bs u)).2.1, .int .i64 (Pl.normalP [] (Ln.bs u)).2.2]) ∧ Strs w' a c (Pl.normalP [] (Ln.bs u)).1 ∧ (∀ ad : Addr, a = some ad → w1.heap.size ≤ ad.block ∧ ad.block < w'.heap.size) ∧ Below w1.heap.size w1 w') := fun w1 => normal_nil (Ln.bs u) w1 hub
    have HR : Hid ((Pl.normalP [] (Ln.bs u)).2.2 = 0 → 0 < (Ln.bs u).size) := fun q => Pl.size_pos (Pl.normal_right q).2.2.2
    have hnl := (Pl.normal_names [] (Ln.bs u)).2
    generalize hub2 : Ln.bs u = x at *
    clear hub2
    generalize Pl.normalP [] x = P at *
    obtain ⟨p, dir, wy⟩ := P
    simp only at HN HR hnl HP HM HO
    by_cases c3 : wy = 0
    · subst c3
      have hpos := HR.out rfl
      have HB : Hid (x.data.toList.head? = some x[0]) := Pl.head_byte hpos
      by_cases c4 : x[0] = 47
      · have G2 : Hid (¬ (¬ (0 : Int) = 0 ∨ ¬ u.head? = some 47)) := by
          unfold Hid
          rw [← HH.out, HB.out, c4]; simp
        have d4 : ((x[0].toNat : Int) != 47) = false := by rw [c4]; rfl
        clear c4
        by_cases c5 : S.R.length = 1024
        · have HE : Hid (Pl.pathR S.R s = (6, S.R)) := HM.out (by first | exact G1.out | (simpa using G1.out)) (by first | exact G2.out | (simpa using G2.out)) c5
          have HL : Hid (S.R.length = 1024) := c5
          clear c5
          go_enter Tryz.func90, Tryz.ntmps90
          go_wp2_with fail
          refine HU.mono ?_
          rintro e w1 ⟨rfl, hb1⟩
          go_wp2_with fail
          refine (HN.out w1).mono ?_
          rintro e w2 ⟨a, c, rfl, hst, had, hb2⟩
          have hB := hb1.trans (hb2.mono hb1.size)
          have HS2 : Hid (Sta L S vR vW w2) := HS.out w2 hB
          have q1 : w2.cell? ⟨L.bR, 0, none⟩ = some (.pointer (some ⟨L.pg, 0, none⟩)) := by simp only [World.cell?, HS2.out.bx.r]; rfl
          have q2 : w2.cell? ⟨L.pg, 0, none⟩ = some vR := by simp only [World.cell?, HS2.out.p]; rfl
          obtain ⟨xs, ox, ex, ex'⟩ := HS2.out.R
          obtain ⟨av, cv, hve, _⟩ := PRow.pts ⟨xs, ox, ex⟩ (by omega)
          rw [HL.out] at hve
          subst hve
          have HSt : Hid _ := hst
          have HAd : Hid _ := had
          clear ox ex ex' hst had hb1 hb2
          go_wp2_with fail
          go_ret
          rw [HE.out]
          exact ⟨_, HNR.out, rfl, HS2.out, Tu.of_below hB⟩
        · have HE : Hid (Pl.pathR S.R s = (0, S.R ++ [p])) := HO.out (by first | exact G1.out | (simpa using G1.out)) (by first | exact G2.out | (simpa using G2.out)) c5
          have d5 : ((S.R.length : Int) == 1024) = false := by rw [beq_eq_false_iff_ne]; omega
          go_enter Tryz.func90, Tryz.ntmps90
          go_wp2_with fail
          refine HU.mono ?_
          rintro e w1 ⟨rfl, hb1⟩
          go_wp2_with fail
          refine (HN.out w1).mono ?_
          rintro e w2 ⟨a, c, rfl, hst, had, hb2⟩
          have hB := hb1.trans (hb2.mono hb1.size)
          have HS2 : Hid (Sta L S vR vW w2) := HS.out w2 hB
          have HS1 : Hid (Sta L S vR vW w1) := HS.out w1 hb1
          have q1 : w2.cell? ⟨L.bR, 0, none⟩ = some (.pointer (some ⟨L.pg, 0, none⟩)) := by simp only [World.cell?, HS2.out.bx.r]; rfl
          have q2 : w2.cell? ⟨L.pg, 0, none⟩ = some vR := by simp only [World.cell?, HS2.out.p]; rfl
          have q3 : w2.frozen? ⟨L.pg, 0, none⟩ = false := HS2.out.pf 0
          have q4 : L.bR ≠ L.pg := HS2.out.bx.rp
          obtain ⟨xs, ox, ex, ex'⟩ := HS2.out.R
          have off : ∀ v : Value, (∀ b, v.ownBlock = some b → b < w1.heap.size) → Off a p v.ownBlock := fun v hv hp ad e q => by
            have k1 := (had ad e).1
            have k2 := hv _ q.symm
            omega
          have offR : Off a p vR.ownBlock := off vR (fun b hb => by obtain ⟨ys, k, _⟩ := HS1.out.R; exact (k.lt b hb).2)
          have offW : Off a p vW.ownBlock := off vW (fun b hb => by obtain ⟨ys, k, _⟩ := HS1.out.W; exact (k.lt b hb).2)
          have hst' := hst.len
          have hNN := HS2.out.NN
          have hpN := HS2.out.bx.pN
          have hpl : L.pg < w2.heap.size := by omega
          have hbl : L.bR < w2.heap.size := lt_of_block HS2.out.bx.r
          have Hfin : Hid (∀ (o : Obj) (g cc : Nat) (w3 : World), w3.ownsRow L.N 26 1 (.slice (some ⟨g, 0, none⟩) (S.R.length + 1) cc) (S.R.length + 1) (xs ++ [.slice a p.length c]) → (w2.drew.alloc o).grownBy w3 vR.ownBlock → (vR.ownBlock = some g ∨ g = (w2.drew.alloc o).heap.size) →
              (w3.cell? ⟨L.pg, 0, none⟩ = some vR ∧ w3.frozen? ⟨L.pg, 0, none⟩ = false ∧ w3.cell? ⟨L.bR, 0, none⟩ = some (.pointer (some ⟨L.pg, 0, none⟩))) ∧ Sta L { S with R := S.R ++ [p] } (.slice (some ⟨g, 0, none⟩) (S.R.length + 1) cc) vW (w3.setCell ⟨L.pg, 0, none⟩ (.slice (some ⟨g, 0, none⟩) (S.R.length + 1) cc)) ∧ Tu L.tch w2 (w3.setCell ⟨L.pg, 0, none⟩ (.slice (some ⟨g, 0, none⟩) (S.R.length + 1) cc))) := fun o g cc w3 k1 k2 k3 => by
            have hs4 : (w2.drew.alloc o).heap.size = w2.heap.size + 1 := by simp
            have tu : Tu (fun k => vR.ownBlock = some k) w2 w3 := by
              have y : Below w2.heap.size w2 (w2.drew.alloc o) := ((Below.refl _ w2).drew).alloc (Nat.le_refl _) o
              exact ⟨k2.os.trans y.os, k2.tape.trans y.tape, k2.output.trans y.output, Nat.le_trans y.size k2.size, fun k hk hn => (k2.block k (by omega) (fun e => hn e.symm)).trans (y.block k hk)⟩
            have hrow : ∀ k, vR.ownBlock = some k → L.N ≤ k := fun k hk => (ox.lt k hk).1
            have hat : (Value.slice (some ⟨g, 0, none⟩) (S.R.length + 1) cc).ownBlock = vR.ownBlock ∨ (Value.slice (some ⟨g, 0, none⟩) (S.R.length + 1) cc).ownBlock = some (w2.heap.size + 1) := by
              rcases k3 with k3 | k3
              · exact .inl k3.symm
              · exact .inr (by rw [k3, hs4]; rfl)
            have offN : Off a p (Value.slice (some ⟨g, 0, none⟩) (S.R.length + 1) cc).ownBlock := by
              rcases hat with e | e
              · rw [e]; exact offR
              · rw [e]; exact hst.off (by omega)
            refine ⟨⟨?_, ?_, ?_⟩, HS2.out.putR ox ex ex' hst offR offW offN k1 tu hat (by omega) HV.out⟩
            · rw [cell_blk (tu.block L.pg (lt_of_block HS2.out.p) (fun e => by have := hrow _ e; omega))]; exact q2
            · have e := (tu.block L.pg (lt_of_block HS2.out.p) (fun e => by have := hrow _ e; omega)).trans HS2.out.p
              exact frozen_of_row w3 _ 0 _ _ e
            · rw [cell_blk (tu.block L.bR (lt_of_block HS2.out.bx.r) (fun e => by have := hrow _ e; have := HS2.out.bx.rN; omega))]; exact q1
          have hve : ∃ av cv, vR = .slice av S.R.length cv := by
            obtain ⟨av, cv, e, _⟩ := PRow.pts ⟨xs, ox, ex⟩ (by omega)
            exact ⟨av, cv, e⟩
          obtain ⟨av, cv, rfl⟩ := hve
          have HSt : Hid _ := hst
          have HAd : Hid _ := had
          have HOx : Hid _ := ox
          have HBb : Hid _ := hB
          have Hl5 : Hid (¬ S.R.length = 1024) := c5
          clear ox ex ex' hst had hb1 hb2 offR offW off hB c5
          generalize L.bR = gb at *
          go_wp2_with fail
          go_region_law (refine step_append_lies _ rfl (.tmp 46) (.tmp 48) 22 rfl L.N 26 i0 _ 1 24 Tryz.underlying22 hi0 hz0 hz1 hz2 rfl (by decide) (.slice av S.R.length cv) S.R.length xs (by simp [Act.eval]) (World.ownsRow.alloc (World.ownsRow.drew HOx.out) _) ⟨w2.drew.heap.size, 0, none⟩ 1 1 [.slice a p.length c] (by simp [Act.eval]) rfl (cell_one_new _ _ _) (by intro u hu; simp at hu; subst hu; rfl) (by decide) (by unfold maxLen; omega) (by omega) (by simp; omega) _ rfl ?_; intro g cc w3 ho hg hat hlt3; have z3 := Hfin.out _ g cc w3 ho hg hat; have Hz3 : Hid _ := z3.2; obtain ⟨s1, s2, s3⟩ := z3.1; clear z3 ho hg hat)
          go_wp2_with fail
          all_goals
            go_ret
            rw [HE.out]
            exact ⟨_, fun s => by simp, rfl, Hz3.out.1, (Tu.of_below HBb.out).trans Hz3.out.2 (fun k _ e => e)⟩
      · have G2 : Hid (¬ (0 : Int) = 0 ∨ ¬ u.head? = some 47) := by
          unfold Hid
          refine .inr ?_
          rw [← HH.out, HB.out]
          intro q
          exact c4 (Option.some.inj q)
        have HE : Hid (Pl.pathR S.R s = (5, S.R)) := HP.out (by first | exact G1.out | (simpa using G1.out)) (by first | exact G2.out | (simpa using G2.out))
        have d4 : ((x[0].toNat : Int) != 47) = true := by
          rw [bne_iff_ne]; intro e; exact c4 (by rw [← UInt8.toNat_inj]; simp; omega)
        clear c4
        go_enter Tryz.func90, Tryz.ntmps90
        go_wp2_with fail
        refine HU.mono ?_
        rintro e w1 ⟨rfl, hb1⟩
        go_wp2_with fail
        refine (HN.out w1).mono ?_
        rintro e w2 ⟨a, c, rfl, hst, had, hb2⟩
        have hB := hb1.trans (hb2.mono hb1.size)
        have HSt : Hid _ := hst
        have HAd : Hid _ := had
        clear hst had hb1 hb2
        go_wp2_with fail
        go_ret
        rw [HE.out]
        exact ⟨vR, HNR.out, rfl, HS.out w2 hB, Tu.of_below hB⟩
    · have HE : Hid (Pl.pathR S.R s = (5, S.R)) := HP.out (by first | exact G1.out | (simpa using G1.out)) (.inl c3)
      have d3 : (wy != 0) = true := by rw [bne_iff_ne]; exact c3
      clear c3
      go_enter Tryz.func90, Tryz.ntmps90
      go_wp2_with fail
      refine HU.mono ?_
      rintro e w1 ⟨rfl, hb1⟩
      go_wp2_with fail
      refine (HN.out w1).mono ?_
      rintro e w2 ⟨a, c, rfl, hst, had, hb2⟩
      have hB := hb1.trans (hb2.mono hb1.size)
      have HSt : Hid _ := hst
      have HAd : Hid _ := had
      clear hst had hb1 hb2
      go_wp2_with fail
      go_ret
      rw [HE.out]
      exact ⟨vR, HNR.out, rfl, HS.out w2 hB, Tu.of_below hB⟩
  · have HE : Hid (Pl.pathR S.R s = (2, S.R)) := HF.out (.inl c1)
    have d1 : (why != 0) = true := by rw [bne_iff_ne]; exact c1
    clear c1
    go_enter Tryz.func90, Tryz.ntmps90
    go_wp2_with fail
    refine HU.mono ?_
    rintro e w1 ⟨rfl, hb⟩
    go_wp2_with fail
    go_ret
    rw [HE.out]
    exact ⟨vR, HNR.out, rfl, HS.out w1 hb, Tu.of_below hb⟩
end Go.Proofs.YtnmplolkbmackaaGreatDoor
