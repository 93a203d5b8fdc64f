/- What a reader of paths does with what stands behind its word. What the reader of the paths that may be written does. What policy.readLine does with a line. -/
import Derived.Test.YtcloljkaojnipaaGreatDoorPoPut
import Derived.Test.YtcloljkaojnipaaGreatDoorPgI
import Derived.Test.YtcloljkaojnipaaGreatDoorNormal
import Derived.Test.YtcloljkaojnipaaGreatDoorPgP
import Derived.Deep.AppendLies
import Derived.Test.YtcloljkaojnipaaGreatDoorPoReads
namespace Go.Proofs.YtcloljkaojnipaaGreatDoor
open Go Go.RowKit

namespace Ln
theorem unqGo_len (L : List UInt8) : ∀ (f off : Nat) (out : List UInt8), (unqGo L f off out).1.length ≤ out.length + f
  | 0, off, out => by simp [unqGo]
  | f + 1, off, out => by
    rw [unqGo]
    split
    · show out.length ≤ _; omega
    · split
      · have := unqGo_len L f (off + 2) (out ++ [34]); simp at this; omega
      · split
        · simp
        · have := unqGo_len L f (untP (L.drop off) off).2.1 (out ++ [(untP (L.drop off) off).1]); simp at this; omega
theorem unqP_len (s : ByteArray) : (unqP s).1.length ≤ s.size := by
  unfold unqP
  split
  · have := unqGo_len s.data.toList s.size 1 []; simpa using this
  · simp
end Ln
namespace Pl
/-- What a line of a path does: the least rule that it breaks; the paths then. -/
def pathR (l : List (List ByteArray)) (s : ByteArray) : Nat × List (List ByteArray) :=
  if ¬ (Ln.unqP s).2.2.1 = 0 ∨ (Ln.unqP s).2.1 < s.size then (2, l)
  else if ¬ (normalP [] (Ln.bs (Ln.unqP s).1)).2.2 = 0 ∨ ¬ (Ln.unqP s).1.head? = some 47 then (5, l)
  else if l.length = 1024 then (6, l) else (0, l ++ [(normalP [] (Ln.bs (Ln.unqP s).1)).1])
theorem pathR_form {l : List (List ByteArray)} {s : ByteArray} (h : ¬ (Ln.unqP s).2.2.1 = 0 ∨ (Ln.unqP s).2.1 < s.size) : pathR l s = (2, l) := by rw [pathR, if_pos h]
theorem pathR_path {l : List (List ByteArray)} {s : ByteArray} (h : ¬ (¬ (Ln.unqP s).2.2.1 = 0 ∨ (Ln.unqP s).2.1 < s.size)) (h2 : ¬ (normalP [] (Ln.bs (Ln.unqP s).1)).2.2 = 0 ∨ ¬ (Ln.unqP s).1.head? = some 47) : pathR l s = (5, l) := by rw [pathR, if_neg h, if_pos h2]
theorem pathR_many {l : List (List ByteArray)} {s : ByteArray} (h : ¬ (¬ (Ln.unqP s).2.2.1 = 0 ∨ (Ln.unqP s).2.1 < s.size)) (h2 : ¬ (¬ (normalP [] (Ln.bs (Ln.unqP s).1)).2.2 = 0 ∨ ¬ (Ln.unqP s).1.head? = some 47)) (h3 : l.length = 1024) : pathR l s = (6, l) := by rw [pathR, if_neg h, if_neg h2, if_pos h3]
theorem pathR_ok {l : List (List ByteArray)} {s : ByteArray} (h : ¬ (¬ (Ln.unqP s).2.2.1 = 0 ∨ (Ln.unqP s).2.1 < s.size)) (h2 : ¬ (¬ (normalP [] (Ln.bs (Ln.unqP s).1)).2.2 = 0 ∨ ¬ (Ln.unqP s).1.head? = some 47)) (h3 : ¬ l.length = 1024) : pathR l s = (0, l ++ [(normalP [] (Ln.bs (Ln.unqP s).1)).1]) := by rw [pathR, if_neg h, if_neg h2, if_neg h3]
end Pl
theorem normal_nil (s : ByteArray) (w : World) (hs : s.size ≤ 16777216) :
    Calls Tryz.prog 92 #[.slice none 0 0, .string s] w fun e w' => ∃ a c, e = .returned (.tuple #[.slice a (Pl.normalP [] s).1.length c, .bool (Pl.normalP [] s).2.1, .int .i64 (Pl.normalP [] s).2.2]) ∧ Strs w' a c (Pl.normalP [] s).1 ∧ (∀ ad : Addr, a = some ad → w.heap.size ≤ ad.block ∧ ad.block < w'.heap.size) ∧ Below w.heap.size w w' := by
  refine (normal_any none 0 [] s w (Strs.empty w) (by omega)).mono ?_
  rintro e w' ⟨v, rfl, ho, hb⟩
  obtain ⟨h1, h2⟩ := Pl.normal_names [] s
  obtain ⟨a, c, rfl, h3, h4⟩ := own_strs_at ho (by omega) (names_size h1)
  exact ⟨a, c, rfl, h3, h4, hb⟩

set_option maxRecDepth 100000 in
set_option maxHeartbeats 2000000 in
theorem rdPathR_any (L : Lo) (S : Pl.PSt) (vR vW : Value) (s : ByteArray) (w : World) (T : PT w) (h : Sta L S vR vW w) (hs : s.size ≤ 16777216) (hv : ∀ s, vR ≠ .string s ∧ vW ≠ .string s) (hl : S.R.length ≤ 1024) (_hG : 9 ≤ L.pg) :
    Calls Tryz.prog 90 #[.string s, .pointer (some ⟨L.bR, 0, none⟩)] w fun e w' => ∃ v', (∀ s, v' ≠ .string s) ∧
      e = .returned (.int .i64 ((Pl.pathR S.R s).1 : Nat)) ∧ Sta L { S with R := (Pl.pathR S.R s).2 } v' vW w' ∧ Tu L.tch w w' := by
  obtain ⟨i0, hi0, hz0, hz1, hz2⟩ := info_parts Tryz.infoPath
  have HV : Hid (∀ s, vR ≠ .string s ∧ vW ≠ .string s) := hv
  clear hv
  have HU := unq_any s w T.tabs hs
  have hul := Ln.unqP_len s
  have HF : Hid (¬ (Ln.unqP s).2.2.1 = 0 ∨ (Ln.unqP s).2.1 < s.size → Pl.pathR S.R s = (2, S.R)) := Pl.pathR_form
  have HP : Hid (¬ (¬ (Ln.unqP s).2.2.1 = 0 ∨ (Ln.unqP s).2.1 < s.size) → ¬ (Pl.normalP [] (Ln.bs (Ln.unqP s).1)).2.2 = 0 ∨ ¬ (Ln.unqP s).1.head? = some 47 → Pl.pathR S.R s = (5, S.R)) := Pl.pathR_path
  have HM : Hid (¬ (¬ (Ln.unqP s).2.2.1 = 0 ∨ (Ln.unqP s).2.1 < s.size) → ¬ (¬ (Pl.normalP [] (Ln.bs (Ln.unqP s).1)).2.2 = 0 ∨ ¬ (Ln.unqP s).1.head? = some 47) → S.R.length = 1024 → Pl.pathR S.R s = (6, S.R)) := Pl.pathR_many
  have HO : Hid (¬ (¬ (Ln.unqP s).2.2.1 = 0 ∨ (Ln.unqP s).2.1 < s.size) → ¬ (¬ (Pl.normalP [] (Ln.bs (Ln.unqP s).1)).2.2 = 0 ∨ ¬ (Ln.unqP s).1.head? = some 47) → ¬ S.R.length = 1024 → Pl.pathR S.R s = (0, S.R ++ [(Pl.normalP [] (Ln.bs (Ln.unqP s).1)).1])) := Pl.pathR_ok
  generalize Ln.unqP s = U at *
  obtain ⟨u, n, why, at0⟩ := U
  simp only at HU hul HF HP HM HO
  have HS : Hid (∀ w', Below w.heap.size w w' → Sta L S vR vW w') := fun w' hb => h.below hb
  have NR : ∀ s, vR ≠ .string s := fun s => (HV.out s).1
  clear h
  have HNR : Hid (∀ s, vR ≠ .string s) := NR
  clear NR
  by_cases c1 : why = 0
  · by_cases c2 : n < s.size
    · have HE : Hid (Pl.pathR S.R s = (2, S.R)) := HF.out (.inr c2)
      subst c1
      have d2 : decide ((n : Int) < (s.size : Int)) = true := decide_eq_true (by omega)
      have c2' : (n : Int) < (s.size : Int) := by omega
      go_enter Tryz.func90, Tryz.ntmps90
      go_wp2_with fail
      refine HU.mono ?_
      rintro e w1 ⟨rfl, hb⟩
      go_wp2_with fail
      go_ret
      rw [HE.out]
      exact ⟨vR, HNR.out, rfl, HS.out w1 hb, Tu.of_below hb⟩
    subst c1
    have d2 : decide ((n : Int) < (s.size : Int)) = false := decide_eq_false (by omega)
    have c2' : ¬ (n : Int) < (s.size : Int) := by omega
    have G1 : Hid (¬ (¬ (0 : Int) = 0 ∨ n < s.size)) := by unfold Hid; omega
    have hub : (Ln.bs u).size ≤ 16777216 := by rw [Ln.bs_size]; omega
    have HH : Hid ((Ln.bs u).data.toList.head? = u.head?) := rfl
    have HN : Hid (∀ w1, Calls Tryz.prog 92 #[.slice none 0 0, .string (Ln.bs u)] w1 fun e w' => ∃ a c, e = .returned (.tuple #[.slice a (Pl.normalP [] (Ln.bs u)).1.length c, .bool (Pl.normalP [] (Ln.bs u)).2.1, .int .i64 (Pl.normalP [] (Ln.bs u)).2.2]) ∧ Strs w' a c (Pl.normalP [] (Ln.bs u)).1 ∧ (∀ ad : Addr, a = some ad → w1.heap.size ≤ ad.block ∧ ad.block < w'.heap.size) ∧ Below w1.heap.size w1 w') := fun w1 => normal_nil (Ln.bs u) w1 hub
    have HR : Hid ((Pl.normalP [] (Ln.bs u)).2.2 = 0 → 0 < (Ln.bs u).size) := fun q => Pl.size_pos (Pl.normal_right q).2.2.2
    have hnl := (Pl.normal_names [] (Ln.bs u)).2
    generalize hub2 : Ln.bs u = x at *
    clear hub2
    generalize Pl.normalP [] x = P at *
    obtain ⟨p, dir, wy⟩ := P
    simp only at HN HR hnl HP HM HO
    by_cases c3 : wy = 0
    · subst c3
      have hpos := HR.out rfl
      have HB : Hid (x.data.toList.head? = some x[0]) := Pl.head_byte hpos
      by_cases c4 : x[0] = 47
      · have G2 : Hid (¬ (¬ (0 : Int) = 0 ∨ ¬ u.head? = some 47)) := by
          unfold Hid
          rw [← HH.out, HB.out, c4]; simp
        have d4 : ((x[0].toNat : Int) != 47) = false := by rw [c4]; rfl
        clear c4
        by_cases c5 : S.R.length = 1024
        · have HE : Hid (Pl.pathR S.R s = (6, S.R)) := HM.out (by first | exact G1.out | (simpa using G1.out)) (by first | exact G2.out | (simpa using G2.out)) c5
          have HL : Hid (S.R.length = 1024) := c5
          clear c5
          go_enter Tryz.func90, Tryz.ntmps90
          go_wp2_with fail
          refine HU.mono ?_
          rintro e w1 ⟨rfl, hb1⟩
          go_wp2_with fail
          refine (HN.out w1).mono ?_
          rintro e w2 ⟨a, c, rfl, hst, had, hb2⟩
          have hB := hb1.trans (hb2.mono hb1.size)
          have HS2 : Hid (Sta L S vR vW w2) := HS.out w2 hB
          have q1 : w2.cell? ⟨L.bR, 0, none⟩ = some (.pointer (some ⟨L.pg, 0, none⟩)) := by simp only [World.cell?, HS2.out.bx.r]; rfl
          have q2 : w2.cell? ⟨L.pg, 0, none⟩ = some vR := by simp only [World.cell?, HS2.out.p]; rfl
          obtain ⟨xs, ox, ex, ex'⟩ := HS2.out.R
          obtain ⟨av, cv, hve, _⟩ := PRow.pts ⟨xs, ox, ex⟩ (by omega)
          rw [HL.out] at hve
          subst hve
          have HSt : Hid _ := hst
          have HAd : Hid _ := had
          clear ox ex ex' hst had hb1 hb2
          go_wp2_with fail
          go_ret
          rw [HE.out]
          exact ⟨_, HNR.out, rfl, HS2.out, Tu.of_below hB⟩
        · have HE : Hid (Pl.pathR S.R s = (0, S.R ++ [p])) := HO.out (by first | exact G1.out | (simpa using G1.out)) (by first | exact G2.out | (simpa using G2.out)) c5
          have d5 : ((S.R.length : Int) == 1024) = false := by rw [beq_eq_false_iff_ne]; omega
          go_enter Tryz.func90, Tryz.ntmps90
          go_wp2_with fail
          refine HU.mono ?_
          rintro e w1 ⟨rfl, hb1⟩
          go_wp2_with fail
          refine (HN.out w1).mono ?_
          rintro e w2 ⟨a, c, rfl, hst, had, hb2⟩
          have hB := hb1.trans (hb2.mono hb1.size)
          have HS2 : Hid (Sta L S vR vW w2) := HS.out w2 hB
          have HS1 : Hid (Sta L S vR vW w1) := HS.out w1 hb1
          have q1 : w2.cell? ⟨L.bR, 0, none⟩ = some (.pointer (some ⟨L.pg, 0, none⟩)) := by simp only [World.cell?, HS2.out.bx.r]; rfl
          have q2 : w2.cell? ⟨L.pg, 0, none⟩ = some vR := by simp only [World.cell?, HS2.out.p]; rfl
          have q3 : w2.frozen? ⟨L.pg, 0, none⟩ = false := HS2.out.pf 0
          have q4 : L.bR ≠ L.pg := HS2.out.bx.rp
          obtain ⟨xs, ox, ex, ex'⟩ := HS2.out.R
          have off : ∀ v : Value, (∀ b, v.ownBlock = some b → b < w1.heap.size) → Off a p v.ownBlock := fun v hv hp ad e q => by
            have k1 := (had ad e).1
            have k2 := hv _ q.symm
            omega
          have offR : Off a p vR.ownBlock := off vR (fun b hb => by obtain ⟨ys, k, _⟩ := HS1.out.R; exact (k.lt b hb).2)
          have offW : Off a p vW.ownBlock := off vW (fun b hb => by obtain ⟨ys, k, _⟩ := HS1.out.W; exact (k.lt b hb).2)
          have hst' := hst.len
          have hNN := HS2.out.NN
          have hpN := HS2.out.bx.pN
          have hpl : L.pg < w2.heap.size := by omega
          have hbl : L.bR < w2.heap.size := lt_of_block HS2.out.bx.r
          have Hfin : Hid (∀ (o : Obj) (g cc : Nat) (w3 : World), w3.ownsRow L.N 26 1 (.slice (some ⟨g, 0, none⟩) (S.R.length + 1) cc) (S.R.length + 1) (xs ++ [.slice a p.length c]) → (w2.drew.alloc o).grownBy w3 vR.ownBlock → (vR.ownBlock = some g ∨ g = (w2.drew.alloc o).heap.size) →
              (w3.cell? ⟨L.pg, 0, none⟩ = some vR ∧ w3.frozen? ⟨L.pg, 0, none⟩ = false ∧ w3.cell? ⟨L.bR, 0, none⟩ = some (.pointer (some ⟨L.pg, 0, none⟩))) ∧ Sta L { S with R := S.R ++ [p] } (.slice (some ⟨g, 0, none⟩) (S.R.length + 1) cc) vW (w3.setCell ⟨L.pg, 0, none⟩ (.slice (some ⟨g, 0, none⟩) (S.R.length + 1) cc)) ∧ Tu L.tch w2 (w3.setCell ⟨L.pg, 0, none⟩ (.slice (some ⟨g, 0, none⟩) (S.R.length + 1) cc))) := fun o g cc w3 k1 k2 k3 => by
            have hs4 : (w2.drew.alloc o).heap.size = w2.heap.size + 1 := by simp
            have tu : Tu (fun k => vR.ownBlock = some k) w2 w3 := by
              have y : Below w2.heap.size w2 (w2.drew.alloc o) := ((Below.refl _ w2).drew).alloc (Nat.le_refl _) o
              exact ⟨k2.os.trans y.os, k2.tape.trans y.tape, k2.output.trans y.output, Nat.le_trans y.size k2.size, fun k hk hn => (k2.block k (by omega) (fun e => hn e.symm)).trans (y.block k hk)⟩
            have hrow : ∀ k, vR.ownBlock = some k → L.N ≤ k := fun k hk => (ox.lt k hk).1
            have hat : (Value.slice (some ⟨g, 0, none⟩) (S.R.length + 1) cc).ownBlock = vR.ownBlock ∨ (Value.slice (some ⟨g, 0, none⟩) (S.R.length + 1) cc).ownBlock = some (w2.heap.size + 1) := by
              rcases k3 with k3 | k3
              · exact .inl k3.symm
              · exact .inr (by rw [k3, hs4]; rfl)
            have offN : Off a p (Value.slice (some ⟨g, 0, none⟩) (S.R.length + 1) cc).ownBlock := by
              rcases hat with e | e
              · rw [e]; exact offR
              · rw [e]; exact hst.off (by omega)
            refine ⟨⟨?_, ?_, ?_⟩, HS2.out.putR ox ex ex' hst offR offW offN k1 tu hat (by omega) HV.out⟩
            · rw [cell_blk (tu.block L.pg (lt_of_block HS2.out.p) (fun e => by have := hrow _ e; omega))]; exact q2
            · have e := (tu.block L.pg (lt_of_block HS2.out.p) (fun e => by have := hrow _ e; omega)).trans HS2.out.p
              exact frozen_of_row w3 _ 0 _ _ e
            · rw [cell_blk (tu.block L.bR (lt_of_block HS2.out.bx.r) (fun e => by have := hrow _ e; have := HS2.out.bx.rN; omega))]; exact q1
          have hve : ∃ av cv, vR = .slice av S.R.length cv := by
            obtain ⟨av, cv, e, _⟩ := PRow.pts ⟨xs, ox, ex⟩ (by omega)
            exact ⟨av, cv, e⟩
          obtain ⟨av, cv, rfl⟩ := hve
          have HSt : Hid _ := hst
          have HAd : Hid _ := had
          have HOx : Hid _ := ox
          have HBb : Hid _ := hB
          have Hl5 : Hid (¬ S.R.length = 1024) := c5
          clear ox ex ex' hst had hb1 hb2 offR offW off hB c5
          generalize L.bR = gb at *
          go_wp2_with fail
          go_region_law (refine step_append_lies _ rfl (.tmp 46) (.tmp 48) 22 rfl L.N 26 i0 _ 1 24 Tryz.underlying22 hi0 hz0 hz1 hz2 rfl (by decide) (.slice av S.R.length cv) S.R.length xs (by simp [Act.eval]) (World.ownsRow.alloc (World.ownsRow.drew HOx.out) _) ⟨w2.drew.heap.size, 0, none⟩ 1 1 [.slice a p.length c] (by simp [Act.eval]) rfl (cell_one_new _ _ _) (by intro u hu; simp at hu; subst hu; rfl) (by decide) (by unfold maxLen; omega) (by omega) (by simp; omega) _ rfl ?_; intro g cc w3 ho hg hat hlt3; have z3 := Hfin.out _ g cc w3 ho hg hat; have Hz3 : Hid _ := z3.2; obtain ⟨s1, s2, s3⟩ := z3.1; clear z3 ho hg hat)
          go_wp2_with fail
          all_goals
            go_ret
            rw [HE.out]
            exact ⟨_, fun s => by simp, rfl, Hz3.out.1, (Tu.of_below HBb.out).trans Hz3.out.2 (fun k _ e => e)⟩
      · have G2 : Hid (¬ (0 : Int) = 0 ∨ ¬ u.head? = some 47) := by
          unfold Hid
          refine .inr ?_
          rw [← HH.out, HB.out]
          intro q
          exact c4 (Option.some.inj q)
        have HE : Hid (Pl.pathR S.R s = (5, S.R)) := HP.out (by first | exact G1.out | (simpa using G1.out)) (by first | exact G2.out | (simpa using G2.out))
        have d4 : ((x[0].toNat : Int) != 47) = true := by
          rw [bne_iff_ne]; intro e; exact c4 (by rw [← UInt8.toNat_inj]; simp; omega)
        clear c4
        go_enter Tryz.func90, Tryz.ntmps90
        go_wp2_with fail
        refine HU.mono ?_
        rintro e w1 ⟨rfl, hb1⟩
        go_wp2_with fail
        refine (HN.out w1).mono ?_
        rintro e w2 ⟨a, c, rfl, hst, had, hb2⟩
        have hB := hb1.trans (hb2.mono hb1.size)
        have HSt : Hid _ := hst
        have HAd : Hid _ := had
        clear hst had hb1 hb2
        go_wp2_with fail
        go_ret
        rw [HE.out]
        exact ⟨vR, HNR.out, rfl, HS.out w2 hB, Tu.of_below hB⟩
    · have HE : Hid (Pl.pathR S.R s = (5, S.R)) := HP.out (by first | exact G1.out | (simpa using G1.out)) (.inl c3)
      have d3 : (wy != 0) = true := by rw [bne_iff_ne]; exact c3
      clear c3
      go_enter Tryz.func90, Tryz.ntmps90
      go_wp2_with fail
      refine HU.mono ?_
      rintro e w1 ⟨rfl, hb1⟩
      go_wp2_with fail
      refine (HN.out w1).mono ?_
      rintro e w2 ⟨a, c, rfl, hst, had, hb2⟩
      have hB := hb1.trans (hb2.mono hb1.size)
      have HSt : Hid _ := hst
      have HAd : Hid _ := had
      clear hst had hb1 hb2
      go_wp2_with fail
      go_ret
      rw [HE.out]
      exact ⟨vR, HNR.out, rfl, HS.out w2 hB, Tu.of_below hB⟩
  · have HE : Hid (Pl.pathR S.R s = (2, S.R)) := HF.out (.inl c1)
    have d1 : (why != 0) = true := by rw [bne_iff_ne]; exact c1
    clear c1
    go_enter Tryz.func90, Tryz.ntmps90
    go_wp2_with fail
    refine HU.mono ?_
    rintro e w1 ⟨rfl, hb⟩
    go_wp2_with fail
    go_ret
    rw [HE.out]
    exact ⟨vR, HNR.out, rfl, HS.out w1 hb, Tu.of_below hb⟩
end Go.Proofs.YtcloljkaojnipaaGreatDoor
namespace Go.Proofs.YtcloljkaojnipaaGreatDoor
open Go Go.RowKit

set_option maxRecDepth 100000 in
set_option maxHeartbeats 2000000 in
theorem rdPathW_any (L : Lo) (S : Pl.PSt) (vR vW : Value) (s : ByteArray) (w : World) (T : PT w) (h : Sta L S vR vW w) (hs : s.size ≤ 16777216) (hv : ∀ s, vR ≠ .string s ∧ vW ≠ .string s) (hl : S.W.length ≤ 1024) (_hG : 9 ≤ L.pg) :
    Calls Tryz.prog 90 #[.string s, .pointer (some ⟨L.bW, 0, none⟩)] w fun e w' => ∃ v', (∀ s, v' ≠ .string s) ∧
      e = .returned (.int .i64 ((Pl.pathR S.W s).1 : Nat)) ∧ Sta L { S with W := (Pl.pathR S.W s).2 } vR v' w' ∧ Tu L.tch w w' := by
  obtain ⟨i0, hi0, hz0, hz1, hz2⟩ := info_parts Tryz.infoPath
  have HV : Hid (∀ s, vR ≠ .string s ∧ vW ≠ .string s) := hv
  clear hv
  have HU := unq_any s w T.tabs hs
  have hul := Ln.unqP_len s
  have HF : Hid (¬ (Ln.unqP s).2.2.1 = 0 ∨ (Ln.unqP s).2.1 < s.size → Pl.pathR S.W s = (2, S.W)) := Pl.pathR_form
  have HP : Hid (¬ (¬ (Ln.unqP s).2.2.1 = 0 ∨ (Ln.unqP s).2.1 < s.size) → ¬ (Pl.normalP [] (Ln.bs (Ln.unqP s).1)).2.2 = 0 ∨ ¬ (Ln.unqP s).1.head? = some 47 → Pl.pathR S.W s = (5, S.W)) := Pl.pathR_path
  have HM : Hid (¬ (¬ (Ln.unqP s).2.2.1 = 0 ∨ (Ln.unqP s).2.1 < s.size) → ¬ (¬ (Pl.normalP [] (Ln.bs (Ln.unqP s).1)).2.2 = 0 ∨ ¬ (Ln.unqP s).1.head? = some 47) → S.W.length = 1024 → Pl.pathR S.W s = (6, S.W)) := Pl.pathR_many
  have HO : Hid (¬ (¬ (Ln.unqP s).2.2.1 = 0 ∨ (Ln.unqP s).2.1 < s.size) → ¬ (¬ (Pl.normalP [] (Ln.bs (Ln.unqP s).1)).2.2 = 0 ∨ ¬ (Ln.unqP s).1.head? = some 47) → ¬ S.W.length = 1024 → Pl.pathR S.W s = (0, S.W ++ [(Pl.normalP [] (Ln.bs (Ln.unqP s).1)).1])) := Pl.pathR_ok
  generalize Ln.unqP s = U at *
  obtain ⟨u, n, why, at0⟩ := U
  simp only at HU hul HF HP HM HO
  have HS : Hid (∀ w', Below w.heap.size w w' → Sta L S vR vW w') := fun w' hb => h.below hb
  have NR : ∀ s, vW ≠ .string s := fun s => (HV.out s).2
  clear h
  have HNR : Hid (∀ s, vW ≠ .string s) := NR
  clear NR
  by_cases c1 : why = 0
  · by_cases c2 : n < s.size
    · have HE : Hid (Pl.pathR S.W s = (2, S.W)) := HF.out (.inr c2)
      subst c1
      have d2 : decide ((n : Int) < (s.size : Int)) = true := decide_eq_true (by omega)
      have c2' : (n : Int) < (s.size : Int) := by omega
      go_enter Tryz.func90, Tryz.ntmps90
      go_wp2_with fail
      refine HU.mono ?_
      rintro e w1 ⟨rfl, hb⟩
      go_wp2_with fail
      go_ret
      rw [HE.out]
      exact ⟨vW, HNR.out, rfl, HS.out w1 hb, Tu.of_below hb⟩
    subst c1
    have d2 : decide ((n : Int) < (s.size : Int)) = false := decide_eq_false (by omega)
    have c2' : ¬ (n : Int) < (s.size : Int) := by omega
    have G1 : Hid (¬ (¬ (0 : Int) = 0 ∨ n < s.size)) := by unfold Hid; omega
    have hub : (Ln.bs u).size ≤ 16777216 := by rw [Ln.bs_size]; omega
    have HH : Hid ((Ln.bs u).data.toList.head? = u.head?) := rfl
    have HN : Hid (∀ w1, Calls Tryz.prog 92 #[.slice none 0 0, .string (Ln.bs u)] w1 fun e w' => ∃ a c, e = .returned (.tuple #[.slice a (Pl.normalP [] (Ln.bs u)).1.length c, .bool (Pl.normalP [] (Ln.bs u)).2.1, .int .i64 (Pl.normalP [] (Ln.bs u)).2.2]) ∧ Strs w' a c (Pl.normalP [] (Ln.bs u)).1 ∧ (∀ ad : Addr, a = some ad → w1.heap.size ≤ ad.block ∧ ad.block < w'.heap.size) ∧ Below w1.heap.size w1 w') := fun w1 => normal_nil (Ln.bs u) w1 hub
    have HR : Hid ((Pl.normalP [] (Ln.bs u)).2.2 = 0 → 0 < (Ln.bs u).size) := fun q => Pl.size_pos (Pl.normal_right q).2.2.2
    have hnl := (Pl.normal_names [] (Ln.bs u)).2
    generalize hub2 : Ln.bs u = x at *
    clear hub2
    generalize Pl.normalP [] x = P at *
    obtain ⟨p, dir, wy⟩ := P
    simp only at HN HR hnl HP HM HO
    by_cases c3 : wy = 0
    · subst c3
      have hpos := HR.out rfl
      have HB : Hid (x.data.toList.head? = some x[0]) := Pl.head_byte hpos
      by_cases c4 : x[0] = 47
      · have G2 : Hid (¬ (¬ (0 : Int) = 0 ∨ ¬ u.head? = some 47)) := by
          unfold Hid
          rw [← HH.out, HB.out, c4]; simp
        have d4 : ((x[0].toNat : Int) != 47) = false := by rw [c4]; rfl
        clear c4
        by_cases c5 : S.W.length = 1024
        · have HE : Hid (Pl.pathR S.W s = (6, S.W)) := HM.out (by first | exact G1.out | (simpa using G1.out)) (by first | exact G2.out | (simpa using G2.out)) c5
          have HL : Hid (S.W.length = 1024) := c5
          clear c5
          go_enter Tryz.func90, Tryz.ntmps90
          go_wp2_with fail
          refine HU.mono ?_
          rintro e w1 ⟨rfl, hb1⟩
          go_wp2_with fail
          refine (HN.out w1).mono ?_
          rintro e w2 ⟨a, c, rfl, hst, had, hb2⟩
          have hB := hb1.trans (hb2.mono hb1.size)
          have HS2 : Hid (Sta L S vR vW w2) := HS.out w2 hB
          have q1 : w2.cell? ⟨L.bW, 0, none⟩ = some (.pointer (some ⟨L.pg, 1, none⟩)) := by simp only [World.cell?, HS2.out.bx.s]; rfl
          have q2 : w2.cell? ⟨L.pg, 1, none⟩ = some vW := by simp only [World.cell?, HS2.out.p]; rfl
          obtain ⟨xs, ox, ex, ex'⟩ := HS2.out.W
          obtain ⟨av, cv, hve, _⟩ := PRow.pts ⟨xs, ox, ex⟩ (by omega)
          rw [HL.out] at hve
          subst hve
          have HSt : Hid _ := hst
          have HAd : Hid _ := had
          clear ox ex ex' hst had hb1 hb2
          go_wp2_with fail
          go_ret
          rw [HE.out]
          exact ⟨_, HNR.out, rfl, HS2.out, Tu.of_below hB⟩
        · have HE : Hid (Pl.pathR S.W s = (0, S.W ++ [p])) := HO.out (by first | exact G1.out | (simpa using G1.out)) (by first | exact G2.out | (simpa using G2.out)) c5
          have d5 : ((S.W.length : Int) == 1024) = false := by rw [beq_eq_false_iff_ne]; omega
          go_enter Tryz.func90, Tryz.ntmps90
          go_wp2_with fail
          refine HU.mono ?_
          rintro e w1 ⟨rfl, hb1⟩
          go_wp2_with fail
          refine (HN.out w1).mono ?_
          rintro e w2 ⟨a, c, rfl, hst, had, hb2⟩
          have hB := hb1.trans (hb2.mono hb1.size)
          have HS2 : Hid (Sta L S vR vW w2) := HS.out w2 hB
          have HS1 : Hid (Sta L S vR vW w1) := HS.out w1 hb1
          have q1 : w2.cell? ⟨L.bW, 0, none⟩ = some (.pointer (some ⟨L.pg, 1, none⟩)) := by simp only [World.cell?, HS2.out.bx.s]; rfl
          have q2 : w2.cell? ⟨L.pg, 1, none⟩ = some vW := by simp only [World.cell?, HS2.out.p]; rfl
          have q3 : w2.frozen? ⟨L.pg, 1, none⟩ = false := HS2.out.pf 1
          have q4 : L.bW ≠ L.pg := HS2.out.bx.wp
          obtain ⟨xs, ox, ex, ex'⟩ := HS2.out.W
          have off : ∀ v : Value, (∀ b, v.ownBlock = some b → b < w1.heap.size) → Off a p v.ownBlock := fun v hv hp ad e q => by
            have k1 := (had ad e).1
            have k2 := hv _ q.symm
            omega
          have offR : Off a p vR.ownBlock := off vR (fun b hb => by obtain ⟨ys, k, _⟩ := HS1.out.R; exact (k.lt b hb).2)
          have offW : Off a p vW.ownBlock := off vW (fun b hb => by obtain ⟨ys, k, _⟩ := HS1.out.W; exact (k.lt b hb).2)
          have hst' := hst.len
          have hNN := HS2.out.NN
          have hpN := HS2.out.bx.pN
          have hpl : L.pg < w2.heap.size := by omega
          have hbl : L.bW < w2.heap.size := lt_of_block HS2.out.bx.s
          have Hfin : Hid (∀ (o : Obj) (g cc : Nat) (w3 : World), w3.ownsRow L.N 26 1 (.slice (some ⟨g, 0, none⟩) (S.W.length + 1) cc) (S.W.length + 1) (xs ++ [.slice a p.length c]) → (w2.drew.alloc o).grownBy w3 vW.ownBlock → (vW.ownBlock = some g ∨ g = (w2.drew.alloc o).heap.size) →
              (w3.cell? ⟨L.pg, 1, none⟩ = some vW ∧ w3.frozen? ⟨L.pg, 1, none⟩ = false ∧ w3.cell? ⟨L.bW, 0, none⟩ = some (.pointer (some ⟨L.pg, 1, none⟩))) ∧ Sta L { S with W := S.W ++ [p] } vR (.slice (some ⟨g, 0, none⟩) (S.W.length + 1) cc) (w3.setCell ⟨L.pg, 1, none⟩ (.slice (some ⟨g, 0, none⟩) (S.W.length + 1) cc)) ∧ Tu L.tch w2 (w3.setCell ⟨L.pg, 1, none⟩ (.slice (some ⟨g, 0, none⟩) (S.W.length + 1) cc))) := fun o g cc w3 k1 k2 k3 => by
            have hs4 : (w2.drew.alloc o).heap.size = w2.heap.size + 1 := by simp
            have tu : Tu (fun k => vW.ownBlock = some k) w2 w3 := by
              have y : Below w2.heap.size w2 (w2.drew.alloc o) := ((Below.refl _ w2).drew).alloc (Nat.le_refl _) o
              exact ⟨k2.os.trans y.os, k2.tape.trans y.tape, k2.output.trans y.output, Nat.le_trans y.size k2.size, fun k hk hn => (k2.block k (by omega) (fun e => hn e.symm)).trans (y.block k hk)⟩
            have hrow : ∀ k, vW.ownBlock = some k → L.N ≤ k := fun k hk => (ox.lt k hk).1
            have hat : (Value.slice (some ⟨g, 0, none⟩) (S.W.length + 1) cc).ownBlock = vW.ownBlock ∨ (Value.slice (some ⟨g, 0, none⟩) (S.W.length + 1) cc).ownBlock = some (w2.heap.size + 1) := by
              rcases k3 with k3 | k3
              · exact .inl k3.symm
              · exact .inr (by rw [k3, hs4]; rfl)
            have offN : Off a p (Value.slice (some ⟨g, 0, none⟩) (S.W.length + 1) cc).ownBlock := by
              rcases hat with e | e
              · rw [e]; exact offW
              · rw [e]; exact hst.off (by omega)
            refine ⟨⟨?_, ?_, ?_⟩, HS2.out.putW ox ex ex' hst offW offR offN k1 tu hat (by omega) HV.out⟩
            · rw [cell_blk (tu.block L.pg (lt_of_block HS2.out.p) (fun e => by have := hrow _ e; omega))]; exact q2
            · have e := (tu.block L.pg (lt_of_block HS2.out.p) (fun e => by have := hrow _ e; omega)).trans HS2.out.p
              exact frozen_of_row w3 _ 1 _ _ e
            · rw [cell_blk (tu.block L.bW (lt_of_block HS2.out.bx.s) (fun e => by have := hrow _ e; have := HS2.out.bx.wN; omega))]; exact q1
          have hve : ∃ av cv, vW = .slice av S.W.length cv := by
            obtain ⟨av, cv, e, _⟩ := PRow.pts ⟨xs, ox, ex⟩ (by omega)
            exact ⟨av, cv, e⟩
          obtain ⟨av, cv, rfl⟩ := hve
          have HSt : Hid _ := hst
          have HAd : Hid _ := had
          have HOx : Hid _ := ox
          have HBb : Hid _ := hB
          have Hl5 : Hid (¬ S.W.length = 1024) := c5
          clear ox ex ex' hst had hb1 hb2 offR offW off hB c5
          generalize L.bW = gb at *
          go_wp2_with fail
          go_region_law (refine step_append_lies _ rfl (.tmp 46) (.tmp 48) 22 rfl L.N 26 i0 _ 1 24 Tryz.underlying22 hi0 hz0 hz1 hz2 rfl (by decide) (.slice av S.W.length cv) S.W.length xs (by simp [Act.eval]) (World.ownsRow.alloc (World.ownsRow.drew HOx.out) _) ⟨w2.drew.heap.size, 0, none⟩ 1 1 [.slice a p.length c] (by simp [Act.eval]) rfl (cell_one_new _ _ _) (by intro u hu; simp at hu; subst hu; rfl) (by decide) (by unfold maxLen; omega) (by omega) (by simp; omega) _ rfl ?_; intro g cc w3 ho hg hat hlt3; have z3 := Hfin.out _ g cc w3 ho hg hat; have Hz3 : Hid _ := z3.2; obtain ⟨s1, s2, s3⟩ := z3.1; clear z3 ho hg hat)
          go_wp2_with fail
          all_goals
            go_ret
            rw [HE.out]
            exact ⟨_, fun s => by simp, rfl, Hz3.out.1, (Tu.of_below HBb.out).trans Hz3.out.2 (fun k _ e => e)⟩
      · have G2 : Hid (¬ (0 : Int) = 0 ∨ ¬ u.head? = some 47) := by
          unfold Hid
          refine .inr ?_
          rw [← HH.out, HB.out]
          intro q
          exact c4 (Option.some.inj q)
        have HE : Hid (Pl.pathR S.W s = (5, S.W)) := HP.out (by first | exact G1.out | (simpa using G1.out)) (by first | exact G2.out | (simpa using G2.out))
        have d4 : ((x[0].toNat : Int) != 47) = true := by
          rw [bne_iff_ne]; intro e; exact c4 (by rw [← UInt8.toNat_inj]; simp; omega)
        clear c4
        go_enter Tryz.func90, Tryz.ntmps90
        go_wp2_with fail
        refine HU.mono ?_
        rintro e w1 ⟨rfl, hb1⟩
        go_wp2_with fail
        refine (HN.out w1).mono ?_
        rintro e w2 ⟨a, c, rfl, hst, had, hb2⟩
        have hB := hb1.trans (hb2.mono hb1.size)
        have HSt : Hid _ := hst
        have HAd : Hid _ := had
        clear hst had hb1 hb2
        go_wp2_with fail
        go_ret
        rw [HE.out]
        exact ⟨vW, HNR.out, rfl, HS.out w2 hB, Tu.of_below hB⟩
    · have HE : Hid (Pl.pathR S.W s = (5, S.W)) := HP.out (by first | exact G1.out | (simpa using G1.out)) (.inl c3)
      have d3 : (wy != 0) = true := by rw [bne_iff_ne]; exact c3
      clear c3
      go_enter Tryz.func90, Tryz.ntmps90
      go_wp2_with fail
      refine HU.mono ?_
      rintro e w1 ⟨rfl, hb1⟩
      go_wp2_with fail
      refine (HN.out w1).mono ?_
      rintro e w2 ⟨a, c, rfl, hst, had, hb2⟩
      have hB := hb1.trans (hb2.mono hb1.size)
      have HSt : Hid _ := hst
      have HAd : Hid _ := had
      clear hst had hb1 hb2
      go_wp2_with fail
      go_ret
      rw [HE.out]
      exact ⟨vW, HNR.out, rfl, HS.out w2 hB, Tu.of_below hB⟩
  · have HE : Hid (Pl.pathR S.W s = (2, S.W)) := HF.out (.inl c1)
    have d1 : (why != 0) = true := by rw [bne_iff_ne]; exact c1
    clear c1
    go_enter Tryz.func90, Tryz.ntmps90
    go_wp2_with fail
    refine HU.mono ?_
    rintro e w1 ⟨rfl, hb⟩
    go_wp2_with fail
    go_ret
    rw [HE.out]
    exact ⟨vW, HNR.out, rfl, HS.out w1 hb, Tu.of_below hb⟩
end Go.Proofs.YtcloljkaojnipaaGreatDoor
namespace Go.Proofs.YtcloljkaojnipaaGreatDoor
open Go.RowKit

namespace Pl
/-- What a line does: the least rule that it breaks (0: none), and what was read then. -/
def lineR (S : PSt) (l : List UInt8) : Nat × PSt :=
  if (Lib.cut l [32]).2.2 = false then (1, S)
  else if (Lib.cut l [32]).1 = wordL 3 then numR S 3 (Lib.cut l [32]).2.1
  else if (Lib.cut l [32]).1 = wordL 2 then numR S 2 (Lib.cut l [32]).2.1
  else if (Lib.cut l [32]).1 = wordL 1 then numR S 1 (Lib.cut l [32]).2.1
  else if (Lib.cut l [32]).1 = wordL 0 then numR S 0 (Lib.cut l [32]).2.1
  else if (Lib.cut l [32]).1 = readL then ((pathR S.R (Ln.bs (Lib.cut l [32]).2.1)).1, { S with R := (pathR S.R (Ln.bs (Lib.cut l [32]).2.1)).2 })
  else if (Lib.cut l [32]).1 = writeL then ((pathR S.W (Ln.bs (Lib.cut l [32]).2.1)).1, { S with W := (pathR S.W (Ln.bs (Lib.cut l [32]).2.1)).2 })
  else (1, S)
theorem pathR_len {l : List (List ByteArray)} {s : ByteArray} (h : l.length ≤ 1024) : (pathR l s).2.length ≤ 1024 := by
  unfold pathR
  split
  · exact h
  · split
    · exact h
    · split
      · exact h
      · simp; omega
theorem numR_paths (S : PSt) (i : Nat) (l : List UInt8) : (numR S i l).2.R = S.R ∧ (numR S i l).2.W = S.W := by
  unfold numR
  split
  · exact ⟨rfl, rfl⟩
  · split
    · exact ⟨rfl, rfl⟩
    · split <;> exact ⟨rfl, rfl⟩
theorem lineR_len {S : PSt} {l : List UInt8} (h : S.R.length ≤ 1024 ∧ S.W.length ≤ 1024) : (lineR S l).2.R.length ≤ 1024 ∧ (lineR S l).2.W.length ≤ 1024 := by
  have hn : ∀ i x, (numR S i x).2.R.length ≤ 1024 ∧ (numR S i x).2.W.length ≤ 1024 := fun i x => by rw [(numR_paths S i x).1, (numR_paths S i x).2]; exact h
  unfold lineR
  split
  · exact h
  · split
    · exact hn _ _
    · split
      · exact hn _ _
      · split
        · exact hn _ _
        · split
          · exact hn _ _
          · split
            · exact ⟨pathR_len h.1, h.2⟩
            · split
              · exact ⟨h.1, pathR_len h.2⟩
              · exact h
theorem cut_len (l : List UInt8) : (Lib.cut l [32]).1.length ≤ l.length ∧ (Lib.cut l [32]).2.1.length ≤ l.length := by
  unfold Lib.cut
  split
  · simp; omega
  · simp
end Pl
/-- What holds when a line is read. -/
structure Rdy (L : Lo) (S : Pl.PSt) (vR vW : Value) (m n : Nat) (w : World) : Prop where
  T : PT w
  st : Sta L S vR vW w
  mp : MapIs w m n (rdK L.bR L.bW L.qb L.tb 4)
  hv : ∀ s, vR ≠ .string s ∧ vW ≠ .string s
  hl : S.R.length ≤ 1024 ∧ S.W.length ≤ 1024
  hG : ∀ k, L.tch k → 9 ≤ k
  mN : m < L.N
  mt : ¬ L.tch m
theorem Rdy.under {L : Lo} {S : Pl.PSt} {vR vW : Value} {m n : Nat} {w w' : World} (h : Rdy L S vR vW m n w) (hb : Below w.heap.size w w') : Rdy L S vR vW m n w' :=
  ⟨h.T.under hb, h.st.below hb, h.mp.under (hb.block m h.mp.lt), h.hv, h.hl, h.hG, h.mN, h.mt⟩
theorem Rdy.next {L : Lo} {S S' : Pl.PSt} {vR vW vR' vW' : Value} {m n : Nat} {w w' : World} (h : Rdy L S vR vW m n w) (ht : Tu L.tch w w') (hs : Sta L S' vR' vW' w') (hv : ∀ s, vR' ≠ .string s ∧ vW' ≠ .string s) (hl : S'.R.length ≤ 1024 ∧ S'.W.length ≤ 1024) : Rdy L S' vR' vW' m n w' :=
  ⟨h.T.tu ht h.hG, hs, h.mp.under (ht.block m h.mp.lt h.mt), hv, hl, h.hG, h.mN, h.mt⟩

set_option maxRecDepth 100000 in
set_option maxHeartbeats 2000000 in
theorem readLine_any (L : Lo) (S : Pl.PSt) (vR vW : Value) (m n : Nat) (s : ByteArray) (w : World) (h : Rdy L S vR vW m n w) (hs : s.size ≤ 16777216) :
    Calls Tryz.prog 46 #[.map (some m), .string s] w fun e w' => ∃ vR' vW', e = .returned (.int .i64 ((Pl.lineR S s.data.toList).1 : Nat)) ∧ Rdy L (Pl.lineR S s.data.toList).2 vR' vW' m n w' ∧ Tu L.tch w w' := by
  have HC := cut_any s w h.T (by omega)
  have hcl := Pl.cut_len s.data.toList
  rw [Ln.szL] at hcl
  have HL : Hid (∀ w1, Below w.heap.size w w1 → (Instr.lookup 61 (.map (some m)) (.string (Ln.bs (Lib.cut s.data.toList [32]).1)) true).run Tryz.prog w1 = .ok (.tuple #[(rdK L.bR L.bW L.qb L.tb 4 (Lib.cut s.data.toList [32]).1).getD .nilFunc, .bool (rdK L.bR L.bW L.qb L.tb 4 (Lib.cut s.data.toList [32]).1).isSome]) w1) := fun w1 hb => (h.under hb).mp.look _ (by rw [Ln.bs_size]; unfold maxLen; omega)
  have HLen : Hid ((Pl.lineR S s.data.toList).2.R.length ≤ 1024 ∧ (Pl.lineR S s.data.toList).2.W.length ≤ 1024) := Pl.lineR_len h.hl
  have HE : Hid (Pl.lineR S s.data.toList = (if (Lib.cut s.data.toList [32]).2.2 = false then (1, S)
  else if (Lib.cut s.data.toList [32]).1 = Pl.wordL 3 then Pl.numR S 3 (Lib.cut s.data.toList [32]).2.1
  else if (Lib.cut s.data.toList [32]).1 = Pl.wordL 2 then Pl.numR S 2 (Lib.cut s.data.toList [32]).2.1
  else if (Lib.cut s.data.toList [32]).1 = Pl.wordL 1 then Pl.numR S 1 (Lib.cut s.data.toList [32]).2.1
  else if (Lib.cut s.data.toList [32]).1 = Pl.wordL 0 then Pl.numR S 0 (Lib.cut s.data.toList [32]).2.1
  else if (Lib.cut s.data.toList [32]).1 = readL then ((Pl.pathR S.R (Ln.bs (Lib.cut s.data.toList [32]).2.1)).1, { S with R := (Pl.pathR S.R (Ln.bs (Lib.cut s.data.toList [32]).2.1)).2 })
  else if (Lib.cut s.data.toList [32]).1 = writeL then ((Pl.pathR S.W (Ln.bs (Lib.cut s.data.toList [32]).2.1)).1, { S with W := (Pl.pathR S.W (Ln.bs (Lib.cut s.data.toList [32]).2.1)).2 })
  else (1, S))) := rfl
  generalize Lib.cut s.data.toList [32] = C at *
  obtain ⟨word, rest, blank⟩ := C
  simp only at HC hcl HL HE
  have HH : Hid (Rdy L S vR vW m n w) := h
  clear h
  have hrs : (Ln.bs rest).size ≤ 16777216 := by rw [Ln.bs_size]; omega
  have HB : Hid ((Ln.bs rest).data.toList = rest) := rfl
  cases blank
  · have HE1 : Hid (Pl.lineR S s.data.toList = (1, S)) := HE.out.trans (if_pos rfl)
    clear HE
    go_enter Tryz.func46, Tryz.ntmps46
    go_wp2_with fail
    refine HC.mono ?_
    rintro e w1 ⟨rfl, hb⟩
    have hlk := HL.out w1 hb
    go_wp2_with fail
    go_ret
    rw [HE1.out]
    exact ⟨vR, vW, rfl, HH.out.under hb, Tu.of_below hb⟩
  have HE0 := HE.out.trans (if_neg (by decide))
  have HE0 : Hid _ := HE0
  clear HE
  by_cases c3 : word = Pl.wordL 3
  · have HE1 : Hid (Pl.lineR S s.data.toList = Pl.numR S 3 rest) := HE0.out.trans (if_pos c3)
    have HF : Hid (rdK L.bR L.bW L.qb L.tb 4 word = some (numV (L.qb 3) (L.tb 3))) := by unfold Hid; rw [c3]; rfl
    go_enter Tryz.func46, Tryz.ntmps46
    go_wp2_with fail
    refine HC.mono ?_
    rintro e w1 ⟨rfl, hb⟩
    have hlk := HL.out w1 hb
    rw [HF.out] at hlk
    simp only [Option.getD_some, Option.isSome_some] at hlk
    have H1 : Hid (Rdy L S vR vW m n w1) := HH.out.under hb
    clear c3
    go_wp2_with fail
    refine (rdNum_any L S vR vW 3 (by decide) (Ln.bs rest) w1 H1.out.T H1.out.st hrs H1.out.hv).mono ?_
    rw [HB.out]
    rintro e w2 ⟨rfl, hst, htu⟩
    have H2 : Hid (Rdy L (Pl.numR S 3 rest).2 vR vW m n w2 ∧ Tu L.tch w w2) := ⟨H1.out.next htu hst H1.out.hv (by have := HLen.out; rw [HE1.out] at this; exact this), (Tu.of_below hb).trans htu (fun k _ e => e)⟩
    clear hst htu
    go_wp2_with fail
    go_ret
    rw [HE1.out]
    exact ⟨vR, vW, rfl, H2.out.1, H2.out.2⟩
  have HE4 : Hid _ := HE0.out.trans (if_neg c3)
  by_cases c2 : word = Pl.wordL 2
  · have HE1 : Hid (Pl.lineR S s.data.toList = Pl.numR S 2 rest) := HE4.out.trans (if_pos c2)
    have HF : Hid (rdK L.bR L.bW L.qb L.tb 4 word = some (numV (L.qb 2) (L.tb 2))) := by unfold Hid; rw [c2]; rfl
    go_enter Tryz.func46, Tryz.ntmps46
    go_wp2_with fail
    refine HC.mono ?_
    rintro e w1 ⟨rfl, hb⟩
    have hlk := HL.out w1 hb
    rw [HF.out] at hlk
    simp only [Option.getD_some, Option.isSome_some] at hlk
    have H1 : Hid (Rdy L S vR vW m n w1) := HH.out.under hb
    clear c2
    go_wp2_with fail
    refine (rdNum_any L S vR vW 2 (by decide) (Ln.bs rest) w1 H1.out.T H1.out.st hrs H1.out.hv).mono ?_
    rw [HB.out]
    rintro e w2 ⟨rfl, hst, htu⟩
    have H2 : Hid (Rdy L (Pl.numR S 2 rest).2 vR vW m n w2 ∧ Tu L.tch w w2) := ⟨H1.out.next htu hst H1.out.hv (by have := HLen.out; rw [HE1.out] at this; exact this), (Tu.of_below hb).trans htu (fun k _ e => e)⟩
    clear hst htu
    go_wp2_with fail
    go_ret
    rw [HE1.out]
    exact ⟨vR, vW, rfl, H2.out.1, H2.out.2⟩
  have HE3 : Hid _ := HE4.out.trans (if_neg c2)
  by_cases c1 : word = Pl.wordL 1
  · have HE1 : Hid (Pl.lineR S s.data.toList = Pl.numR S 1 rest) := HE3.out.trans (if_pos c1)
    have HF : Hid (rdK L.bR L.bW L.qb L.tb 4 word = some (numV (L.qb 1) (L.tb 1))) := by unfold Hid; rw [c1]; rfl
    go_enter Tryz.func46, Tryz.ntmps46
    go_wp2_with fail
    refine HC.mono ?_
    rintro e w1 ⟨rfl, hb⟩
    have hlk := HL.out w1 hb
    rw [HF.out] at hlk
    simp only [Option.getD_some, Option.isSome_some] at hlk
    have H1 : Hid (Rdy L S vR vW m n w1) := HH.out.under hb
    clear c1
    go_wp2_with fail
    refine (rdNum_any L S vR vW 1 (by decide) (Ln.bs rest) w1 H1.out.T H1.out.st hrs H1.out.hv).mono ?_
    rw [HB.out]
    rintro e w2 ⟨rfl, hst, htu⟩
    have H2 : Hid (Rdy L (Pl.numR S 1 rest).2 vR vW m n w2 ∧ Tu L.tch w w2) := ⟨H1.out.next htu hst H1.out.hv (by have := HLen.out; rw [HE1.out] at this; exact this), (Tu.of_below hb).trans htu (fun k _ e => e)⟩
    clear hst htu
    go_wp2_with fail
    go_ret
    rw [HE1.out]
    exact ⟨vR, vW, rfl, H2.out.1, H2.out.2⟩
  have HE2 : Hid _ := HE3.out.trans (if_neg c1)
  by_cases c0 : word = Pl.wordL 0
  · have HE1 : Hid (Pl.lineR S s.data.toList = Pl.numR S 0 rest) := HE2.out.trans (if_pos c0)
    have HF : Hid (rdK L.bR L.bW L.qb L.tb 4 word = some (numV (L.qb 0) (L.tb 0))) := by unfold Hid; rw [c0]; rfl
    go_enter Tryz.func46, Tryz.ntmps46
    go_wp2_with fail
    refine HC.mono ?_
    rintro e w1 ⟨rfl, hb⟩
    have hlk := HL.out w1 hb
    rw [HF.out] at hlk
    simp only [Option.getD_some, Option.isSome_some] at hlk
    have H1 : Hid (Rdy L S vR vW m n w1) := HH.out.under hb
    clear c0
    go_wp2_with fail
    refine (rdNum_any L S vR vW 0 (by decide) (Ln.bs rest) w1 H1.out.T H1.out.st hrs H1.out.hv).mono ?_
    rw [HB.out]
    rintro e w2 ⟨rfl, hst, htu⟩
    have H2 : Hid (Rdy L (Pl.numR S 0 rest).2 vR vW m n w2 ∧ Tu L.tch w w2) := ⟨H1.out.next htu hst H1.out.hv (by have := HLen.out; rw [HE1.out] at this; exact this), (Tu.of_below hb).trans htu (fun k _ e => e)⟩
    clear hst htu
    go_wp2_with fail
    go_ret
    rw [HE1.out]
    exact ⟨vR, vW, rfl, H2.out.1, H2.out.2⟩
  have HE1a : Hid _ := HE2.out.trans (if_neg c0)
  by_cases pR : word = readL
  · have HE1 : Hid (Pl.lineR S s.data.toList = ((Pl.pathR S.R (Ln.bs rest)).1, { S with R := (Pl.pathR S.R (Ln.bs rest)).2 })) := HE1a.out.trans (if_pos pR)
    have HF : Hid (rdK L.bR L.bW L.qb L.tb 4 word = some (pathV L.bR)) := by unfold Hid; rw [pR]; rfl
    go_enter Tryz.func46, Tryz.ntmps46
    go_wp2_with fail
    refine HC.mono ?_
    rintro e w1 ⟨rfl, hb⟩
    have hlk := HL.out w1 hb
    rw [HF.out] at hlk
    simp only [Option.getD_some, Option.isSome_some] at hlk
    have H1 : Hid (Rdy L S vR vW m n w1) := HH.out.under hb
    clear pR
    go_wp2_with fail
    refine (rdPathR_any L S vR vW (Ln.bs rest) w1 H1.out.T H1.out.st hrs H1.out.hv H1.out.hl.1 (H1.out.hG _ (.inl rfl))).mono ?_
    rintro e w2 ⟨v', hv', rfl, hst, htu⟩
    have H2 : Hid (Rdy L { S with R := (Pl.pathR S.R (Ln.bs rest)).2 } v' vW m n w2 ∧ Tu L.tch w w2) := ⟨H1.out.next htu hst (fun s => ⟨hv' s, (H1.out.hv s).2⟩) (by have := HLen.out; rw [HE1.out] at this; exact this), (Tu.of_below hb).trans htu (fun k _ e => e)⟩
    clear hst htu hv'
    go_wp2_with fail
    go_ret
    rw [HE1.out]
    exact ⟨v', vW, rfl, H2.out.1, H2.out.2⟩
  have HE1b : Hid _ := HE1a.out.trans (if_neg pR)
  by_cases pW : word = writeL
  · have HE1 : Hid (Pl.lineR S s.data.toList = ((Pl.pathR S.W (Ln.bs rest)).1, { S with W := (Pl.pathR S.W (Ln.bs rest)).2 })) := HE1b.out.trans (if_pos pW)
    have HF : Hid (rdK L.bR L.bW L.qb L.tb 4 word = some (pathV L.bW)) := by unfold Hid; rw [pW]; rfl
    go_enter Tryz.func46, Tryz.ntmps46
    go_wp2_with fail
    refine HC.mono ?_
    rintro e w1 ⟨rfl, hb⟩
    have hlk := HL.out w1 hb
    rw [HF.out] at hlk
    simp only [Option.getD_some, Option.isSome_some] at hlk
    have H1 : Hid (Rdy L S vR vW m n w1) := HH.out.under hb
    clear pW
    go_wp2_with fail
    refine (rdPathW_any L S vR vW (Ln.bs rest) w1 H1.out.T H1.out.st hrs H1.out.hv H1.out.hl.2 (H1.out.hG _ (.inl rfl))).mono ?_
    rintro e w2 ⟨v', hv', rfl, hst, htu⟩
    have H2 : Hid (Rdy L { S with W := (Pl.pathR S.W (Ln.bs rest)).2 } vR v' m n w2 ∧ Tu L.tch w w2) := ⟨H1.out.next htu hst (fun s => ⟨(H1.out.hv s).1, hv' s⟩) (by have := HLen.out; rw [HE1.out] at this; exact this), (Tu.of_below hb).trans htu (fun k _ e => e)⟩
    clear hst htu hv'
    go_wp2_with fail
    go_ret
    rw [HE1.out]
    exact ⟨vR, v', rfl, H2.out.1, H2.out.2⟩
  have HE1c : Hid _ := HE1b.out.trans (if_neg pW)
  have HF : Hid (rdK L.bR L.bW L.qb L.tb 4 word = none) := by
    unfold Hid
    rw [rdK, if_neg c3, rdK, if_neg c2, rdK, if_neg c1, rdK, if_neg c0, rdK, if_neg pR, if_neg pW]
  have HE2 : Hid (Pl.lineR S s.data.toList = (1, S)) := HE1c.out
  clear c0 c1 c2 c3 pR pW
  go_enter Tryz.func46, Tryz.ntmps46
  go_wp2_with fail
  refine HC.mono ?_
  rintro e w1 ⟨rfl, hb⟩
  have hlk := HL.out w1 hb
  rw [HF.out] at hlk
  simp only [Option.getD_none, Option.isSome_none] at hlk
  go_wp2_with fail
  go_ret
  rw [HE2.out]
  exact ⟨vR, vW, rfl, HH.out.under hb, Tu.of_below hb⟩
end Go.Proofs.YtcloljkaojnipaaGreatDoor
