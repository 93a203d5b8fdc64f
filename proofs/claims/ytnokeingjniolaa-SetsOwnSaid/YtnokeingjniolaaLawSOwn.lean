/- What SetsOwn answers. -/
import Derived.Test.YtnokeingjniolaaSSame
import Derived.Test.YtnokeingjniolaaSLives
import Derived.Deep.RegionWith
namespace Go.Proofs.Ytnokeingjniolaa
open Go.RowKit

theorem bcells_set (X : List UInt8) (k : Nat) (x : UInt8) : (bcells X).set k (.int .u8 (x.toNat : Int)) = bcells (X.set k x) := by
  unfold bcells
  rw [List.map_set]

set_option maxRecDepth 100000 in
set_option maxHeartbeats 2000000 in
theorem own_law (p : Nat → Bool) (w : World) :
    Calls Try.prog 8 #[St.setV p] w fun e w' => e = .returned (.bool true) ∧ Below w.heap.size w w' := by
  obtain ⟨i0, hi, hz0, hz1, hz2⟩ := info_parts Try.infoByte
  have HLV : Hid (∀ w, Calls Try.prog 11 #[] w fun e w' => e = .returned (.bool true) ∧ Below w.heap.size w w') := lives_any
  have HL : Hid ((St.lst p 256).length = St.cnt p 256) := St.lst_length p 256
  have hcl := St.cnt_le p 256
  have HB : Hid (∀ w1, Calls Try.prog 15 #[St.setV p] w1 fun e w' => ∃ v, e = .returned v ∧ w'.ownsRow w1.heap.size 5 1 v (St.cnt p 256) (bcells (St.lst p 256)) ∧ Below w1.heap.size w1 w') := bytes_any p
  have HRB : Hid (∀ w1, Calls Try.prog 16 #[St.setV p] w1 fun e w' => ∃ v, e = .returned v ∧ w'.ownsRow w1.heap.size 5 1 v (St.cnt p 256) (bcells (St.lst p 256)) ∧ Below w1.heap.size w1 w') := rbytes_any p
  generalize St.lst p 256 = L at *
  generalize St.cnt p 256 = n at *
  have hn := HL.out
  subst hn
  clear HL
  simp only [St.setV] at HB HRB ⊢
  go_enter Try.func8, Try.ntmps8
  go_wp2_with fail
  refine (HLV.out _).mono ?_
  rintro x w1 ⟨rfl, hb1⟩
  have S1 : SetAt w1 w.heap.size p := SetAt.under (hb := hb1) (h := at_new w p)
  have hn1 : Below w.heap.size w w1 := Below.more ((Below.refl _ _).alloc (Nat.le_refl _) _) hb1 (by simp)
  have hl1 := S1.lt
  obtain ⟨q0, q1, q2, q3⟩ := S1.cells
  clear hb1
  go_wp2_with fail
  refine (HB.out _).mono ?_
  rintro x w2 ⟨v, rfl, hown, hb2⟩
  have S2 := S1.under hb2
  have hn2 := Below.more hn1 hb2 hn1.size
  have hs2 := hb2.size
  clear hb2 q0 q1 q2 q3 S1
  obtain ⟨a, cap, rfl, _, _⟩ := own_bys hown rfl hcl
  go_wp2_with fail
  go_loopw [11] (fun i wr => ∃ (k : Nat) (X : List UInt8), k ≤ L.length ∧ i = .int .i64 k ∧ Hid (X.length = L.length) ∧ wr.ownsRow w1.heap.size 5 1 (.slice a L.length cap) L.length (bcells X) ∧ SetAt wr w.heap.size p ∧ Below w.heap.size w wr ∧ w2.heap.size ≤ wr.heap.size) (fun i _ => L.length - (intOf i).toNat)
  case atStart => exact ⟨0, L, Nat.zero_le _, rfl, rfl, hown, S2, hn2, Nat.le_refl _⟩
  case round =>
    clear hown S2 hn2
    obtain ⟨k, X, hk, rfl, HX, hown, S2, hn2, hs3⟩ := hrel
    by_cases hlt : k < L.length
    · rcases hown.2 with ⟨_, h0⟩ | ⟨g, cp, cur, hv, hbg, hg, _⟩
      · omega
      · simp only [Value.slice.injEq] at hv
        obtain ⟨rfl, _, rfl⟩ := hv
        have hc := hown.cellAt k (by omega)
        have hf := hown.frozenAt k
        have hc' : ∃ y, wr.cell? ⟨g, k, none⟩ = some y := ⟨_, hc.trans (List.getElem?_eq_getElem (by rw [bcells_length]; have := HX.out; omega))⟩
        clear hc
        obtain ⟨y, hc⟩ := hc'
        obtain ⟨st1, st2⟩ := hown.stored k (.int .u8 120)
        go_wp2_with fail
        refine ⟨⟨k + 1, X.set k 120, by omega, by go_num, by show _ = _; rw [List.length_set]; exact HX.out, ?_, S2.setCell _ (by show _ ≠ g; omega), hn2.setCell (p := ⟨g, k, none⟩) (by show _ ≤ g; omega) _, by simpa [World.setCell] using hs3⟩, ?_⟩
        · rw [← bcells_set]; exact st1
        · simp [intOf]; omega
    · have hXl := HX.out
      have hownX : wr.ownsRow w1.heap.size 5 1 (.slice a L.length cap) L.length (bcells X) := hown
      clear hXl
      go_wp2_with (at_builtin; refine wpList_append_own _ rfl (.tmp 18) (.tmp 19) 22 rfl w1.heap.size 5 i0 (.int .u8 0) 1 1 Try.underlying22 hi hz0 hz1 hz2 rfl (by decide) _ _ _ rfl (hown.alloc _) ⟨wr.heap.size, 0, none⟩ 2 2 [.int .u8 121, .int .u8 121] rfl rfl ?c1 ?c2 ?c3 ?c4 ?c5 ?_)
      case c1 =>
        intro j u hu
        rw [show (⟨wr.heap.size, 0, none⟩ : Addr).add j = ⟨wr.heap.size, j, none⟩ by unfold Addr.add; split <;> simp_all, cell_of_row _ _ j _ _ _ (heap_alloc_new wr _), ← hu]
        simp
      case c2 =>
        intro u hu
        simp only [List.mem_cons, List.not_mem_nil, or_false] at hu
        rcases hu with rfl | rfl <;> rfl
      case c3 => unfold maxLen; omega
      case c4 => omega
      case c5 => first | omega | (simp; omega)
      intro v3 w3 hown3 hgr3 _
      have S3 : SetAt w3 w.heap.size p := (S2.alloc _).grown hgr3 (fun e => by have := (hown.lt _ e).1; omega)
      have hn3 : Below w.heap.size w w3 := (hn2.alloc hn2.size _).grown hgr3 (by have := hn2.size; simp; omega) (fun g hg => by have := (hown.lt g hg).1; omega)
      obtain ⟨q0, q1, q2, q3⟩ := S3.cells
      rcases hown3.2 with ⟨_, h0⟩ | ⟨g3, cp3, cur3, hv3, _⟩
      · omega
      subst hv3
      clear hown3 hgr3 hown hownX
      have g1 : 1 < (L.length : Int) + 2 := by omega
      have g2 : decide (1 < (L.length : Int) + 2) = true := by simpa using g1
      have S3d : SetAt w3.drew w.heap.size p := S3
      have hn3d : Below w.heap.size w w3.drew := hn3.drew
      go_wp2_with fail
      go_region_with (first
        | (go_at_call 15; refine (HB.out _).mono ?_; rintro x wA ⟨vA, rfl, howA, hbA⟩; obtain ⟨aA, cA, rfl, hBA, _⟩ := own_bys howA rfl hcl; (first | (have SA := SB.under hbA; have hnA := Below.more hnB hbA hnB.size) | (have SA := S3d.under hbA; have hnA := Below.more hn3d hbA hn3d.size)); obtain ⟨qa0, qa1, qa2, qa3⟩ := SA.cells)
        | (go_at_call 16; refine (HRB.out _).mono ?_; rintro x wB ⟨vB, rfl, howB, hbB⟩; obtain ⟨aB, cB, rfl, hBB, _⟩ := own_bys howB rfl hcl; (first | (have SB := SA.under hbB; have hnB := Below.more hnA hbB hnA.size) | (have SB := S3d.under hbB; have hnB := Below.more hn3d hbB hn3d.size)); obtain ⟨qb0, qb1, qb2, qb3⟩ := SB.cells)
        | (go_at_call 14; (first | refine (same_any _ _ _ _ L _ (hBA.below hbB) hBB).mono ?_ | refine (same_any _ _ _ _ L _ hBA (hBB.below hbA)).mono ?_); rintro x wS ⟨rfl, nS, rfl⟩))
      all_goals
        go_wp2_with fail
        go_ret
        first
          | exact ⟨rfl, Below.drewN hnB nS⟩
          | exact ⟨rfl, Below.drewN hnA nS⟩
end Go.Proofs.Ytnokeingjniolaa
