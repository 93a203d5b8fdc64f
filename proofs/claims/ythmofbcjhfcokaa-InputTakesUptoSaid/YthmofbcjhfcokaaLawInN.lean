/- InputNil answers true. -/
import Derived.Test.YthmofbcjhfcokaaInF
namespace Go.Proofs.Ythmofbcjhfcokaa
open Go.RowKit

theorem Try.infoTold : (Try.prog.info? 48).map (fun i => (i.zero, i.size, i.bytes)) = some (some (.agg #[.string ⟨#[]⟩, .int .i64 0]), 2, 24) := by kernel_rfl
def tcells (l : List In.Tl) : List Value := l.flatMap fun x => [.string x.1, .int .i64 x.2]
theorem tcells_length (l : List In.Tl) : (tcells l).length = l.length * 2 := by
  induction l with
  | nil => rfl
  | cons x r ih => simp only [tcells, List.flatMap_cons, List.length_append, List.length_cons, List.length_nil] at ih ⊢; omega
theorem tcells_append (a b : List In.Tl) : tcells (a ++ b) = tcells a ++ tcells b := by simp [tcells]
theorem tcells_get : ∀ (l : List In.Tl) (i : Nat) (h : i < l.length), (tcells l)[i * 2]? = some (.string (l[i]'h).1) ∧ (tcells l)[i * 2 + 1]? = some (.int .i64 (l[i]'h).2)
  | [], i, h => absurd h (by simp)
  | x :: r, 0, h => by simp [tcells]
  | x :: r, i + 1, h => by
    have ih := tcells_get r i (by simpa using h)
    have e1 : (i + 1) * 2 = i * 2 + 1 + 1 := by omega
    have e2 : (i + 1) * 2 + 1 = i * 2 + 1 + 1 + 1 := by omega
    have e3 : tcells (x :: r) = .string x.1 :: .int .i64 x.2 :: tcells r := rfl
    rw [e2, e1, e3]
    simpa using ih
theorem own_tls {w : World} {base : Nat} {e : TypeId} {v : Value} {l : List In.Tl} (h : w.ownsRow base e 2 v l.length (tcells l)) :
    ∃ a cap, v = .slice a l.length cap ∧ Tls w a cap l ∧ ∀ ad, a = some ad → base ≤ ad.block ∧ ad.block < w.heap.size ∧ blk v = some ad.block := by
  rcases h.2 with ⟨hv, hn⟩ | ⟨g, cap, cur, hv, hb, hg, hcap, hmax, hsize, htake⟩
  · exact ⟨none, 0, by rw [hv, hn], ⟨fun i hi => absurd hi (by omega), by omega⟩, fun ad e => by cases e⟩
  · refine ⟨some ⟨g, 0, none⟩, cap, hv, ⟨fun i hi => ⟨g, 0, rfl, lt_of_block hg, ?_, ?_⟩, hcap⟩, fun ad e => by cases e; exact ⟨hb, lt_of_block hg, by rw [hv]; rfl⟩⟩
    · subst hv
      rw [Nat.zero_add, h.cellAt (i * 2) (by omega)]; exact (tcells_get l i hi).1
    · subst hv
      rw [Nat.zero_add, h.cellAt (i * 2 + 1) (by omega)]; exact (tcells_get l i hi).2

/-- The source's block, as it is. -/
structure Nk (W : World) (gs : Nat) (w : World) : Prop where
  lt : gs < w.heap.size
  ask : w.cell? ⟨gs, 1, none⟩ = some (.slice none 0 0)
  below : Below W.heap.size W w
theorem Nk.still {W w w' : World} {gs : Nat} (h : Nk W gs w) (hb : Below w.heap.size w w') : Nk W gs w' :=
  ⟨Nat.lt_of_lt_of_le h.lt hb.size, (hb.cell (p := ⟨gs, 1, none⟩) h.lt).trans h.ask, below_up h.below hb (Nat.le_refl _)⟩
set_option maxRecDepth 100000 in
set_option maxHeartbeats 1000000 in
theorem law_nil (n : Int) (w : World) : Calls Try.prog 5 #[.int .i64 n] w fun e w' => e = .returned (.bool true) ∧ Below w.heap.size w w' := by
  obtain ⟨i0, hi, hz0, hz1, hz2⟩ := info_parts Try.infoTold
  have HT : Hid (∀ w1, Calls Try.prog 11 #[.pointer none] w1 _) := fun w1 => take_nil w1
  go_enter Try.func5, Try.ntmps5
  go_wp2_with (go_at_call 11; refine (HT.out _).mono ?_; rintro e w1 ⟨rfl, hb1⟩)
  obtain ⟨W2, hW2⟩ : ∃ W2, W2 = (w1.alloc (.cells #[.string ⟨#[]⟩, .bool false] 34)).alloc (.cells #[.slice none 0 0, .slice none 0 0] 27) := ⟨_, rfl⟩
  have HW2 : Hid _ := hW2
  have hsz2 : Hid (W2.heap.size = w1.heap.size + 1 + 1) := by show _ = _; rw [hW2]; simp
  rw [← hW2]
  clear hW2
  go_loopw [8] (fun i wr => ∃ (k : Nat) (v : Value) (xs : List Value), k ≤ 3 ∧ i = .int .i64 k ∧ wr.heap[w1.heap.size + 1]? = some (.cells #[v, .slice none 0 0] 27) ∧ wr.ownsRow (w1.heap.size + 1 + 1) 48 2 v k xs ∧ Hid (Tu (fun q => q = w1.heap.size + 1) W2 wr)) (fun i _ => 3 - (intOf i).toNat)
  case atStart =>
    refine ⟨0, .slice none 0 0, [], by omega, rfl, ?_, World.ownsRow_nil _ _ _ _, Tu.refl _ _⟩
    rw [HW2.out, show w1.heap.size + 1 = (w1.alloc (.cells #[.string ⟨#[]⟩, .bool false] 34)).heap.size by simp]
    exact heap_alloc_new _ _
  case round =>
    obtain ⟨k, v, xs, hk, rfl, hc, hown, HTu⟩ := hrel
    have c0 : wr.cell? ⟨w1.heap.size + 1, 0, none⟩ = some v := by rw [cell_of_row wr _ _ _ _ _ hc]; rfl
    have c1 : wr.cell? ⟨w1.heap.size + 1, 1, none⟩ = some (.slice none 0 0) := by rw [cell_of_row wr _ _ _ _ _ hc]; rfl
    have hgl : w1.heap.size + 1 < wr.heap.size := lt_of_block hc
    by_cases hlt : k < 3
    · have HC : Hid (wr.heap[w1.heap.size + 1]? = some (.cells #[v, .slice none 0 0] 27)) := hc
      clear hc
      go_wp2_with (at_builtin; refine wpList_append_own_at _ rfl _ _ 22 rfl (w1.heap.size + 1 + 1) 48 i0 (.agg #[.string ⟨#[]⟩, .int .i64 0]) 2 24 Try.underlying22 hi hz0 hz1 hz2 rfl (by decide) _ _ _ rfl (hown.alloc _) ⟨wr.heap.size, 0, none⟩ 1 1 [.string ⟨#[]⟩, .int .i64 31] rfl rfl (cell_two_new _ _ _ _) ?c2 ?c3 ?c4 ?c5 ?_)
      case c2 => first | rfl | (intro u hu; simp at hu; rcases hu with rfl | rfl <;> rfl)
      case c3 => unfold maxLen; omega
      case c4 => omega
      case c5 => simp; omega
      intro v' w9 hown' hgrow _ hat
      have hT9 : Tu (fun q => blk v = some q) wr w9 := ((Tu.refl _ wr).alloc _).trans (Tu.of_grown hgrow (fun q e => e)) (fun _ _ e => e)
      have hne : blk v ≠ some (w1.heap.size + 1) := fun e => by have := (hown.lt _ e).1; omega
      have hne' : blk v' ≠ some (w1.heap.size + 1) := fun e => by have := (hown'.lt _ e).1; omega
      have hc9 : w9.heap[w1.heap.size + 1]? = some (.cells #[v, .slice none 0 0] 27) := (hT9.block _ hgl hne).trans HC.out
      have f0 : w9.frozen? ⟨w1.heap.size + 1, 0, none⟩ = false := free_row hc9 0
      have d0 : w9.cell? ⟨w1.heap.size + 1, 0, none⟩ = some v := by rw [cell_of_row w9 _ _ _ _ _ hc9]; rfl
      have HO9 : Hid ((w9.setCell ⟨w1.heap.size + 1, 0, none⟩ v').ownsRow (w1.heap.size + 1 + 1) 48 2 v' (k + 1) (xs ++ [.string ⟨#[]⟩, .int .i64 31])) := own_keep hown' (fun b hb => heap_setCell_other w9 _ b v' (fun e => hne' (by rw [hb, e])))
      have HT9 : Hid (Tu (fun q => q = w1.heap.size + 1) W2 (w9.setCell ⟨w1.heap.size + 1, 0, none⟩ v')) := by
        show Tu _ _ _
        refine Tu.set (O := fun q => q = w1.heap.size + 1) ?_ (w1.heap.size + 1) 0 rfl v'
        refine HTu.out.trans hT9 (fun q hq e => ?_)
        have := (hown.lt _ e).1
        have := hsz2.out
        omega
      have HC9 : Hid ((w9.setCell ⟨w1.heap.size + 1, 0, none⟩ v').heap[w1.heap.size + 1]? = some (.cells #[v', .slice none 0 0] 27)) := by
        show _ = _
        rw [row_set hc9]
        rfl
      obtain ⟨a9, c9, hv9⟩ := own_slice hown'
      subst hv9
      have HC' := HC
      clear hT9 hc9 hown' hgrow hat hne hne' hown HC HC' HTu c0 c1
      go_wp2_with fail
      go_roundw
      case rel => exact ⟨k + 1, _, _, by omega, by go_num, HC9.out, HO9.out, HT9⟩
      case measure => simp [intOf]; omega
    · have hla : wr.heap[w1.heap.size]? = some (.cells #[.string ⟨#[]⟩, .bool false] 34) := by
        rw [HTu.out.block _ (by have := hsz2.out; omega) (by omega), HW2.out, heap_alloc_old _ _ (by simp)]
        exact heap_alloc_new w1 _
      have HK0 : Hid (Nk w (w1.heap.size + 1) wr) := by
        refine ⟨hgl, c1, ?_⟩
        have h1 : Below w.heap.size w W2 := by rw [HW2.out]; exact ((hb1).alloc hb1.size _).alloc (by have := hb1.size; simp; omega) _
        exact below_tr h1 (HTu.out.below h1.size (fun q e => by have := hb1.size; omega))
      have HLa : Hid _ := hla
      have HLv : Hid _ := lives_any wr
      have HNn : Hid (∀ w, _) := fun w => now_nil w
      clear hla hc hown c0 c1 HTu
      by_cases h0 : n < 0
      · have h0' : decide (n < 0) = true := by simp [h0]
        have HNW : Hid (∀ w, Calls Try.prog 7 #[.iface 24 (.pointer (some ⟨w1.heap.size + 1, 0, none⟩)), .int .i64 n, .bool true] w _) := fun w => new_bad ⟨w1.heap.size + 1, 0, none⟩ n true w (.inl h0)
        go_wp2_with (first
          | (go_at_call 8; refine Calls.mono HLv.out ?_; rintro e wA ⟨rfl, hbA⟩; (have KA : Hid _ := HK0.out.still hbA); (obtain ⟨la0, la1⟩ := line_cells ((hbA.block _ (by have := HK0.out.lt; omega)).trans HLa.out)); clear hbA)
          | (go_at_call 12; refine (err_nil _).mono ?_; rintro e wA' ⟨rfl, rfl⟩)
          | (go_at_call 21; refine (last_of _ _ _ (HNn.out _)).mono ?_; rintro e wB ⟨rfl, hbB⟩; (have KB : Hid _ := KA.out.still hbB); clear hbB)
          | (go_at_call 18; refine (number_of _ _ _ (HNn.out _)).mono ?_; rintro e wC ⟨rfl, hbC⟩; (have KC : Hid _ := KB.out.still hbC); clear hbC)
          | (go_at_call 17; refine (at_of _ _ _ (HNn.out _)).mono ?_; rintro e wD ⟨rfl, hbD⟩; (have KD : Hid _ := KC.out.still hbD); clear hbD)
          | (go_at_call 19; refine (fresh_of _ _ _ (HNn.out _)).mono ?_; rintro e wE ⟨rfl, hbE⟩; (have KE : Hid _ := KD.out.still hbE); clear hbE)
          | (go_at_call 23; refine (passed_nil _).mono ?_; rintro e wE' ⟨rfl, rfl⟩)
          | (go_at_call 20; refine (data_of _ _ _ (HNn.out _)).mono ?_; rintro e wF ⟨rfl, hbF⟩; (have KF : Hid _ := KE.out.still hbF); (have c9 := KF.out.ask); clear hbF)
          | (go_at_call 7; refine Calls.mono (HNW.out wF) ?_; rintro e wG ⟨rfl, m, rfl⟩))
        go_ret
        exact ⟨rfl, below_drewN KF.out.below m⟩
      · have h0' : decide (n < 0) = false := by simp; omega
        by_cases h1 : 1024 < n
        · have h1' : decide (1024 < n) = true := by simp [h1]
          have HNW : Hid (∀ w, Calls Try.prog 7 #[.iface 24 (.pointer (some ⟨w1.heap.size + 1, 0, none⟩)), .int .i64 n, .bool true] w _) := fun w => new_bad ⟨w1.heap.size + 1, 0, none⟩ n true w (.inr h1)
          go_wp2_with (first
            | (go_at_call 8; refine Calls.mono HLv.out ?_; rintro e wA ⟨rfl, hbA⟩; (have KA : Hid _ := HK0.out.still hbA); (obtain ⟨la0, la1⟩ := line_cells ((hbA.block _ (by have := HK0.out.lt; omega)).trans HLa.out)); clear hbA)
            | (go_at_call 12; refine (err_nil _).mono ?_; rintro e wA' ⟨rfl, rfl⟩)
            | (go_at_call 21; refine (last_of _ _ _ (HNn.out _)).mono ?_; rintro e wB ⟨rfl, hbB⟩; (have KB : Hid _ := KA.out.still hbB); clear hbB)
            | (go_at_call 18; refine (number_of _ _ _ (HNn.out _)).mono ?_; rintro e wC ⟨rfl, hbC⟩; (have KC : Hid _ := KB.out.still hbC); clear hbC)
            | (go_at_call 17; refine (at_of _ _ _ (HNn.out _)).mono ?_; rintro e wD ⟨rfl, hbD⟩; (have KD : Hid _ := KC.out.still hbD); clear hbD)
            | (go_at_call 19; refine (fresh_of _ _ _ (HNn.out _)).mono ?_; rintro e wE ⟨rfl, hbE⟩; (have KE : Hid _ := KD.out.still hbE); clear hbE)
            | (go_at_call 23; refine (passed_nil _).mono ?_; rintro e wE' ⟨rfl, rfl⟩)
            | (go_at_call 20; refine (data_of _ _ _ (HNn.out _)).mono ?_; rintro e wF ⟨rfl, hbF⟩; (have KF : Hid _ := KE.out.still hbF); (have c9 := KF.out.ask); clear hbF)
            | (go_at_call 7; refine Calls.mono (HNW.out wF) ?_; rintro e wG ⟨rfl, m, rfl⟩))
          go_ret
          exact ⟨rfl, below_drewN KF.out.below m⟩
        · have h1' : decide (1024 < n) = false := by simp; omega
          have HNW : Hid (∀ w, Calls Try.prog 7 #[.nilIface, .int .i64 n, .bool false] w _) := fun w => new_nil n false w
          go_wp2_with (first
            | (go_at_call 8; refine Calls.mono HLv.out ?_; rintro e wA ⟨rfl, hbA⟩; (have KA : Hid _ := HK0.out.still hbA); (obtain ⟨la0, la1⟩ := line_cells ((hbA.block _ (by have := HK0.out.lt; omega)).trans HLa.out)); clear hbA)
            | (go_at_call 12; refine (err_nil _).mono ?_; rintro e wA' ⟨rfl, rfl⟩)
            | (go_at_call 21; refine (last_of _ _ _ (HNn.out _)).mono ?_; rintro e wB ⟨rfl, hbB⟩; (have KB : Hid _ := KA.out.still hbB); clear hbB)
            | (go_at_call 18; refine (number_of _ _ _ (HNn.out _)).mono ?_; rintro e wC ⟨rfl, hbC⟩; (have KC : Hid _ := KB.out.still hbC); clear hbC)
            | (go_at_call 17; refine (at_of _ _ _ (HNn.out _)).mono ?_; rintro e wD ⟨rfl, hbD⟩; (have KD : Hid _ := KC.out.still hbD); clear hbD)
            | (go_at_call 19; refine (fresh_of _ _ _ (HNn.out _)).mono ?_; rintro e wE ⟨rfl, hbE⟩; (have KE : Hid _ := KD.out.still hbE); clear hbE)
            | (go_at_call 23; refine (passed_nil _).mono ?_; rintro e wE' ⟨rfl, rfl⟩)
            | (go_at_call 20; refine (data_of _ _ _ (HNn.out _)).mono ?_; rintro e wF ⟨rfl, hbF⟩; (have KF : Hid _ := KE.out.still hbF); (have c9 := KF.out.ask); clear hbF)
            | (go_at_call 7; refine Calls.mono (HNW.out wF) ?_; rintro e wG ⟨rfl, rfl⟩))
          go_ret
          exact ⟨rfl, KF.out.below⟩
end Go.Proofs.Ythmofbcjhfcokaa
