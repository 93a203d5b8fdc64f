/- What the reference's ahead answers. -/
import Derived.Test.YthmofbcjhfcokaaInR
import Derived.Test.YthmofbcjhfcokaaLawInN
namespace Go.Proofs.Ythmofbcjhfcokaa
open Go.RowKit

theorem Try.infoAh : (Try.prog.info? 65).map (fun i => (i.zero, i.size, i.bytes)) = some (some (.agg #[.string ⟨#[]⟩, .bool false, .int .i64 0]), 3, 32) := by kernel_rfl
abbrev Ah := (ByteArray × Bool) × Nat
def acells (l : List Ah) : List Value := l.flatMap fun x => [.string x.1.1, .bool x.1.2, .int .i64 (x.2 : Int)]
theorem acells_length (l : List Ah) : (acells l).length = l.length * 3 := by
  induction l with
  | nil => rfl
  | cons x r ih => simp only [acells, List.flatMap_cons, List.length_append, List.length_cons, List.length_nil] at ih ⊢; omega
theorem acells_append (a b : List Ah) : acells (a ++ b) = acells a ++ acells b := by simp [acells]
theorem acells_get : ∀ (l : List Ah) (i : Nat) (h : i < l.length), (acells l)[i * 3]? = some (.string (l[i]'h).1.1) ∧ (acells l)[i * 3 + 1]? = some (.bool (l[i]'h).1.2) ∧ (acells l)[i * 3 + 2]? = some (.int .i64 ((l[i]'h).2 : Int))
  | [], i, h => absurd h (by simp)
  | x :: r, 0, h => by simp [acells]
  | x :: r, i + 1, h => by
    have ih := acells_get r i (by simpa using h)
    have e3 : acells (x :: r) = .string x.1.1 :: .bool x.1.2 :: .int .i64 (x.2 : Int) :: acells r := rfl
    rw [show (i + 1) * 3 = i * 3 + 1 + 1 + 1 by omega, e3]
    simpa using ih
theorem cell_three_new (w : World) (x y z : Value) (t : TypeId) : ∀ j u, [x, y, z][j]? = some u → (w.alloc (.cells #[x, y, z] t)).cell? ((⟨w.heap.size, 0, none⟩ : Addr).add j) = some u := by
  intro j u hj
  have hn := heap_alloc_new w (.cells #[x, y, z] t)
  rw [add_at, Nat.zero_add, cell_of_row _ _ _ _ _ _ hn]
  match j, hj with
  | 0, hj => exact hj
  | 1, hj => exact hj
  | 2, hj => exact hj
  | j + 3, hj => simp at hj

theorem In.ahF_len : ∀ (T : List In.Tl) (k : Nat), (In.ahF k T).1.length ≤ In.tsz T
  | [], _ => Nat.le_refl _
  | (d, y) :: r, k => by
    have h := In.ahF_len r (k + 1)
    have h2 := Ln.splB_len d
    have e : In.tsz ((d, y) :: r) = d.size + In.tsz r := by simp [In.tsz]
    unfold In.ahF
    split
    · omega
    · split
      · simp; omega
      · simp
theorem own_line {w : World} {base c : Nat} {e : TypeId} {a : Option Addr} {L : List (ByteArray × Bool)} (h : w.ownsRow base e 2 (.slice a L.length c) L.length (lcells L)) {i : Nat} (hi : i < L.length) :
    ∃ b, a = some ⟨b, 0, none⟩ ∧ b < w.heap.size ∧ L.length ≤ c ∧ w.cell? ⟨b, i * 2, none⟩ = some (.string (L[i]'hi).1) ∧ w.cell? ⟨b, i * 2 + 1, none⟩ = some (.bool (L[i]'hi).2) := by
  rcases h.2 with ⟨hv, hn⟩ | ⟨g, cap, cur, hv, hb, hg, hcap, hmax, hsize, htake⟩
  · omega
  · cases hv
    refine ⟨g, rfl, lt_of_block hg, hcap, ?_, ?_⟩
    · rw [h.cellAt (i * 2) (by omega)]; exact (lcells_get L i hi).1
    · rw [h.cellAt (i * 2 + 1) (by omega)]; exact (lcells_get L i hi).2
/-- A row of the call's own beside a row of lines. -/
structure Ai (base b2 : Nat) (D : List Ah) (M : List (ByteArray × Bool)) (v vm : Value) (W w : World) : Prop where
  out : w.ownsRow base 65 3 v D.length (acells D)
  sp : w.ownsRow b2 34 2 vm M.length (lcells M)
  sep : ∀ b, blk v = some b → blk vm ≠ some b
  below : Below base W w
theorem Ai.push {base b2 : Nat} {D : List Ah} {M : List (ByteArray × Bool)} {v vm v' : Value} {W w w9 : World} {o1 o2 : Obj} {x : Ah} (h : Ai base b2 D M v vm W w) (hw : base ≤ W.heap.size) (hown : w9.ownsRow base 65 3 v' (D.length + 1) (acells D ++ [.string x.1.1, .bool x.1.2, .int .i64 (x.2 : Int)])) (hg : ((w.alloc o1).alloc o2).grownBy w9 (blk v)) (hat : blk v' = blk v ∨ blk v' = some (w.heap.size + 1 + 1)) : Ai base b2 (D ++ [x]) M v' vm W w9 := by
  have ht : Tu (fun q => blk v = some q) w w9 := (((Tu.refl _ w).alloc o1).alloc o2).trans (Tu.of_grown hg (fun q e => e)) (fun _ _ e => e)
  refine ⟨?_, own_keep h.sp (fun b e => ht.block b (own_lt h.sp e) (fun q => h.sep b q e)), fun b hb => ?_, below_tr h.below (ht.below (Nat.le_trans hw h.below.size) (fun q e => (h.out.lt _ e).1))⟩
  · rw [acells_append, List.length_append]; exact hown
  · rcases hat with e | e
    · exact h.sep b (by rw [← e]; exact hb)
    · intro q
      rw [hb] at e; cases e
      have := own_lt h.sp q
      omega

set_option maxRecDepth 100000 in
set_option maxHeartbeats 1000000 in
theorem ahead_any (a : Option Addr) (cap : Nat) (T : List In.Tl) (w : World) (h : Tls w a cap T) (hT : T.length ≤ 1048576) (hz : In.tsz T ≤ 1048576) :
    Calls Try.prog 25 #[.slice a T.length cap] w fun e w' => ∃ v, e = .returned (.tuple #[v, .int .i64 (In.fin T : Int)]) ∧ w'.ownsRow w.heap.size 65 3 v (In.ls T).length (acells (In.ls T)) ∧ Below w.heap.size w w' := by
  obtain ⟨i0, hi, hz0, hz1, hz2⟩ := info_parts Try.infoAh
  have HTls : Hid (Tls w a cap T) := h
  clear h
  go_enter Try.func25, Try.ntmps25
  go_wp2
  go_loopw [4, 11] (fun v i wr => ∃ (k : Nat) (D : List Ah), k ≤ T.length ∧ i = .int .i64 k ∧ Hid (wr.ownsRow w.heap.size 65 3 v D.length (acells D)) ∧ Hid (Below w.heap.size w wr) ∧ Hid (In.ahF 0 T = (D ++ (In.ahF k (T.drop k)).1, (In.ahF k (T.drop k)).2))) (fun _ i _ => T.length - (intOf i).toNat)
  case atStart => exact ⟨0, [], Nat.zero_le _, rfl, World.ownsRow_nil _ _ _ _, Below.refl _ _, rfl⟩
  case round =>
    obtain ⟨k, D, hk, rfl, HO, HB, HA⟩ := hrel
    have hsz := HB.out.size
    by_cases hlt : k < T.length
    · obtain ⟨b, off, rfl, hb0, d1, d2⟩ := HTls.out.cells k hlt
      have e1 := (HB.out.cell (p := ⟨b, off + k * 2, none⟩) hb0).trans d1
      have e2 := (HB.out.cell (p := ⟨b, off + k * 2 + 1, none⟩) hb0).trans d2
      have hbr : b < wr.heap.size := by omega
      have hki : (k : Int) < (T.length : Int) := by omega
      have HA1 := HA.out
      rw [List.drop_eq_getElem_cons hlt] at HA1
      have hxs := In.tsz_mem hlt
      generalize T[k]'hlt = x at *
      obtain ⟨x1, x2⟩ := x
      clear d1 d2 HA
      cases k31 : (x2 == 31)
      · cases k0 : (x2 != 0)
        · -- a text
          have hx0 : x2 = 0 := by simpa using k0
          have HAt : Hid (In.ahF 0 T = (D ++ ((Ln.splB x1).map (fun x => (x, k)) ++ (In.ahF (k + 1) (T.drop (k + 1))).1), (In.ahF (k + 1) (T.drop (k + 1))).2)) := by
            show _ = _
            rw [HA1, hx0]
            simp [In.ahF]
          have HSp : Hid _ := rsplit_any x1 (wr.alloc (.cells #[.string x1, .int .i64 x2] 48)) (by simp only at hxs; omega)
          clear HA1 hx0
          go_wp2_with (go_at_call 30; refine Calls.mono HSp.out ?_; rintro e w5 ⟨v5, rfl, ho5, hb5⟩; (obtain ⟨a5, c5, hv5⟩ := own_slice ho5); (subst hv5))
          obtain ⟨b2, hb2⟩ : ∃ b2, b2 = (wr.alloc (.cells #[.string x1, .int .i64 x2] 48)).heap.size := ⟨_, rfl⟩
          have HAi : Hid (Ai w.heap.size b2 D (Ln.splB x1) u4 (.slice a5 (Ln.splB x1).length c5) w w5) := by
            show Ai _ _ _ _ _ _ _ _
            rw [hb2]
            refine ⟨own_keep (HO.out.alloc _) (fun q e => hb5.block q (own_lt (HO.out.alloc _) e)), ho5, fun q e1 e2 => ?_, below_up (HB.out.alloc hsz _) hb5 (Nat.le_refl _)⟩
            have h1 := own_lt HO.out e1
            have h2 := (ho5.lt _ e2).1
            simp at h2
            omega
          have HBL : Hid (D.length + (Ln.splB x1).length ≤ 1048576) := by
            have h1 := In.ahF_len T 0
            rw [HAt.out] at h1
            simp at h1
            show _ ≤ _
            omega
          have hbw : w.heap.size ≤ w5.heap.size := HAi.out.below.size
          generalize Ln.splB x1 = M at *
          have hMl : M.length ≤ 1048576 := by have := HBL.out; omega
          clear ho5 hb5 HO HB HSp hb2
          obtain ⟨wo, hwo⟩ : ∃ wo, wo = wr := ⟨_, rfl⟩
          go_loopw [4, 28] (fun v j wi => ∃ m : Nat, m ≤ M.length ∧ j = .int .i64 m ∧ Hid (Ai w.heap.size b2 (D ++ (M.take m).map (fun x => (x, k))) M v (.slice a5 M.length c5) w wi)) (fun _ j _ => M.length - (intOf j).toNat)
          case atStart => exact ⟨0, Nat.zero_le _, rfl, by simpa using HAi⟩
          case round =>
            obtain ⟨m, hm, rfl, HI⟩ := hrel
            by_cases hml : m < M.length
            · obtain ⟨b5, rfl, hb5, hc5, f1, f2⟩ := own_line HI.out.sp hml
              have hmi : (m : Int) < (M.length : Int) := by omega
              have HMT : Hid (M.take (m + 1) = M.take m ++ [M[m]'hml]) := List.take_succ_eq_append_getElem hml
              generalize M[m]'hml = y at *
              obtain ⟨y1, y2⟩ := y
              obtain ⟨E, hE⟩ : ∃ E, E = D ++ (M.take m).map (fun x => (x, k)) := ⟨_, rfl⟩
              have HEL : Hid (E.length ≤ 1048576) := by
                have h1 := HBL.out
                show _ ≤ _
                rw [hE]
                simp
                omega
              have HE : Hid _ := hE
              have HI' : Hid (Ai w.heap.size b2 E M u4 (.slice (some ⟨b5, 0, none⟩) M.length c5) w wr) := by show Ai _ _ _ _ _ _ _ _; rw [hE]; exact HI.out
              have hwr : w.heap.size ≤ wr.heap.size := HI.out.below.size
              clear hE HI
              go_wp2_with (at_builtin; refine wpList_append_own_at _ rfl _ _ 61 rfl w.heap.size 65 i0 (.agg #[.string ⟨#[]⟩, .bool false, .int .i64 0]) 3 32 Try.underlying61 hi hz0 hz1 hz2 rfl (by decide) _ _ _ rfl ((World.ownsRow.alloc HI'.out.out _).alloc _) ⟨wr.heap.size + 1, 0, none⟩ 1 1 [.string y1, .bool y2, .int .i64 (k : Int)] rfl rfl (by have := cell_three_new (wr.alloc (.cells #[.string y1, .bool y2] 34)) (.string y1) (.bool y2) (.int .i64 (k : Int)) 65; simpa using this) ?c2 ?c3 ?c4 ?c5 ?_)
              case c2 => first | exact ⟨rfl, rfl, rfl⟩ | (intro u hu; simp at hu; rcases hu with rfl | rfl | rfl <;> rfl)
              case c3 => have := HEL.out; unfold maxLen; omega
              case c4 => have := HEL.out; omega
              case c5 => first | omega | (simp; omega)
              intro v' w9 hown' hgrow _ hat
              have HI9 : Hid _ := HI'.out.push (x := ((y1, y2), k)) (Nat.le_refl _) hown' hgrow (by simpa using hat)
              clear hown' hgrow hat HI'
              go_wp2_with fail
              go_roundw
              case rel => exact ⟨m + 1, by omega, by go_num, by rw [HMT.out]; simp only [List.map_append, List.map_cons, List.map_nil, ← List.append_assoc]; rw [← HE.out]; exact HI9⟩
              case measure => simp [intOf]; omega
            · have hmi : ¬ (m : Int) < (M.length : Int) := by omega
              have HMT : Hid (M.take m = M) := List.take_of_length_le (by omega)
              have HI9 : Hid (Ai w.heap.size b2 (D ++ M.map (fun x => (x, k))) M u4 (.slice a5 M.length c5) w wr) := by have := HI.out; rw [HMT.out] at this; exact this
              have HAt' : Hid (In.ahF 0 T = ((D ++ M.map (fun x => (x, k))) ++ (In.ahF (k + 1) (T.drop (k + 1))).1, (In.ahF (k + 1) (T.drop (k + 1))).2)) := by show _ = _; rw [HAt.out, List.append_assoc]
              clear HI HAt
              go_wp2_with fail
              go_roundw
              case rel => exact ⟨k + 1, _, by omega, by go_num, HI9.out.out, HI9.out.below, HAt'⟩
              case measure => simp [intOf]; omega
        · have HAe : Hid (In.ls T = D ∧ In.fin T = k) := by
            have hx0 : x2 ≠ 0 := by simpa using k0
            have hx1 : x2 ≠ 31 := by simpa using k31
            show _ ∧ _
            unfold In.ls In.fin
            rw [HA1]
            simp [In.ahF, hx0, hx1]
          clear HA1
          go_wp2_with fail
          go_ret2
          refine ⟨u4, ?_, ?_, HB.out.alloc hsz _⟩
          · rw [HAe.out.2]; rfl
          · rw [HAe.out.1]; exact HO.out.alloc _
      · have HAn : Hid (In.ahF 0 T = (D ++ (In.ahF (k + 1) (T.drop (k + 1))).1, (In.ahF (k + 1) (T.drop (k + 1))).2)) := by
          have hx0 : x2 = 31 := by simpa using k31
          show _ = _
          rw [HA1, hx0]
          simp [In.ahF]
        clear HA1
        go_wp2_with fail
        go_roundw
        case rel => exact ⟨k + 1, D, by omega, by go_num, HO.out.alloc _, HB.out.alloc hsz _, HAn⟩
        case measure => simp [intOf]; omega
    · have HAe : Hid (In.ls T = D ∧ In.fin T = T.length) := by
        obtain rfl : k = T.length := by omega
        have := HA.out
        rw [List.drop_length] at this
        show _ ∧ _
        unfold In.ls In.fin
        rw [this]
        simp [In.ahF]
      have hki : ¬ (k : Int) < (T.length : Int) := by omega
      clear HA
      go_wp2_with fail
      go_ret2
      refine ⟨u4, ?_, ?_, HB.out⟩
      · rw [HAe.out.2]; rfl
      · rw [HAe.out.1]; exact HO.out
end Go.Proofs.Ythmofbcjhfcokaa
