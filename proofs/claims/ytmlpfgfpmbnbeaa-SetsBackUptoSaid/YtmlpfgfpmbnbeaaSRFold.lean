/- What the reference's Other and Fold answer. -/
import Derived.Test.YtmlpfgfpmbnbeaaSFold
import Derived.Deep.RegionWith
namespace Go.Proofs.Ytmlpfgfpmbnbeaa
open Go.RowKit

set_option maxRecDepth 100000 in
set_option maxHeartbeats 1000000 in
theorem other_any (c : Nat) (w : World) (hc : c < 256) :
    Calls Try.prog 38 #[.int .u8 (c : Int)] w fun e w' => e = .returned (.int .u8 (St.oth c : Nat)) ∧ w = w' := by
  by_cases h1 : 97 ≤ c
  · by_cases h2 : c ≤ 122
    · have HE : Hid (St.oth c = c - 32) := by show _ = _; unfold St.oth; rw [if_pos (by omega)]
      go_enter Try.func38, Try.ntmps38
      go_wp2_with fail
      go_ret
      rw [HE.out]
      exact ⟨ret_int (by first | omega | (rw [IntKind.wrap_u8']; omega)), rfl⟩
    · have HE : Hid (St.oth c = c) := by show _ = _; unfold St.oth; rw [if_neg (by omega), if_neg (by omega)]
      have h3 : ¬ c ≤ 90 := by omega
      have h4 : 65 ≤ c := by omega
      go_enter Try.func38, Try.ntmps38
      go_wp2_with fail
      go_ret
      rw [HE.out]
      exact ⟨rfl, rfl⟩
  · by_cases h3 : 65 ≤ c
    · by_cases h4 : c ≤ 90
      · have HE : Hid (St.oth c = c + 32) := by show _ = _; unfold St.oth; rw [if_neg (by omega), if_pos (by omega)]
        go_enter Try.func38, Try.ntmps38
        go_wp2_with fail
        go_ret
        rw [HE.out]
        exact ⟨ret_int (by first | omega | (rw [IntKind.wrap_u8']; omega)), rfl⟩
      · have HE : Hid (St.oth c = c) := by show _ = _; unfold St.oth; rw [if_neg (by omega), if_neg (by omega)]
        go_enter Try.func38, Try.ntmps38
        go_wp2_with fail
        go_ret
        rw [HE.out]
        exact ⟨rfl, rfl⟩
    · have HE : Hid (St.oth c = c) := by show _ = _; unfold St.oth; rw [if_neg (by omega), if_neg (by omega)]
      go_enter Try.func38, Try.ntmps38
      go_wp2_with fail
      go_ret
      rw [HE.out]
      exact ⟨rfl, rfl⟩

namespace St
def anyO (L : List UInt8) (c : Nat) : Bool := L.any (fun b => oth b.toNat == c)
theorem anyO_step {p : Nat → Bool} {L : List UInt8} {k : Nat} (hk : k < L.length) (c : Nat) : ((p c || anyO (L.take k) c) || c == oth (L[k]'hk).toNat) = (p c || anyO (L.take (k + 1)) c) := by
  rw [List.take_succ_eq_append_getElem hk]
  unfold anyO
  rw [List.any_append, List.any_cons, List.any_nil, Bool.or_false, Bool.or_assoc]
  congr 2
  rw [Bool.eq_iff_iff, beq_iff_eq, beq_iff_eq]
  exact eq_comm
theorem anyO_done {p : Nat → Bool} {c : Nat} (h : c < 256) : (p c || anyO (lst p 256) c) = foldP p c := by
  unfold foldP anyO
  have e : (fun b : UInt8 => oth b.toNat == c) = fun b => b.toNat == oth c := by funext b; exact oth_iff _ _
  rw [e]
  have := inL_lst p 256 (Nat.le_refl _) (oth c)
  unfold inL at this
  rw [this, decide_eq_true (oth_lt h), Bool.true_and]
end St

set_option maxRecDepth 100000 in
set_option maxHeartbeats 1000000 in
theorem rfold_any (p : Nat → Bool) (w : World) :
    Calls Try.prog 29 #[St.setV p] w fun e w' => e = .returned (St.setV (St.foldP p)) ∧ Below w.heap.size w w' := by
  have HD : Hid (∀ c, c < 256 → (p c || St.anyO (St.lst p 256) c) = St.foldP p c) := fun c hc => St.anyO_done hc
  have HL : Hid ((St.lst p 256).length = St.cnt p 256) := St.lst_length p 256
  have hcl := St.cnt_le p 256
  have HB : Hid (∀ w1, Calls Try.prog 16 #[St.setV p] w1 fun e w' => ∃ v, e = .returned v ∧ w'.ownsRow w1.heap.size 5 1 v (St.cnt p 256) (bcells (St.lst p 256)) ∧ Below w1.heap.size w1 w') := rbytes_any p
  generalize St.lst p 256 = L at *
  generalize St.cnt p 256 = n at *
  have hn := HL.out
  subst hn
  clear HL
  simp only [St.setV] at HB ⊢
  go_enter Try.func29, Try.ntmps29
  go_wp2_with fail
  refine (HB.out _).mono ?_
  rintro x w1 ⟨v, rfl, hown, hb⟩
  obtain ⟨a, cap, rfl, hB, ho⟩ := own_bys hown rfl hcl
  have S2 : SetAt w1 (w.heap.size + 1) (St.inL []) := SetAt.under (hb := hb) (h := (at_zero' (by simp)).alloc _)
  have S1 : SetAt w1 (w.heap.size + 1 + 1) p := SetAt.under (hb := hb) (h := at_new' p (by simp))
  have hnx : Below w.heap.size w w1 := ((((Below.refl _ _).alloc (Nat.le_refl _) _).alloc (by simp) _).alloc (by simp; omega) _).trans (hb.mono (by simp; omega))
  have ho' : ∀ b off, a = some ⟨b, off, none⟩ → w.heap.size + 3 ≤ b := fun b off e => by have := ho b off e; simp at this; omega
  have HO : Hid (∀ b off, a = some ⟨b, off, none⟩ → w.heap.size + 3 ≤ b) := ho'
  clear hb hown ho ho' HB
  go_wp2_with fail
  go_loopw [10] (fun i wr => ∃ k : Nat, k ≤ L.length ∧ i = .int .i64 k ∧ SetAt wr (w.heap.size + 1 + 1) (fun x => p x || St.anyO (L.take k) x) ∧ SetAt wr (w.heap.size + 1) (St.inL []) ∧ Bys wr a L ∧ Below w.heap.size w wr) (fun i _ => L.length - (intOf i).toNat)
  case atStart => exact ⟨0, Nat.zero_le _, rfl, S1.congr (fun c _ => (Bool.or_false _).symm), S2, hB, hnx⟩
  case round =>
    clear S1 S2 hB hnx
    obtain ⟨k, hk, rfl, S1, S2, hB, hnx⟩ := hrel
    have hl1 := S1.lt
    have hl2 := S2.lt
    by_cases hlt : k < L.length
    · obtain ⟨b, off, rfl, hb0, hc⟩ := hB.cells k hlt
      have HS : Hid (∀ c, ((p c || St.anyO (L.take k) c) || c == St.oth (L[k]'hlt).toNat) = (p c || St.anyO (L.take (k + 1)) c)) := fun c => St.anyO_step hlt c
      have hx6 := (L[k]'hlt).toNat_lt
      generalize (L[k]'hlt).toNat = cx at *
      have hox := St.oth_lt hx6
      obtain ⟨q0, q1, q2, q3⟩ := S1.cells
      have HA : Hid (∀ w1, Calls Try.prog 35 #[St.setV (fun x => p x || St.anyO (L.take k) x), .int .u8 (St.oth cx : Int)] w1 fun e w' => e = .returned (St.setV (fun x => (p x || St.anyO (L.take k) x) || x == St.oth cx)) ∧ Below w1.heap.size w1 w') := fun w1 => radd_any _ _ hox w1
      simp only [St.setV] at HA
      go_wp2_with fail
      go_region_with (first | (go_at_call 38; refine (other_any cx _ hx6).mono ?_; rintro x w2 ⟨rfl, rfl⟩) | (go_at_call 35; refine (HA.out _).mono ?_; rintro x w2 ⟨rfl, hb⟩; have T1 := SetAt.under (w := wr) S1 ⟨hb.os, hb.tape, hb.output, hb.size, hb.block⟩; have f0 := T1.frozen 0; have f1 := T1.frozen 1; have f2 := T1.frozen 2; have f3 := T1.frozen 3; obtain ⟨r0, r1, r2, r3⟩ := T1.cells))
      all_goals
        have hb' : Below wr.heap.size wr w2 := ⟨hb.os, hb.tape, hb.output, hb.size, hb.block⟩
        have hs := hb'.size
        go_wp2_with fail
        refine ⟨⟨k + 1, by omega, by go_num, (S1.under hb').put.congr (fun c _ => HS.out c), (S2.under hb').other (by omega), (hB.below hb').put HO.out (by omega), put4_below (Below.more hnx hb' (by omega)) (by omega)⟩, ?_⟩
        simp [intOf]; omega
    · obtain ⟨q0, q1, q2, q3⟩ := S1.cells
      obtain ⟨r0, r1, r2, r3⟩ := S2.cells
      have f0 := S2.frozen 0
      have f1 := S2.frozen 1
      have f2 := S2.frozen 2
      have f3 := S2.frozen 3
      have HE : Hid (St.setV (fun x => p x || St.anyO (L.take k) x) = St.setV (St.foldP p)) := St.setV_congr (fun c hc => by rw [List.take_of_length_le (by omega)]; exact HD.out c hc)
      go_wp2_with fail
      refine bodyPost_ret (results_cell_row rfl _ _ (w.heap.size + 1) _ _ _ _ rfl (S2.put (q := fun x => p x || St.anyO (L.take k) x)) Try.underlying25 rfl (by kernel_rfl)) rfl ?_
      exact ⟨congrArg _ HE.out, put4_below hnx (by omega)⟩
end Go.Proofs.Ytmlpfgfpmbnbeaa
