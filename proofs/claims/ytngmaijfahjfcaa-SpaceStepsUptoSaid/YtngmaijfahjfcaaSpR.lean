/- What the reference's First, Used and Copy answer. -/
import Derived.Test.YtngmaijfahjfcaaSpE
namespace Go.Proofs.Ytngmaijfahjfcaa
open Go.RowKit

theorem lf_cons_no {b : UInt8} {r : List UInt8} (h : ((b.toNat : Int) == 10) = false) : Sc.lf (b :: r) = (Sc.lf r).map (· + 1) := by
  have : (b == 10) = false := by
    rw [beq_eq_false_iff_ne]
    rintro rfl
    simp at h
  conv => lhs; unfold Sc.lf
  rw [this]
  rfl
theorem lf_cons_yes {b : UInt8} {r : List UInt8} (h : ((b.toNat : Int) == 10) = true) : Sc.lf (b :: r) = some 0 := by
  have : b = 10 := by
    have h' : (b.toNat : Int) = 10 := by simpa using h
    apply UInt8.toNat_inj.1
    show b.toNat = 10
    omega
  subst this
  rfl
theorem drop_at (s : ByteArray) (k : Nat) (h : k < s.size) : s.data.toList.drop k = s[k] :: s.data.toList.drop (k + 1) := by
  rw [List.drop_eq_getElem_cons (by simpa using h)]; rfl
theorem extract_take (s : ByteArray) (k : Nat) : s.extract 0 k = Sc.bs (s.data.toList.take k) := by
  rw [← Sc.bs_data (s.extract 0 k)]
  congr 1
  simp
set_option maxRecDepth 100000 in
set_option maxHeartbeats 1000000 in
theorem rfirst_any (s : ByteArray) (w : World) (hs : s.size ≤ 1000000000000000) :
    Calls Try.prog 12 #[.string s] w fun e w' => e = .returned (.tuple #[.string (Sc.bs (Sc.fst s.data.toList)), .bool (Sc.lf s.data.toList).isSome]) ∧ w = w' := by
  have HF : Hid (∀ k, Sc.lf s.data.toList = some k → Sc.fst s.data.toList = s.data.toList.take k) := fun k h => by unfold Sc.fst; rw [h]
  have HN : Hid (Sc.lf s.data.toList = none → Sc.fst s.data.toList = s.data.toList) := fun h => by unfold Sc.fst; rw [h]
  generalize hR : Sc.lf s.data.toList = R at *
  generalize Sc.fst s.data.toList = F at *
  have HR : Hid (R = (Sc.lf (s.data.toList.drop 0)).map (· + 0)) := by show R = _; rw [List.drop_zero, hR]; cases R <;> rfl
  clear hR
  go_enter Try.func12, Try.ntmps12
  go_wp2
  go_loop [4] (fun iv => ∃ k : Nat, k ≤ s.size ∧ iv = .int .i64 (k : Int) ∧ Hid (R = (Sc.lf (s.data.toList.drop k)).map (· + k))) (fun iv => s.size - (intOf iv).toNat)
  case atStart => exact ⟨0, Nat.zero_le _, rfl, HR⟩
  case round =>
    obtain ⟨k, hk, rfl, HC⟩ := hrel
    by_cases hlt : k < s.size
    · cases hc : ((s[k].toNat : Int) == 10)
      · have HC' : Hid (R = (Sc.lf (s.data.toList.drop (k + 1))).map (· + (k + 1))) := by
          show R = _
          rw [HC.out, drop_at s k hlt, lf_cons_no hc, Option.map_map]
          congr 1
          funext x
          simp
          omega
        clear HC
        go_wp2
        go_round
        case rel => exact ⟨k + 1, by omega, by go_num, HC'⟩
        case measure => simp [intOf]; omega
      · have e : R = some k := by rw [HC.out, drop_at s k hlt, lf_cons_yes hc]; simp
        have e2 : F = s.data.toList.take k := HF.out k e
        have HE : Hid (s.extract 0 k = Sc.bs F) := by show _ = _; rw [e2]; exact extract_take s k
        subst e
        clear e2 HC HF HN HR
        go_wp2
        go_ret2
        refine ⟨?_, rfl⟩
        show Ending.returned (.tuple #[.string (s.extract 0 k), .bool true]) = _
        rw [HE.out]
    · have e : R = none := by rw [HC.out, List.drop_eq_nil_of_le (by rw [Sc.szL]; omega)]; rfl
      have HE : Hid (s = Sc.bs F) := by show s = _; rw [HN.out e]; exact (Sc.bs_data s).symm
      subst e
      clear HC HF HN HR
      go_wp2
      go_ret2
      refine ⟨?_, rfl⟩
      show Ending.returned (.tuple #[.string s, .bool false]) = .returned (.tuple #[.string (Sc.bs F), .bool false])
      rw [← HE.out]
/-- The reference's space, as it is handed on. -/
abbrev rsV (p h : ByteArray) (qv : Value) (quota : Nat) : Value := .agg #[.string p, .string h, qv, .int .i64 (quota : Nat)]
set_option maxRecDepth 100000 in
set_option maxHeartbeats 1000000 in
theorem rused_any (p h : ByteArray) (a : Option Addr) (c : Nat) (Q : List Sc.It) (quota : Nat) (w : World) (hQ : Its w (.slice a Q.length c) Q) (hp : p.size ≤ 1000000000000000) (hh : h.size ≤ 1000000000000000) (hq : Sc.txts Q ≤ 1000000000000000) (hl : Q.length ≤ 9000000000000) :
    Calls Try.prog 32 #[rsV p h (.slice a Q.length c) quota] w fun e w' => e = .returned (.int .i64 ((p.size + h.size + Sc.txts Q : Nat) : Int)) ∧ Tu (fun _ => False) w w' := by
  have HT : Hid (∀ k, Sc.txts (Q.take k) ≤ Sc.txts Q) := fun k => txts_le Q k
  have H1 : Hid (Its (w.alloc (.cells #[.string p, .string h, .slice a Q.length c, .int .i64 (quota : Nat)] 29)) (.slice a Q.length c) Q) := hQ.tu ((Tu.refl (fun _ => False) w).alloc _) (fun _ _ e => e)
  clear hQ
  go_enter Try.func32, Try.ntmps32
  go_wp2
  go_loop [3, 4] (fun nv iv => ∃ k : Nat, k ≤ Q.length ∧ iv = .int .i64 (k : Int) ∧ nv = .int .i64 ((p.size : Int) + (h.size : Int) + (Sc.txts (Q.take k) : Int))) (fun _ iv => Q.length - (intOf iv).toNat)
  case atStart => exact ⟨0, Nat.zero_le _, rfl, by simp [Sc.txts]⟩
  case round =>
    obtain ⟨k, hk, rfl, rfl⟩ := hrel
    have ht := HT.out k
    by_cases hlt : k < Q.length
    · rcases H1.out with ⟨_, e⟩ | ⟨b, off, cap', e, hb, hc⟩
      · rw [e] at hlt; simp at hlt
      cases e
      obtain ⟨c0, c1'⟩ := hc k hlt
      have hs := txts_take Q k hlt
      have ht2 := HT.out (k + 1)
      have HS : Hid (Sc.txts (Q.take (k + 1)) = Sc.txts (Q.take k) + (Q[k]'hlt).2.size) := hs
      have hz : (Q[k]'hlt).2.size ≤ 1000000000000000 := by omega
      clear hc hs ht2
      generalize Q[k]'hlt = y at *
      obtain ⟨kd, x⟩ := y
      simp only at c0 c1' HS hz
      have hi1 : (k : Int) < (Q.length : Int) := by omega
      go_wp2
      go_round
      case rel => exact ⟨k + 1, by omega, by go_num, by rw [HS.out]; go_num⟩
      case measure => simp [intOf]; omega
    · have e : Q.take k = Q := List.take_of_length_le (by omega)
      rw [e]
      go_wp2
      go_ret
      exact ⟨ret_int (by omega), (Tu.refl _ w).alloc _⟩
set_option maxRecDepth 100000 in
set_option maxHeartbeats 1000000 in
theorem rcopy_any (a : Option Addr) (c : Nat) (Q : List Sc.It) (w : World) (hQ : Its w (.slice a Q.length c) Q) (hl : Q.length * 24 ≤ 140737488355328) :
    Calls Try.prog 59 #[.slice a Q.length c] w fun e w' => ∃ v', e = .returned v' ∧ w'.ownsRow w.heap.size 33 2 v' Q.length (qcells Q) ∧ Below w.heap.size w w' := by
  obtain ⟨i0, hi, hz0, hz1, hz2⟩ := info_parts Try.infoItem
  have HI : Hid (i0.zero = some (.agg #[.int .u8 0, .string ⟨#[]⟩]) ∧ i0.size = 2 ∧ i0.bytes = 24) := ⟨hz0, hz1, hz2⟩
  have HL : Hid (Its w (.slice a Q.length c) Q) := hQ
  clear hz0 hz1 hz2 hQ
  go_enter Try.func59, Try.ntmps59
  go_wp2
  go_loopw [3, 4] (fun ov iv wr => ∃ k : Nat, k ≤ Q.length ∧ iv = .int .i64 (k : Int) ∧ Hid (wr.ownsRow w.heap.size 33 2 ov k (qcells (Q.take k)) ∧ Below w.heap.size w wr)) (fun _ iv _ => Q.length - (intOf iv).toNat)
  case atStart => exact ⟨0, Nat.zero_le _, rfl, ⟨rfl, .inl ⟨rfl, rfl⟩⟩, Below.refl _ _⟩
  case round =>
    obtain ⟨k, hk, rfl, HO⟩ := hrel
    by_cases hlt : k < Q.length
    · rcases HL.out.tu (Tu.of_below (O := fun _ => False) HO.out.2) (fun _ _ e => e) with ⟨_, e⟩ | ⟨b, off, cap', e, hb, hc⟩
      · rw [e] at hlt; simp at hlt
      cases e
      obtain ⟨c0, c1'⟩ := hc k hlt
      have HS : Hid (qcells (Q.take (k + 1)) = qcells (Q.take k) ++ qcells [Q[k]'hlt]) := by show _ = _; rw [List.take_succ_eq_append_getElem hlt, qcells_append]
      clear hc
      generalize Q[k]'hlt = y at *
      obtain ⟨kd, x⟩ := y
      simp only at c0 c1' HS
      have hi1 : (k : Int) < (Q.length : Int) := by omega
      have hsz := HO.out.2.size
      have HA : Hid ((wr.alloc (.cells #[.int .u8 (kd : Int), .string x] 33)).ownsRow w.heap.size 33 2 u3 k (qcells (Q.take k))) := HO.out.1.alloc _
      go_wp2_with (at_builtin; refine wpList_append_own_at _ rfl _ _ 27 rfl w.heap.size 33 i0 (.agg #[.int .u8 0, .string ⟨#[]⟩]) 2 24 Try.underlying27 hi HI.out.1 HI.out.2.1 HI.out.2.2 rfl (by decide) u3 k (qcells (Q.take k)) rfl HA.out ⟨wr.heap.size, 0, none⟩ 1 1 (qcells [(kd, x)]) rfl rfl (it_new _ kd x) (qcells_one _) (by unfold maxLen; omega) (by omega) (by simp; omega) ?_; intro v4 w4 p1 p2 p3 p4; have H4 : Hid (w4.ownsRow w.heap.size 33 2 v4 (k + 1) (qcells (Q.take (k + 1))) ∧ Below w.heap.size w w4) := ⟨by rw [HS.out]; exact p1, (HO.out.2.alloc (by omega) _).grown p2 (by simp; omega) (fun j e => (HO.out.1.lt j e).1)⟩; clear p1 p2 p3 p4)
      go_roundw
      case rel => exact ⟨k + 1, by omega, by go_num, H4⟩
      case measure => simp [intOf]; omega
    · have e : k = Q.length := by omega
      have HF : Hid (wr.ownsRow w.heap.size 33 2 u3 Q.length (qcells Q) ∧ Below w.heap.size w wr) := by
        have := HO.out
        rw [List.take_of_length_le (by omega), e] at this
        exact this
      clear e
      go_wp2
      go_ret
      exact ⟨_, rfl, HF.out⟩
end Go.Proofs.Ytngmaijfahjfcaa
