/- What the reference's Script answers. -/
import Derived.Test.YtklcfjakhabbgaaArSc
namespace Go.Proofs.Ytklcfjakhabbgaa
open Go.RowKit

set_option maxRecDepth 100000 in
set_option maxHeartbeats 4000000 in
theorem rscript_any (l : List Ar.Pc) (pa : Option Addr) (pc : Nat) (F : List ByteArray) (fa : Option Addr) (fc : Nat) (w : World) (hl : Pcs w pa pc l) (hF : Strs w fa fc F) (hz : (l.map (fun p => p.2.size + 3)).sum + Ar.tsz F ≤ 4194304) (hll : l.length ≤ 1048576) :
    Calls Try.prog 21 #[.slice pa l.length pc, .slice fa F.length fc] w (ScIs l F w) := by
  have HL : Hid _ := hl
  have HF : Hid _ := hF
  have HZ : Hid _ := hz
  have hFl := hF.len
  clear hl hF hz
  have HN : Hid (∀ k (h : k < l.length), Ar.nFl (l.take (k + 1)) = Ar.nFl (l.take k) + (if (l[k]'h).1 then 1 else 0)) := fun k h => by rw [List.take_succ_eq_append_getElem h, Ar.nFl_snoc]
  have HN0 : Hid (Ar.nFl (l.take 0) = 0) := rfl
  have HNl : Hid (∀ k, Ar.nFl (l.take k) ≤ l.length) := fun k => Nat.le_trans (List.length_filter_le _ _) (by rw [List.length_take]; omega)
  go_enter Try.func21, Try.ntmps21
  go_wp2_with fail
  go_loopw [6, 7] (fun nv iv wr => ∃ (k n : Nat), nv = .int .i64 (n : Int) ∧ iv = .int .i64 (k : Int) ∧ k ≤ l.length ∧ Hid (n = Ar.nFl (l.take k)) ∧ n ≤ 1048576 ∧ w = wr) (fun _ iv _ => l.length - (intOf iv).toNat)
  case atStart => exact ⟨0, 0, rfl, rfl, Nat.zero_le _, HN0, by decide, rfl⟩
  case round =>
    obtain ⟨k, n, rfl, rfl, hk, HK, hn, rfl⟩ := hrel
    by_cases hlt : k < l.length
    · have hd : (k : Int) < (l.length : Int) := by omega
      have hw : IntKind.i64.wrap ((k : Int) + 1) = (k : Int) + 1 := by rw [IntKind.wrap_i64]; omega
      have hw2 : IntKind.i64.wrap ((n : Int) + 1) = (n : Int) + 1 := by rw [IntKind.wrap_i64]; omega
      obtain ⟨bb, off, rfl, hbb, d0, _⟩ := HL.out.cells k hlt
      have HS : Hid _ := HN.out k hlt
      have HB : Hid _ := HNl.out (k + 1)
      cases hp : (l[k]'hlt).1
      · rw [hp] at d0 HS
        have HK2 : Hid (n = Ar.nFl (l.take (k + 1))) := by show _ = _; rw [HS.out]; exact HK.out
        clear hp HS
        go_wp2_with fail
        go_roundw
        case rel => exact ⟨k + 1, n, rfl, by simp, by omega, HK2, hn, trivial⟩
        case measure => simp only [intOf]; omega
      · rw [hp] at d0 HS
        have HK2 : Hid (n + 1 = Ar.nFl (l.take (k + 1))) := by show _ = _; rw [HS.out, ← HK.out]; rfl
        clear hp HS
        go_wp2_with fail
        go_roundw
        case rel => exact ⟨k + 1, n + 1, by simp, by simp, by omega, HK2, by have := HK2.out; have := HB.out; omega, trivial⟩
        case measure => simp only [intOf]; omega
    · have hd : ¬ (k : Int) < (l.length : Int) := by omega
      obtain rfl : k = l.length := by omega
      have HK2 : Hid (n = Ar.nFl l) := by have := HK.out; rw [List.take_length] at this; exact this
      clear HK
      by_cases hnf : n = F.length
      · have hq : ((n : Int) == (F.length : Int)) = true := beq_iff_eq.2 (by omega)
        have HR : Hid (Ar.scrR l F = (Ar.jn (Ar.scTx l F), 0)) := by
          show _ = _
          unfold Ar.scrR
          rw [if_pos (HK2.out.symm.trans hnf)]
        have HNF : Hid _ := hnf
        have HK2' : Hid _ := HK2.out
        clear hnf HK2
        clear HN0
        go_wp2_with fail
        go_loopw [6, 8, 9] (fun nv sv iv wr => ∃ (k m : Nat) (S : ByteArray), nv = .int .i64 (m : Int) ∧ sv = .string S ∧ iv = .int .i64 (k : Int) ∧ k ≤ l.length ∧ m ≤ 1048576 ∧ S.size ≤ 4194304 ∧ Hid (S = Ar.jn (Ar.scTx (l.take k) F)) ∧ Hid (m = Ar.nFl (l.take k)) ∧ w = wr) (fun _ _ iv _ => l.length - (intOf iv).toNat)
        case atStart => exact ⟨0, 0, ⟨#[]⟩, rfl, rfl, rfl, Nat.zero_le _, by decide, by decide, rfl, rfl, rfl⟩
        case round =>
          obtain ⟨k, m, S, rfl, rfl, rfl, hk, hm, hS, HS, HM, rfl⟩ := hrel
          by_cases hlt : k < l.length
          · have hd : (k : Int) < (l.length : Int) := by omega
            have hw : IntKind.i64.wrap ((k : Int) + 1) = (k : Int) + 1 := by rw [IntKind.wrap_i64]; omega
            have hw2 : IntKind.i64.wrap ((m : Int) + 1) = (m : Int) + 1 := by rw [IntKind.wrap_i64]; omega
            obtain ⟨bb, off, rfl, hbb, d0, d1⟩ := HL.out.cells k hlt
            have HTS : Hid _ := HN.out k hlt
            have HJ : Hid (Ar.jn (Ar.scTx (l.take (k + 1)) F) = (if k = 0 then S else S ++ ⟨#[10]⟩) ++ (if (l[k]'hlt).1 then (F.drop m).headD (Ar.bs []) else (l[k]'hlt).2)) := by
              show _ = _
              rw [List.take_succ_eq_append_getElem hlt, Ar.scTx_snoc, ← HM.out, HS.out]
              exact Ar.jn_next _ _ k (by rw [Ar.scTx_len, List.length_take]; omega)
            have HZ2 : Hid ((Ar.jn (Ar.scTx (l.take (k + 1)) F)).size ≤ 4194304) := by
              have h1 := Ar.jn_size (Ar.scTx (l.take (k + 1)) F)
              have h2 := Ar.scTx_bulk (l.take (k + 1)) F
              have h3 := Ar.sum_take l (k + 1)
              have h4 := HZ.out
              show _ ≤ _
              omega
            have hps := HL.out.size _ (List.getElem_mem hlt)
            obtain ⟨x, hx⟩ : ∃ x, x = (l[k]'hlt).2 := ⟨_, rfl⟩
            rw [← hx] at d1 hps HJ
            cases hp : (l[k]'hlt).1
            · rw [hp] at d0 HTS HJ
              have HK2 : Hid (m = Ar.nFl (l.take (k + 1))) := by show _ = _; rw [HTS.out]; exact HM.out
              clear hp HTS hx
              by_cases hk0 : k = 0
              · have hk1 : ¬ (0 : Int) < (k : Int) := by omega
                have HS2 : Hid (S ++ x = Ar.jn (Ar.scTx (l.take (k + 1)) F)) := by show _ = _; rw [HJ.out, if_pos hk0]; rfl
                clear hk0 HJ
                go_wp2_with fail
                go_roundw
                case rel => exact ⟨k + 1, m, _, rfl, rfl, by simp, by omega, hm, by rw [HS2.out]; exact HZ2.out, HS2, HK2, trivial⟩
                case measure => simp only [intOf]; omega
              · have hk1 : (0 : Int) < (k : Int) := by omega
                have HS2 : Hid (S ++ ⟨#[10]⟩ ++ x = Ar.jn (Ar.scTx (l.take (k + 1)) F)) := by show _ = _; rw [HJ.out, if_neg hk0]; rfl
                clear hk0 HJ
                go_wp2_with fail
                go_roundw
                case rel => exact ⟨k + 1, m, _, rfl, rfl, by simp, by omega, hm, by rw [HS2.out]; exact HZ2.out, HS2, HK2, trivial⟩
                case measure => simp only [intOf]; omega
            · rw [hp] at d0 HTS HJ
              have HK2 : Hid (m + 1 = Ar.nFl (l.take (k + 1))) := by show _ = _; rw [HTS.out, ← HM.out]; rfl
              have hmF : m < F.length := by
                have h1 := Ar.nFl_take_le l (k + 1)
                have h2 := HK2.out
                have h3 := HK2'.out
                have h4 := HNF.out
                omega
              obtain ⟨gb, go', rfl, hgb, e0⟩ := HF.out.cells m hmF
              have hfz := HF.out.size m hmF
              have HJ2 : Hid (Ar.jn (Ar.scTx (l.take (k + 1)) F) = (if k = 0 then S else S ++ ⟨#[10]⟩) ++ F[m]'hmF) := by
                show _ = _
                rw [HJ.out, if_pos rfl, List.drop_eq_getElem_cons hmF]; rfl
              have hm2 : (m : Int) < (F.length : Int) := by omega
              generalize F[m]'hmF = f at *
              have HB : Hid _ := HNl.out (k + 1)
              clear hp HTS hx HJ hmF
              by_cases hk0 : k = 0
              · have hk1 : ¬ (0 : Int) < (k : Int) := by omega
                have HS2 : Hid (S ++ f = Ar.jn (Ar.scTx (l.take (k + 1)) F)) := by show _ = _; rw [HJ2.out, if_pos hk0]
                clear hk0 HJ2
                go_wp2_with fail
                go_roundw
                case rel => exact ⟨k + 1, m + 1, _, by simp, rfl, by simp, by omega, by have := HK2.out; have := HB.out; omega, by rw [HS2.out]; exact HZ2.out, HS2, HK2, trivial⟩
                case measure => simp only [intOf]; omega
              · have hk1 : (0 : Int) < (k : Int) := by omega
                have HS2 : Hid (S ++ ⟨#[10]⟩ ++ f = Ar.jn (Ar.scTx (l.take (k + 1)) F)) := by show _ = _; rw [HJ2.out, if_neg hk0]
                clear hk0 HJ2
                go_wp2_with fail
                go_roundw
                case rel => exact ⟨k + 1, m + 1, _, by simp, rfl, by simp, by omega, by have := HK2.out; have := HB.out; omega, by rw [HS2.out]; exact HZ2.out, HS2, HK2, trivial⟩
                case measure => simp only [intOf]; omega
          · have hd : ¬ (k : Int) < (l.length : Int) := by omega
            obtain rfl : k = l.length := by omega
            rw [List.take_length] at HS
            go_wp2_with fail
            go_ret2
            exact ⟨by rw [HR.out, ← HS.out] <;> rfl, Below.refl _ _⟩
      · have hq : ((n : Int) == (F.length : Int)) = false := beq_eq_false_iff_ne.2 (by omega)
        have HR : Hid (Ar.scrR l F = (Ar.bs [], 2)) := by
          show _ = _
          unfold Ar.scrR
          rw [if_neg (by rw [← HK2.out]; exact hnf)]
        clear hnf
        go_wp2_with fail
        go_ret2
        exact ⟨by rw [HR.out] <;> rfl, Below.refl _ _⟩
end Go.Proofs.Ytklcfjakhabbgaa
