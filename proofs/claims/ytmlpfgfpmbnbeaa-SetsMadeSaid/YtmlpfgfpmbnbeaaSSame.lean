/- What the statements' same answers of two slices with the same bytes. -/
import Derived.Test.YtmlpfgfpmbnbeaaSRef
import Derived.Deep.QuietTactic
import Derived.BigQuiet
namespace Go.Proofs.Ytmlpfgfpmbnbeaa
open Go.RowKit

theorem Bys.drewN {w : World} {a : Option Addr} {l : List UInt8} (h : Bys w a l) (n : Nat) : Bys (w.drewN n) a l := ⟨h.len, h.cells⟩

set_option maxRecDepth 100000 in
set_option maxHeartbeats 1000000 in
theorem same_any (a b : Option Addr) (ca cb : Nat) (L : List UInt8) (w : World) (hA : Bys w a L) (hB : Bys w b L) :
    Calls Try.prog 14 #[.slice a L.length ca, .slice b L.length cb] w fun e w' => e = .returned (.bool true) ∧ ∃ n, w' = w.drewN n := by
  have hl := hA.len
  go_enter Try.func14, Try.ntmps14
  go_wp2_with fail
  go_loopw [13] (fun i wr => ∃ k : Nat, k ≤ L.length ∧ i = .int .i64 k ∧ Hid (∃ n, wr = w.drewN n)) (fun i _ => L.length - (intOf i).toNat)
  case atStart => exact ⟨0, Nat.zero_le _, rfl, 0, rfl⟩
  case round =>
    obtain ⟨k, hk, rfl, HW⟩ := hrel
    have hAr : Bys wr a L := by obtain ⟨n, rfl⟩ := HW.out; exact hA.drewN n
    have hBr : Bys wr b L := by obtain ⟨n, rfl⟩ := HW.out; exact hB.drewN n
    by_cases hlt : k < L.length
    · obtain ⟨b1, o1, rfl, _, hc1⟩ := hAr.cells k hlt
      obtain ⟨b2, o2, rfl, _, hc2⟩ := hBr.cells k hlt
      generalize (L[k]'hlt).toNat = x at *
      have hnn : (((x : Nat) : Int) != ((x : Nat) : Int)) = false := by simp
      go_wp2_with fail
      go_quiet (fail)
      go_wp2_with fail
      refine ⟨⟨k + 1, by omega, by go_num, ?_⟩, ?_⟩
      · obtain ⟨n, rfl⟩ := HW.out
        exact ⟨n + nq, by simp [World.drewN, Nat.add_assoc]⟩
      · simp [intOf]; omega
    · go_wp2_with fail
      go_ret
      exact ⟨rfl, HW.out⟩
end Go.Proofs.Ytmlpfgfpmbnbeaa
