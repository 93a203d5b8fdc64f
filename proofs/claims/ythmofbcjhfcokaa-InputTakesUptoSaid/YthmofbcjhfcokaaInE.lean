/- What input.New does. -/
import Derived.Test.YthmofbcjhfcokaaInD
namespace Go.Proofs.Ythmofbcjhfcokaa
open Go.RowKit

/-- An input of which nothing was asked yet. -/
def In.st0 : In.St := ⟨0, ⟨#[]⟩, ⟨#[]⟩, false, 0, ⟨0, 0, false, false, ⟨#[]⟩⟩⟩
set_option maxRecDepth 100000 in
set_option maxHeartbeats 1000000 in
theorem new_bad (s : Addr) (n : Int) (sep : Bool) (w : World) (hn : n < 0 ∨ 1024 < n) :
    Calls Try.prog 7 #[.iface 24 (.pointer (some s)), .int .i64 n, .bool sep] w fun e w' => e = .returned (.pointer none) ∧ ∃ m, w' = w.drewN m := by
  go_enter Try.func7, Try.ntmps7
  by_cases h0 : n < 0
  · have h0' : decide (n < 0) = true := by simp [h0]
    go_wp2_with fail
    go_ret
    exact ⟨rfl, 0, rfl⟩
  · have h1 : 1024 < n := by omega
    have h0' : decide (n < 0) = false := by simp; omega
    have h1' : decide (1024 < n) = true := by simp [h1]
    go_wp2_with fail
    go_ret
    exact ⟨rfl, 0, rfl⟩
set_option maxRecDepth 100000 in
set_option maxHeartbeats 1000000 in
theorem new_nil (n : Int) (sep : Bool) (w : World) :
    Calls Try.prog 7 #[.nilIface, .int .i64 n, .bool sep] w fun e w' => e = .returned (.pointer none) ∧ w = w' := by
  go_enter Try.func7, Try.ntmps7
  go_wp2_with fail
  go_ret
  exact ⟨rfl, rfl⟩
theorem InV.made {gs : Nat} {T : List In.Tl} {sep : Bool} {ta : Option Addr} {tc : Nat} {av : Value} {w : World} (h : SrV w gs T 0 ta tc av) (hT : T.length ≤ 1024) (hta : ∀ ad, ta = some ad → ad.block < w.heap.size) :
    InV (w.alloc (.cells (In.icells gs T.length sep In.st0) 60)) w.heap.size gs T sep In.st0 ta tc av := by
  refine ⟨heap_alloc_new w _, h.tu (O := fun _ => False) ((Tu.refl _ w).alloc _) (fun _ _ _ e => e) (fun _ _ e => e), Nat.ne_of_gt h.lt, fun e => ?_, fun ad e => Nat.ne_of_lt (hta ad e), hT, Nat.zero_le _⟩
  have := Proofs.Ythmofbcjhfcokaa.own_lt h.ask e
  omega
set_option maxRecDepth 100000 in
set_option maxHeartbeats 1000000 in
theorem new_any (gs : Nat) (T : List In.Tl) (sep : Bool) (ta : Option Addr) (tc : Nat) (av : Value) (w : World) (h : SrV w gs T 0 ta tc av) (hT : T.length ≤ 1024) (hta : ∀ ad, ta = some ad → ad.block < w.heap.size) :
    Calls Try.prog 7 #[.iface 24 (.pointer (some ⟨gs, 0, none⟩)), .int .i64 (T.length : Int), .bool sep] w fun e w' => ∃ g av', e = .returned (.pointer (some ⟨g, 0, none⟩)) ∧ InV w' g gs T sep (In.lk T In.st0) ta tc av' ∧ Tu (sOwn gs av) w w' ∧ moved w av av' ∧ w.heap.size = g := by
  have HL : Hid _ := look_any w.heap.size gs T sep In.st0 ta tc av _ (InV.made (sep := sep) h hT hta)
  have HOW : Hid (∀ k, sOwn gs av k → k < w.heap.size) := fun k e => by
    rcases e with rfl | e
    · exact h.lt
    · exact own_lt h.ask e
  clear h hta
  go_enter Try.func7, Try.ntmps7
  have h0 : ¬ (T.length : Int) < 0 := by omega
  have h1 : ¬ (1024 : Int) < (T.length : Int) := by omega
  have h0' : decide ((T.length : Int) < 0) = false := by simp
  have h1' : decide ((1024 : Int) < (T.length : Int)) = false := by simp; omega
  go_wp2_with (go_at_call 24; refine Calls.mono HL.out ?_; rintro e w1 ⟨rfl, av1, hi1, ht1, hm1⟩)
  go_ret
  refine ⟨_, av1, rfl, hi1, ?_, ?_, rfl⟩
  · refine ⟨ht1.os, ht1.tape, ht1.output, ?_, fun k hk hn => ?_⟩
    · have := ht1.size
      simp at this
      omega
    · rw [ht1.block k (by simp; omega) (by rintro (e | e); omega; exact hn e)]
      exact heap_alloc_old _ _ hk
  · rcases hm1 with e | ⟨b, e, hb⟩
    · exact .inl e
    · exact .inr ⟨b, e, by simp at hb; omega⟩
end Go.Proofs.Ythmofbcjhfcokaa
