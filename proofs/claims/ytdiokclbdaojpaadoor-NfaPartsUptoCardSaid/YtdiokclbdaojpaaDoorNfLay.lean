/- What (*layout).lay does, over what lays out a node of a kind. -/
import Derived.Test.YtdiokclbdaojpaaDoorNfM4
import Derived.Deep.RegionWith
namespace Go.Proofs.YtdiokclbdaojpaaDoor
open Go.RowKit

set_option maxRecDepth 100000 in
set_option maxHeartbeats 4000000 in
theorem lay_k1 (T : Nt.NT) (hk : T.k = 1) (hc : Nt.LayC 54 T) : Nt.LayC 34 T := by
  intro lb rb cap f b L P w hL hP hpc hroom hcap hf ht
  have HC : Hid (∀ n, Calls Tryd.prog 54 #[.pointer (some ⟨lb, 0, none⟩), .pointer (some ⟨b, 0, none⟩)] (w.drewN n) fun e w' => (∃ v, e = .returned v) ∧ Nt.Ly w' lb rb cap (L ++ Nt.code T L.length f) f ∧ Nt.Bz lb rb w w') := fun n => Calls.mono (hc lb rb cap f b L P (w.drewN n) ⟨hL.blk, hL.row, hL.ne⟩ hP (hpc.same (fun _ _ => rfl) (fun _ h => h)) hroom hcap hf (ht.drewN n)) (fun e w' ⟨h1, h2, h3⟩ => ⟨h1, h2, ⟨h3.os, h3.tape, h3.output, h3.size, h3.block⟩⟩)
  cases hpc with
  | mk nb off a cap' ka kc bs hb blk hn node len room most kids sub =>
  obtain ⟨p0, p1, p2, p3, p4⟩ := blk.cells
  obtain ⟨q0, q1, q2, q3, q4, q5, q6, q7, q8⟩ := node
  have t0 : w.cell? ⟨lb, 1, none⟩ = some (.func (.func 54) #[] #[]) := hL.cell 1
  rw [hk] at q0
  clear hL blk kids sub hP hroom hc hk ht
  go_enter Tryd.func34, Tryd.ntmps34
  go_wp2_with fail
  go_region_with (go_at_call 54; refine Calls.mono (HC.out 1) ?_; rintro e w1 ⟨⟨v, rfl⟩, hL1, hz⟩)
  all_goals
    go_wp2_with fail
    go_end0
    exact ⟨⟨_, rfl⟩, hL1, hz⟩
set_option maxRecDepth 100000 in
set_option maxHeartbeats 4000000 in
theorem lay_k2 (T : Nt.NT) (hk : T.k = 2) (hc : Nt.LayC 55 T) : Nt.LayC 34 T := by
  intro lb rb cap f b L P w hL hP hpc hroom hcap hf ht
  have HC : Hid (∀ n, Calls Tryd.prog 55 #[.pointer (some ⟨lb, 0, none⟩), .pointer (some ⟨b, 0, none⟩)] (w.drewN n) fun e w' => (∃ v, e = .returned v) ∧ Nt.Ly w' lb rb cap (L ++ Nt.code T L.length f) f ∧ Nt.Bz lb rb w w') := fun n => Calls.mono (hc lb rb cap f b L P (w.drewN n) ⟨hL.blk, hL.row, hL.ne⟩ hP (hpc.same (fun _ _ => rfl) (fun _ h => h)) hroom hcap hf (ht.drewN n)) (fun e w' ⟨h1, h2, h3⟩ => ⟨h1, h2, ⟨h3.os, h3.tape, h3.output, h3.size, h3.block⟩⟩)
  cases hpc with
  | mk nb off a cap' ka kc bs hb blk hn node len room most kids sub =>
  obtain ⟨p0, p1, p2, p3, p4⟩ := blk.cells
  obtain ⟨q0, q1, q2, q3, q4, q5, q6, q7, q8⟩ := node
  have t0 : w.cell? ⟨lb, 2, none⟩ = some (.func (.func 55) #[] #[]) := hL.cell 2
  rw [hk] at q0
  clear hL blk kids sub hP hroom hc hk ht
  go_enter Tryd.func34, Tryd.ntmps34
  go_wp2_with fail
  go_region_with (go_at_call 55; refine Calls.mono (HC.out 1) ?_; rintro e w1 ⟨⟨v, rfl⟩, hL1, hz⟩)
  all_goals
    go_wp2_with fail
    go_end0
    exact ⟨⟨_, rfl⟩, hL1, hz⟩
set_option maxRecDepth 100000 in
set_option maxHeartbeats 4000000 in
theorem lay_k3 (T : Nt.NT) (hk : T.k = 3) (hc : Nt.LayC 56 T) : Nt.LayC 34 T := by
  intro lb rb cap f b L P w hL hP hpc hroom hcap hf ht
  have HC : Hid (∀ n, Calls Tryd.prog 56 #[.pointer (some ⟨lb, 0, none⟩), .pointer (some ⟨b, 0, none⟩)] (w.drewN n) fun e w' => (∃ v, e = .returned v) ∧ Nt.Ly w' lb rb cap (L ++ Nt.code T L.length f) f ∧ Nt.Bz lb rb w w') := fun n => Calls.mono (hc lb rb cap f b L P (w.drewN n) ⟨hL.blk, hL.row, hL.ne⟩ hP (hpc.same (fun _ _ => rfl) (fun _ h => h)) hroom hcap hf (ht.drewN n)) (fun e w' ⟨h1, h2, h3⟩ => ⟨h1, h2, ⟨h3.os, h3.tape, h3.output, h3.size, h3.block⟩⟩)
  cases hpc with
  | mk nb off a cap' ka kc bs hb blk hn node len room most kids sub =>
  obtain ⟨p0, p1, p2, p3, p4⟩ := blk.cells
  obtain ⟨q0, q1, q2, q3, q4, q5, q6, q7, q8⟩ := node
  have t0 : w.cell? ⟨lb, 3, none⟩ = some (.func (.func 56) #[] #[]) := hL.cell 3
  rw [hk] at q0
  clear hL blk kids sub hP hroom hc hk ht
  go_enter Tryd.func34, Tryd.ntmps34
  go_wp2_with fail
  go_region_with (go_at_call 56; refine Calls.mono (HC.out 1) ?_; rintro e w1 ⟨⟨v, rfl⟩, hL1, hz⟩)
  all_goals
    go_wp2_with fail
    go_end0
    exact ⟨⟨_, rfl⟩, hL1, hz⟩
set_option maxRecDepth 100000 in
set_option maxHeartbeats 4000000 in
theorem lay_k4 (T : Nt.NT) (hk : T.k = 4) (hc : Nt.LayC 57 T) : Nt.LayC 34 T := by
  intro lb rb cap f b L P w hL hP hpc hroom hcap hf ht
  have HC : Hid (∀ n, Calls Tryd.prog 57 #[.pointer (some ⟨lb, 0, none⟩), .pointer (some ⟨b, 0, none⟩)] (w.drewN n) fun e w' => (∃ v, e = .returned v) ∧ Nt.Ly w' lb rb cap (L ++ Nt.code T L.length f) f ∧ Nt.Bz lb rb w w') := fun n => Calls.mono (hc lb rb cap f b L P (w.drewN n) ⟨hL.blk, hL.row, hL.ne⟩ hP (hpc.same (fun _ _ => rfl) (fun _ h => h)) hroom hcap hf (ht.drewN n)) (fun e w' ⟨h1, h2, h3⟩ => ⟨h1, h2, ⟨h3.os, h3.tape, h3.output, h3.size, h3.block⟩⟩)
  cases hpc with
  | mk nb off a cap' ka kc bs hb blk hn node len room most kids sub =>
  obtain ⟨p0, p1, p2, p3, p4⟩ := blk.cells
  obtain ⟨q0, q1, q2, q3, q4, q5, q6, q7, q8⟩ := node
  have t0 : w.cell? ⟨lb, 4, none⟩ = some (.func (.func 57) #[] #[]) := hL.cell 4
  rw [hk] at q0
  clear hL blk kids sub hP hroom hc hk ht
  go_enter Tryd.func34, Tryd.ntmps34
  go_wp2_with fail
  go_region_with (go_at_call 57; refine Calls.mono (HC.out 1) ?_; rintro e w1 ⟨⟨v, rfl⟩, hL1, hz⟩)
  all_goals
    go_wp2_with fail
    go_end0
    exact ⟨⟨_, rfl⟩, hL1, hz⟩
set_option maxRecDepth 100000 in
set_option maxHeartbeats 4000000 in
theorem lay_k5 (T : Nt.NT) (hk : T.k = 5) (hc : Nt.LayC 58 T) : Nt.LayC 34 T := by
  intro lb rb cap f b L P w hL hP hpc hroom hcap hf ht
  have HC : Hid (∀ n, Calls Tryd.prog 58 #[.pointer (some ⟨lb, 0, none⟩), .pointer (some ⟨b, 0, none⟩)] (w.drewN n) fun e w' => (∃ v, e = .returned v) ∧ Nt.Ly w' lb rb cap (L ++ Nt.code T L.length f) f ∧ Nt.Bz lb rb w w') := fun n => Calls.mono (hc lb rb cap f b L P (w.drewN n) ⟨hL.blk, hL.row, hL.ne⟩ hP (hpc.same (fun _ _ => rfl) (fun _ h => h)) hroom hcap hf (ht.drewN n)) (fun e w' ⟨h1, h2, h3⟩ => ⟨h1, h2, ⟨h3.os, h3.tape, h3.output, h3.size, h3.block⟩⟩)
  cases hpc with
  | mk nb off a cap' ka kc bs hb blk hn node len room most kids sub =>
  obtain ⟨p0, p1, p2, p3, p4⟩ := blk.cells
  obtain ⟨q0, q1, q2, q3, q4, q5, q6, q7, q8⟩ := node
  have t0 : w.cell? ⟨lb, 5, none⟩ = some (.func (.func 58) #[] #[]) := hL.cell 5
  rw [hk] at q0
  clear hL blk kids sub hP hroom hc hk ht
  go_enter Tryd.func34, Tryd.ntmps34
  go_wp2_with fail
  go_region_with (go_at_call 58; refine Calls.mono (HC.out 1) ?_; rintro e w1 ⟨⟨v, rfl⟩, hL1, hz⟩)
  all_goals
    go_wp2_with fail
    go_end0
    exact ⟨⟨_, rfl⟩, hL1, hz⟩
set_option maxRecDepth 100000 in
set_option maxHeartbeats 4000000 in
theorem lay_k6 (T : Nt.NT) (hk : T.k = 6) (hc : Nt.LayC 59 T) : Nt.LayC 34 T := by
  intro lb rb cap f b L P w hL hP hpc hroom hcap hf ht
  have HC : Hid (∀ n, Calls Tryd.prog 59 #[.pointer (some ⟨lb, 0, none⟩), .pointer (some ⟨b, 0, none⟩)] (w.drewN n) fun e w' => (∃ v, e = .returned v) ∧ Nt.Ly w' lb rb cap (L ++ Nt.code T L.length f) f ∧ Nt.Bz lb rb w w') := fun n => Calls.mono (hc lb rb cap f b L P (w.drewN n) ⟨hL.blk, hL.row, hL.ne⟩ hP (hpc.same (fun _ _ => rfl) (fun _ h => h)) hroom hcap hf (ht.drewN n)) (fun e w' ⟨h1, h2, h3⟩ => ⟨h1, h2, ⟨h3.os, h3.tape, h3.output, h3.size, h3.block⟩⟩)
  cases hpc with
  | mk nb off a cap' ka kc bs hb blk hn node len room most kids sub =>
  obtain ⟨p0, p1, p2, p3, p4⟩ := blk.cells
  obtain ⟨q0, q1, q2, q3, q4, q5, q6, q7, q8⟩ := node
  have t0 : w.cell? ⟨lb, 6, none⟩ = some (.func (.func 59) #[] #[]) := hL.cell 6
  rw [hk] at q0
  clear hL blk kids sub hP hroom hc hk ht
  go_enter Tryd.func34, Tryd.ntmps34
  go_wp2_with fail
  go_region_with (go_at_call 59; refine Calls.mono (HC.out 1) ?_; rintro e w1 ⟨⟨v, rfl⟩, hL1, hz⟩)
  all_goals
    go_wp2_with fail
    go_end0
    exact ⟨⟨_, rfl⟩, hL1, hz⟩
set_option maxRecDepth 100000 in
set_option maxHeartbeats 4000000 in
theorem lay_k7 (T : Nt.NT) (hk : T.k = 7) (hc : Nt.LayC 60 T) : Nt.LayC 34 T := by
  intro lb rb cap f b L P w hL hP hpc hroom hcap hf ht
  have HC : Hid (∀ n, Calls Tryd.prog 60 #[.pointer (some ⟨lb, 0, none⟩), .pointer (some ⟨b, 0, none⟩)] (w.drewN n) fun e w' => (∃ v, e = .returned v) ∧ Nt.Ly w' lb rb cap (L ++ Nt.code T L.length f) f ∧ Nt.Bz lb rb w w') := fun n => Calls.mono (hc lb rb cap f b L P (w.drewN n) ⟨hL.blk, hL.row, hL.ne⟩ hP (hpc.same (fun _ _ => rfl) (fun _ h => h)) hroom hcap hf (ht.drewN n)) (fun e w' ⟨h1, h2, h3⟩ => ⟨h1, h2, ⟨h3.os, h3.tape, h3.output, h3.size, h3.block⟩⟩)
  cases hpc with
  | mk nb off a cap' ka kc bs hb blk hn node len room most kids sub =>
  obtain ⟨p0, p1, p2, p3, p4⟩ := blk.cells
  obtain ⟨q0, q1, q2, q3, q4, q5, q6, q7, q8⟩ := node
  have t0 : w.cell? ⟨lb, 7, none⟩ = some (.func (.func 60) #[] #[]) := hL.cell 7
  rw [hk] at q0
  clear hL blk kids sub hP hroom hc hk ht
  go_enter Tryd.func34, Tryd.ntmps34
  go_wp2_with fail
  go_region_with (go_at_call 60; refine Calls.mono (HC.out 1) ?_; rintro e w1 ⟨⟨v, rfl⟩, hL1, hz⟩)
  all_goals
    go_wp2_with fail
    go_end0
    exact ⟨⟨_, rfl⟩, hL1, hz⟩
set_option maxRecDepth 100000 in
set_option maxHeartbeats 4000000 in
theorem lay_k8 (T : Nt.NT) (hk : T.k = 8) (hc : Nt.LayC 61 T) : Nt.LayC 34 T := by
  intro lb rb cap f b L P w hL hP hpc hroom hcap hf ht
  have HC : Hid (∀ n, Calls Tryd.prog 61 #[.pointer (some ⟨lb, 0, none⟩), .pointer (some ⟨b, 0, none⟩)] (w.drewN n) fun e w' => (∃ v, e = .returned v) ∧ Nt.Ly w' lb rb cap (L ++ Nt.code T L.length f) f ∧ Nt.Bz lb rb w w') := fun n => Calls.mono (hc lb rb cap f b L P (w.drewN n) ⟨hL.blk, hL.row, hL.ne⟩ hP (hpc.same (fun _ _ => rfl) (fun _ h => h)) hroom hcap hf (ht.drewN n)) (fun e w' ⟨h1, h2, h3⟩ => ⟨h1, h2, ⟨h3.os, h3.tape, h3.output, h3.size, h3.block⟩⟩)
  cases hpc with
  | mk nb off a cap' ka kc bs hb blk hn node len room most kids sub =>
  obtain ⟨p0, p1, p2, p3, p4⟩ := blk.cells
  obtain ⟨q0, q1, q2, q3, q4, q5, q6, q7, q8⟩ := node
  have t0 : w.cell? ⟨lb, 8, none⟩ = some (.func (.func 61) #[] #[]) := hL.cell 8
  rw [hk] at q0
  clear hL blk kids sub hP hroom hc hk ht
  go_enter Tryd.func34, Tryd.ntmps34
  go_wp2_with fail
  go_region_with (go_at_call 61; refine Calls.mono (HC.out 1) ?_; rintro e w1 ⟨⟨v, rfl⟩, hL1, hz⟩)
  all_goals
    go_wp2_with fail
    go_end0
    exact ⟨⟨_, rfl⟩, hL1, hz⟩
set_option maxRecDepth 100000 in
set_option maxHeartbeats 4000000 in
theorem lay_k9 (T : Nt.NT) (hk : T.k = 9) (hc : Nt.LayC 62 T) : Nt.LayC 34 T := by
  intro lb rb cap f b L P w hL hP hpc hroom hcap hf ht
  have HC : Hid (∀ n, Calls Tryd.prog 62 #[.pointer (some ⟨lb, 0, none⟩), .pointer (some ⟨b, 0, none⟩)] (w.drewN n) fun e w' => (∃ v, e = .returned v) ∧ Nt.Ly w' lb rb cap (L ++ Nt.code T L.length f) f ∧ Nt.Bz lb rb w w') := fun n => Calls.mono (hc lb rb cap f b L P (w.drewN n) ⟨hL.blk, hL.row, hL.ne⟩ hP (hpc.same (fun _ _ => rfl) (fun _ h => h)) hroom hcap hf (ht.drewN n)) (fun e w' ⟨h1, h2, h3⟩ => ⟨h1, h2, ⟨h3.os, h3.tape, h3.output, h3.size, h3.block⟩⟩)
  cases hpc with
  | mk nb off a cap' ka kc bs hb blk hn node len room most kids sub =>
  obtain ⟨p0, p1, p2, p3, p4⟩ := blk.cells
  obtain ⟨q0, q1, q2, q3, q4, q5, q6, q7, q8⟩ := node
  have t0 : w.cell? ⟨lb, 9, none⟩ = some (.func (.func 62) #[] #[]) := hL.cell 9
  rw [hk] at q0
  clear hL blk kids sub hP hroom hc hk ht
  go_enter Tryd.func34, Tryd.ntmps34
  go_wp2_with fail
  go_region_with (go_at_call 62; refine Calls.mono (HC.out 1) ?_; rintro e w1 ⟨⟨v, rfl⟩, hL1, hz⟩)
  all_goals
    go_wp2_with fail
    go_end0
    exact ⟨⟨_, rfl⟩, hL1, hz⟩
end Go.Proofs.YtdiokclbdaojpaaDoor
