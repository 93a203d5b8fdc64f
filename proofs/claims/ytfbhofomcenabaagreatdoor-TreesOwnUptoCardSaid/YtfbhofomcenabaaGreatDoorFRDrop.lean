/- What the reference's Drop answers. -/
import Derived.Test.YtfbhofomcenabaaGreatDoorFRPut
namespace Go.Proofs.YtfbhofomcenabaaGreatDoor
open Go Go.RowKit

namespace Ft
theorem drop_none {T : FT} {p : List ByteArray} {n : Nat} (hr : rightT T = true) (hp : p.length ≠ 0) (h : lookR T p = .inl n) : dropR T p = .inl n := by
  unfold dropR
  rw [hold_of hr hp]
  have h2 := look_app (headsN p) T [lastN p]
  rw [heads_last hp, h] at h2
  cases hh : lookR T (headsN p) with
  | inl e => rw [hh] at h2; exact h2.symm
  | inr D => simp only; rw [h]
theorem drop_some {T V : FT} {p : List ByteArray} (hr : rightT T = true) (hp : p.length ≠ 0) (h : lookR T p = .inr V) : dropR T p = .inr (withG T p none) := by
  have h2 := look_app (headsN p) T [lastN p]
  rw [heads_last hp, h] at h2
  cases hh : lookR T (headsN p) with
  | inl e => rw [hh] at h2; cases h2
  | inr D => rw [withG_heads none hr hp hh, dropR_of (by rw [hold_of hr hp, hh]) h]; rfl
end Ft

set_option maxRecDepth 100000 in
set_option maxHeartbeats 4000000 in
theorem rdrop_any (T : Ft.FT) (p : List ByteArray) (a ap : Option Addr) (cap cp : Nat) (w : World) (hN : Ft.Fd w (· < w.heap.size) T a cap) (hz : Ft.szT T = true) (hP : Strs w ap cp p) (hc : Ft.cntT T < 1048576) :
    Calls Tryz.prog 62 #[Ft.fdV T a cap, .slice ap p.length cp] w (Ft.GetE w (Ft.dropR T p)) := by
  obtain ⟨W, hW⟩ : ∃ W, W = (w.alloc (.cells (Ft.fdA T a cap) 25)).alloc (.cells #[.string ⟨#[]⟩, .int .u8 0, .string ⟨#[]⟩, .slice none 0 0] 25) := ⟨_, rfl⟩
  have hB : Below w.heap.size w W := by rw [hW]; exact ((Below.refl _ _).alloc (Nat.le_refl _) _).alloc (by simp) _
  have hF : Ft.FnP (· < w.heap.size) w T a cap W := by
    refine ⟨?_, hN.under hB, ?_, hB⟩
    · rw [hW]; exact (Ft.file_new w T a cap).alloc _
    · rw [hW]
      have := Ft.file_zero (w.alloc (.cells (Ft.fdA T a cap) 25))
      simpa using this
  have HW : Hid (W = (w.alloc (.cells #[.string T.nm, .int .u8 (T.k : Int), .string T.d, .slice a T.kids.length cap] 25)).alloc (.cells #[.string ⟨#[]⟩, .int .u8 0, .string ⟨#[]⟩, .slice none 0 0] 25)) := hW
  have HF : Hid (Ft.FnP (· < w.heap.size) w T a cap W ∧ Strs w ap cp p ∧ Ft.cntT T < 1048576) := ⟨hF, hP, hc⟩
  have C1 := rright_any T a cap W (hN.grew hB hB.size) hz
  have hpl := hP.len
  have hpr := hP.room
  have hTl := hN.room.1
  clear hW hB hF hN hP hz hc
  simp only [Ft.fdV, Ft.fdA] at C1 ⊢
  go_enter Tryz.func62, Tryz.ntmps62
  go_wp2_with fail
  rw [← HW.out]
  clear HW
  refine C1.mono ?_
  clear C1
  rintro e w1 ⟨rfl, b1⟩
  have HP1 : Hid (Ft.FnP (· < w.heap.size) w T a cap w1) := HF.out.1.under (fun _ h => h) b1
  clear b1
  have z0 : w1.cell? ⟨w.heap.size + 1, 0, none⟩ = some (.string ⟨#[]⟩) := HP1.out.2.2.1.four.c0
  have z1 : w1.cell? ⟨w.heap.size + 1, 1, none⟩ = some (.int .u8 0) := HP1.out.2.2.1.four.c1
  have z2 : w1.cell? ⟨w.heap.size + 1, 2, none⟩ = some (.string ⟨#[]⟩) := HP1.out.2.2.1.four.c2
  have z3 : w1.cell? ⟨w.heap.size + 1, 3, none⟩ = some (.slice none 0 0) := HP1.out.2.2.1.four.c3
  have zf := HP1.out.2.2.1.frozen
  cases hr : Ft.rightT T
  · have HE : Hid (Ft.dropR T p = .inl 30) := by show _ = _; unfold Ft.dropR Ft.holdR; rw [hr]; rfl
    go_wp2_with fail
    have y0 := HP1.out.2.2.1.putF Ft.zF none 0
    have y1 : Below w.heap.size w (Ft.putF w1 (w.heap.size + 1) Ft.zF none 0) := Ft.putF_below HP1.out.2.2.2 (by omega)
    refine bodyPost_ret (Ft.results_fil rfl _ _ (w.heap.size + 1) Ft.zF none 0 rfl y0) rfl ?_
    rw [HE.out]
    exact ⟨Ft.zF, none, 0, 30, rfl, ⟨⟨rfl, rfl⟩, Ft.fd_zero _ _, y1⟩⟩
  by_cases hp0 : p.length = 0
  · have HE : Hid (Ft.dropR T p = .inl 2) := by show _ = _; unfold Ft.dropR Ft.holdR; rw [hr, if_pos rfl, if_pos hp0]
    clear hr
    rw [hp0]
    go_wp2_with fail
    have y0 := HP1.out.2.2.1.putF Ft.zF none 0
    have y1 : Below w.heap.size w (Ft.putF w1 (w.heap.size + 1) Ft.zF none 0) := Ft.putF_below HP1.out.2.2.2 (by omega)
    refine bodyPost_ret (Ft.results_fil rfl _ _ (w.heap.size + 1) Ft.zF none 0 rfl y0) rfl ?_
    rw [HE.out]
    exact ⟨Ft.zF, none, 0, 2, rfl, ⟨⟨rfl, rfl⟩, Ft.fd_zero _ _, y1⟩⟩
  have HX : Hid (Ft.rightT T = true ∧ p.length ≠ 0) := ⟨hr, hp0⟩
  have hpi : ¬ ((p.length : Int) = 0) := by omega
  have hpb : ((p.length : Int) == 0) = false := by simpa using hpi
  have C2 := rfind_any T p a ap cap cp w1 (HP1.out.2.1.mono (fun k (hk : k < w.heap.size) => Nat.lt_of_lt_of_le hk HP1.out.2.2.2.size)) (HF.out.2.1.below HP1.out.2.2.2)
  simp only [Ft.fdV, Ft.fdA] at C2
  have HC2 : Hid _ := C2
  obtain ⟨t0, t1, t2, t3⟩ := HP1.out.1.cellsQ
  clear C2 hr hp0 z0 z1 z2 z3 zf
  go_wp2_with fail
  refine Calls.mono HC2.out ?_
  clear HC2 t0 t1 t2 t3
  rintro e w3 ⟨U, b3, c3, code, rfl, K3⟩
  simp only [Ft.fdV, Ft.fdA]
  obtain ⟨V3, hV3⟩ : ∃ V, V = w3.alloc (.cells (Ft.fdA U b3 c3) 25) := ⟨_, rfl⟩
  have HV3 : Hid (V3 = w3.alloc (.cells #[.string U.nm, .int .u8 (U.k : Int), .string U.d, .slice b3 U.kids.length c3] 25)) := hV3
  have hr3 : Below w1.heap.size w1 V3 := by rw [hV3]; exact K3.out.2.2.alloc K3.out.2.2.size _
  have HP3 : Hid (Ft.FnP (· < w.heap.size) w T a cap V3) := HP1.out.under (fun _ h => h) hr3
  have HI3 : Hid (Ft.FindIs (Ft.lookR T p) U code) := K3.out.1
  clear hV3 hr3 K3 HP1
  go_upto_region 6 with fail
  rw [← HV3.out]
  clear HV3
  have z0 : V3.cell? ⟨w.heap.size + 1, 0, none⟩ = some (.string ⟨#[]⟩) := HP3.out.2.2.1.four.c0
  have z1 : V3.cell? ⟨w.heap.size + 1, 1, none⟩ = some (.int .u8 0) := HP3.out.2.2.1.four.c1
  have z2 : V3.cell? ⟨w.heap.size + 1, 2, none⟩ = some (.string ⟨#[]⟩) := HP3.out.2.2.1.four.c2
  have z3 : V3.cell? ⟨w.heap.size + 1, 3, none⟩ = some (.slice none 0 0) := HP3.out.2.2.1.four.c3
  have zf := HP3.out.2.2.1.frozen
  cases hcd : (code != 0)
  · have hc0 : code = 0 := by simpa using hcd
    subst hc0
    have HO : Hid (Ft.lookR T p = .inr U) := Ft.fnd_inr HI3.out (fun n h => Ft.look_code _ _ _ h)
    obtain ⟨O, hO⟩ : ∃ O, O = Ft.withG T p none := ⟨_, rfl⟩
    have HOG : Hid (Ft.withG T p none = O) := hO.symm
    have HE : Hid (Ft.dropR T p = .inr O) := by show _ = _; rw [Ft.drop_some HX.out.1 HX.out.2 HO.out, hO]
    have C4 := rwith_any p T Ft.zF a ap none cap cp 0 true (fun _ => False) V3 (fun e => HX.out.2 (by rw [e]; rfl)) (fun _ h => h.elim) (HP3.out.2.1.mono (fun k (hk : k < w.heap.size) => Nat.lt_of_lt_of_le hk HP3.out.2.2.2.size)) (HF.out.2.1.below HP3.out.2.2.2) (Ft.fd_zero _ _) HF.out.2.2
    rw [if_pos rfl, HOG.out] at C4
    simp only [Ft.fdV, Ft.fdA] at C4
    have HC4 : Hid _ := C4
    obtain ⟨t0, t1, t2, t3⟩ := HP3.out.1.cellsQ
    clear C4 hO hcd z0 z1 z2 z3 zf
    go_wp2_with fail
    refine Calls.mono HC4.out ?_
    clear HC4 t0 t1 t2 t3
    rintro e w5 ⟨a5, c5, rfl, hF5⟩
    have hs5 := hF5.out.2.size
    have HP5 : Hid (Ft.FnP (· < w.heap.size) w T a cap w5 ∧ Ft.Fd w5 (fun k => V3.heap.size ≤ k ∧ k < w5.heap.size) O a5 c5) := ⟨HP3.out.under (fun _ h => h) hF5.out.2, hF5.out.1.mono (fun k hk => by rcases hk with q | q; exact q.elim; exact q)⟩
    have hzl : w.heap.size + 1 < V3.heap.size := HP3.out.2.2.1.lt
    have z0 : w5.cell? ⟨w.heap.size + 1, 0, none⟩ = some (.string ⟨#[]⟩) := HP5.out.1.2.2.1.four.c0
    have z1 : w5.cell? ⟨w.heap.size + 1, 1, none⟩ = some (.int .u8 0) := HP5.out.1.2.2.1.four.c1
    have z2 : w5.cell? ⟨w.heap.size + 1, 2, none⟩ = some (.string ⟨#[]⟩) := HP5.out.1.2.2.1.four.c2
    have z3 : w5.cell? ⟨w.heap.size + 1, 3, none⟩ = some (.slice none 0 0) := HP5.out.1.2.2.1.four.c3
    have zf := HP5.out.1.2.2.1.frozen
    clear hF5
    go_wp2_with fail
    have y0 := HP5.out.1.2.2.1.putF O a5 c5
    have y1 : Below w.heap.size w (Ft.putF w5 (w.heap.size + 1) O a5 c5) := Ft.putF_below HP5.out.1.2.2.2 (by omega)
    refine bodyPost_ret (Ft.results_fil rfl _ _ (w.heap.size + 1) O a5 c5 rfl y0) rfl ?_
    rw [HE.out]
    exact ⟨O, a5, c5, 0, rfl, ⟨⟨rfl, rfl⟩, HP5.out.2.same (fun k hk => Ft.putF_other (by omega)) (fun k hk => ⟨by omega, by simp; omega⟩), y1⟩⟩
  · have hc0 : code ≠ 0 := by simpa using hcd
    obtain ⟨n, hn, hcn, _⟩ := Ft.fnd_inl HI3.out hc0
    have HE : Hid (Ft.dropR T p = .inl n ∧ code = n) := ⟨Ft.drop_none HX.out.1 HX.out.2 hn, hcn⟩
    clear hn hcn
    go_wp2_with fail
    have y0 := HP3.out.2.2.1.putF Ft.zF none 0
    have y1 : Below w.heap.size w (Ft.putF V3 (w.heap.size + 1) Ft.zF none 0) := Ft.putF_below HP3.out.2.2.2 (by omega)
    refine bodyPost_ret (Ft.results_fil rfl _ _ (w.heap.size + 1) Ft.zF none 0 rfl y0) rfl ?_
    rw [HE.out.1]
    exact ⟨Ft.zF, none, 0, code, rfl, ⟨⟨rfl, HE.out.2⟩, Ft.fd_zero _ _, y1⟩⟩
end Go.Proofs.YtfbhofomcenabaaGreatDoor
