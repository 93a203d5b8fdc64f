/- What the reference's Put and Drop answer. -/
import Derived.Test.YtfbhofomcenabaaGreatDoorFRWith
import Derived.Test.YtfbhofomcenabaaGreatDoorTY
import Derived.Test.YtfbhofomcenabaaGreatDoorTC
namespace Go.Proofs.YtfbhofomcenabaaGreatDoor
open Go Go.RowKit

namespace Ft
theorem withG_heads {T D : FT} {p : List ByteArray} (o : Option FT) (hr : rightT T = true) (hp : p.length ≠ 0) (hD : lookR T (headsN p) = .inr D) : withG T p o = withR T (headsN p) (insN D.kids (lastN p) o.toList) := by
  have h := withG_is (headsN p) T D (lastN p) o [] (right_bel hr) hD
  rw [heads_last hp] at h
  exact h
end Ft

set_option maxRecDepth 100000 in
set_option maxHeartbeats 8000000 in
theorem rput_any (T f : Ft.FT) (p : List ByteArray) (a ap fa : Option Addr) (cap cp fc : Nat) (w : World) (hN : Ft.Fd w (· < w.heap.size) T a cap) (hz : Ft.szT T = true) (hP : Strs w ap cp p) (hf : Ft.Fd w (· < w.heap.size) f fa fc) (hzf : Ft.szT f = true) (hfd : f.d.size ≤ 1048576) (hpz : ∀ s ∈ p, s.size ≤ 1048576) (hc : Ft.cntT T < 1048576) :
    Calls Tryz.prog 61 #[Ft.fdV T a cap, .slice ap p.length cp, Ft.fdV f fa fc] w (Ft.GetE w (Ft.putR T p f)) := by
  obtain ⟨W, hW⟩ : ∃ W, W = ((w.alloc (.cells (Ft.fdA T a cap) 25)).alloc (.cells (Ft.fdA f fa fc) 25)).alloc (.cells #[.string ⟨#[]⟩, .int .u8 0, .string ⟨#[]⟩, .slice none 0 0] 25) := ⟨_, rfl⟩
  have hB : Below w.heap.size w W := by rw [hW]; exact (((Below.refl _ _).alloc (Nat.le_refl _) _).alloc (by simp) _).alloc (by simp; omega) _
  have hF : Ft.PutW w T a cap f fa fc W := by
    refine ⟨?_, ?_, ?_, hN.under hB, hf.under hB, hB⟩
    · rw [hW]; exact ((Ft.file_new w T a cap).alloc _).alloc _
    · rw [hW]
      have := (Ft.file_new (w.alloc (.cells (Ft.fdA T a cap) 25)) f fa fc).alloc (.cells #[.string ⟨#[]⟩, .int .u8 0, .string ⟨#[]⟩, .slice none 0 0] 25)
      simpa using this
    · rw [hW]
      have := Ft.file_zero ((w.alloc (.cells (Ft.fdA T a cap) 25)).alloc (.cells (Ft.fdA f fa fc) 25))
      simpa using this
  have HW : Hid (W = ((w.alloc (.cells #[.string T.nm, .int .u8 (T.k : Int), .string T.d, .slice a T.kids.length cap] 25)).alloc (.cells #[.string f.nm, .int .u8 (f.k : Int), .string f.d, .slice fa f.kids.length fc] 25)).alloc (.cells #[.string ⟨#[]⟩, .int .u8 0, .string ⟨#[]⟩, .slice none 0 0] 25)) := hW
  have HF : Hid (Ft.PutW w T a cap f fa fc W ∧ Strs w ap cp p) := ⟨hF, hP⟩
  have HZ : Hid (Ft.szT T = true ∧ Ft.szT f = true ∧ f.d.size ≤ 1048576 ∧ (∀ s ∈ p, s.size ≤ 1048576) ∧ Ft.cntT T < 1048576) := ⟨hz, hzf, hfd, hpz, hc⟩
  have C1 := rright_any T a cap W (hN.grew hB hB.size) hz
  have hpl := hP.len
  have hpr := hP.room
  have hTl := hN.room.1
  have hfl := hf.room.1
  clear hW hB hF hN hP hz hzf hfd hpz hc hf
  simp only [Ft.fdV, Ft.fdA] at C1 ⊢
  go_enter Tryz.func61, Tryz.ntmps61
  go_wp2_with fail
  rw [← HW.out]
  clear HW
  refine C1.mono ?_
  clear C1
  rintro e w1 ⟨rfl, b1⟩
  have HP1 : Hid (Ft.PutW w T a cap f fa fc w1) := HF.out.1.under b1
  have HST : Hid (Strs w ap cp p) := HF.out.2
  clear b1 HF
  have z0 : w1.cell? ⟨w.heap.size + 2, 0, none⟩ = some (.string ⟨#[]⟩) := HP1.out.z.four.c0
  have z1 : w1.cell? ⟨w.heap.size + 2, 1, none⟩ = some (.int .u8 0) := HP1.out.z.four.c1
  have z2 : w1.cell? ⟨w.heap.size + 2, 2, none⟩ = some (.string ⟨#[]⟩) := HP1.out.z.four.c2
  have z3 : w1.cell? ⟨w.heap.size + 2, 3, none⟩ = some (.slice none 0 0) := HP1.out.z.four.c3
  have zf := HP1.out.z.frozen
  cases hr : Ft.rightT T
  · have HE : Hid (Ft.putR T p f = .inl 30) := by show _ = _; unfold Ft.putR Ft.holdR; rw [hr]; rfl
    go_wp2_with fail
    have y0 := HP1.out.z.putF Ft.zF none 0
    have y1 : Below w.heap.size w (Ft.putF w1 (w.heap.size + 2) Ft.zF none 0) := Ft.putF_below HP1.out.bel (by omega)
    refine bodyPost_ret (Ft.results_fil rfl _ _ (w.heap.size + 2) Ft.zF none 0 rfl y0) rfl ?_
    rw [HE.out]
    exact ⟨Ft.zF, none, 0, 30, rfl, ⟨⟨rfl, rfl⟩, Ft.fd_zero _ _, y1⟩⟩
  by_cases hp0 : p.length = 0
  · have HE : Hid (Ft.putR T p f = .inl 2) := by show _ = _; unfold Ft.putR Ft.holdR; rw [hr, if_pos rfl, if_pos hp0]
    clear hr
    rw [hp0]
    go_wp2_with fail
    have y0 := HP1.out.z.putF Ft.zF none 0
    have y1 : Below w.heap.size w (Ft.putF w1 (w.heap.size + 2) Ft.zF none 0) := Ft.putF_below HP1.out.bel (by omega)
    refine bodyPost_ret (Ft.results_fil rfl _ _ (w.heap.size + 2) Ft.zF none 0 rfl y0) rfl ?_
    rw [HE.out]
    exact ⟨Ft.zF, none, 0, 2, rfl, ⟨⟨rfl, rfl⟩, Ft.fd_zero _ _, y1⟩⟩
  obtain ⟨m, hm⟩ : ∃ m : Nat, p.length = m + 1 := ⟨p.length - 1, by omega⟩
  have hmp : m < p.length := by omega
  obtain ⟨pb, po, rfl, hpb, hcell⟩ := HST.out.cells m hmp
  rw [← Ft.last_at hm hmp] at hcell
  have HX : Hid (Ft.rightT T = true ∧ p.length ≠ 0 ∧ (Ft.headsN p).length = m ∧ (Ft.lastN p).size ≤ 1048576) := ⟨hr, hp0, by unfold Ft.headsN; rw [List.length_take]; omega, by rw [Ft.last_at hm hmp]; exact HZ.out.2.2.2.1 _ (List.getElem_mem hmp)⟩
  have HCl : Hid (∀ V, Below w.heap.size w V → V.cell? ⟨pb, po + m, none⟩ = some (.string (Ft.lastN p))) := fun V h => (h.cell (p := ⟨pb, po + m, none⟩) hpb).trans hcell
  have hHd : Ft.holdR T p = Ft.lookR T (Ft.headsN p) := Ft.hold_of hr hp0
  have HHd : Hid (Ft.holdR T p = Ft.lookR T (Ft.headsN p)) := hHd
  have hmi : ((m + 1 : Nat) : Int) - 1 = (m : Int) := by omega
  have hw1 : IntKind.i64.wrap (m : Int) = (m : Int) := by rw [IntKind.wrap_i64]; omega
  have hm0 : (0 : Int) ≤ (m : Int) := by omega
  have hml : (m : Int) < ((m + 1 : Nat) : Int) := by omega
  have hmb : m + 1 ≤ 8796093022208 := by omega
  have hmc : (m : Int) ≤ (cp : Int) := by omega
  have hmn : m ≤ cp := by omega
  have hm1 : ¬ ((m : Int) + 1 = 0) := by omega
  have HM0 : Hid (p.length = m + 1) := hm
  rw [hm]
  clear hr hp0 hcell hHd z0 z1 z2 z3 zf hm hmp hpl hpr
  have HS8 : Hid (∀ V, Below w1.heap.size w1 V → V.cell? ⟨w.heap.size, 0, none⟩ = some (.string T.nm) ∧ V.cell? ⟨w.heap.size, 1, none⟩ = some (.int .u8 (T.k : Int)) ∧ V.cell? ⟨w.heap.size, 2, none⟩ = some (.string T.d) ∧ V.cell? ⟨w.heap.size, 3, none⟩ = some (.slice a T.kids.length cap)) := fun V hV => (HP1.out.under hV).t.cellsG
  have HFd : Hid (∀ V, Below w1.heap.size w1 V → Calls Tryz.prog 49 #[.agg #[.string T.nm, .int .u8 (T.k : Int), .string T.d, .slice a T.kids.length cap], .slice (some ⟨pb, po, none⟩) m cp] V fun e w' => ∃ D b c code, e = .returned (.tuple #[.agg #[.string D.nm, .int .u8 (D.k : Int), .string D.d, .slice b D.kids.length c], .int .i64 code]) ∧ Hid (Ft.FindIs (Ft.lookR T (Ft.headsN p)) D code) ∧ Below V.heap.size V w') := fun V hV => by
    have PV := HP1.out.under hV
    have hS : Strs V (some ⟨pb, po, none⟩) cp (Ft.headsN p) := by
      have := (HST.out.take m).below PV.bel
      unfold Ft.headsN
      rw [show p.length - 1 = m by have := HM0.out; omega]
      exact this
    have h := rfind_any T (Ft.headsN p) a (some ⟨pb, po, none⟩) cap cp V (PV.ft.mono (fun k (hk : k < w.heap.size) => Nat.lt_of_lt_of_le hk PV.bel.size)) hS
    rw [HX.out.2.2.1] at h
    exact h.mono fun e w' ⟨D, b, c, code, h1, h2⟩ => ⟨D, b, c, code, h1, h2.out.1, h2.out.2.2⟩
  have HEnd : Hid (∀ (V : World) (zz : Nat) (D : Ft.FT) (b : Option Addr) (c : Nat), w1.heap.size ≤ zz → Below w1.heap.size w1 V → Ft.FileAt V zz Ft.zF none 0 → Hid (Ft.PutW w T a cap f fa fc (Ft.putF V zz D b c) ∧ Ft.FileAt (Ft.putF V zz D b c) zz D b c)) := fun V zz D b c hz hV hn => ⟨HP1.out.under (Ft.putF_below hV hz), hn.putF D b c⟩
  have hw1s : w.heap.size + 2 < w1.heap.size := HP1.out.z.lt
  go_upto_region 5 with fail
  obtain ⟨Y, hY⟩ : ∃ Y, Y = w1.drew := ⟨_, rfl⟩
  have hbY : Below w1.heap.size w1 Y := by rw [hY]; exact (Below.refl _ _).drew
  have HYs : Hid (Y.heap.size = w1.heap.size) := by show _ = _; rw [hY]; rfl
  go_cut [8, 9] (fun v8 v9 wx => ∃ n D b c code, v8 = .pointer (some ⟨n, 0, none⟩) ∧ v9 = .int .i64 code ∧ Hid (w1.heap.size ≤ n ∧ Ft.PutW w T a cap f fa fc wx ∧ Ft.FileAt wx n D b c ∧ Ft.FindIs (Ft.lookR T (Ft.headsN p)) D code))
  case first =>
    refine wp_region_held (S := fun w' => w'.cell? ⟨w.heap.size, 0, none⟩ = some (.string T.nm) ∧ w'.cell? ⟨w.heap.size, 1, none⟩ = some (.int .u8 (T.k : Int)) ∧ w'.cell? ⟨w.heap.size, 2, none⟩ = some (.string T.d) ∧ w'.cell? ⟨w.heap.size, 3, none⟩ = some (.slice a T.kids.length cap)) (by kernel_rfl) ?_
    have HS0 := HS8.out Y hbY
    change wpAnyH Tryz.prog .any _ _ _ _ _ _ w1.drew
    rw [← hY]
    clear hY
    refine wpAnyH_take (i := 0) (oi := { dst := some 21, op := .load 25 (.tmp 3), type := 25, pos := "ref.go:202", after := #[], guard := none }) (v := .agg #[.string T.nm, .int .u8 (T.k : Int), .string T.d, .slice a T.kids.length cap]) rfl (by kernel_rfl) (by kernel_rfl) (by kernel_rfl) (fun _ _ _ h => h) (Or.inl ⟨by rfl, ?_⟩) HS0 ?_
    · intro w9 hw9; obtain ⟨l0, l1, l2, l3⟩ := hw9; go_simp
    try simp only [Act.put, List.setIfInBounds_toArray, List.set_cons_zero, List.set_cons_succ]
    refine wpAnyH_take (i := 1) (oi := { dst := some 22, op := .move (.tmp 1), type := 37, pos := "ref.go:202", after := #[], guard := none }) (v := .slice (some ⟨pb, po, none⟩) (m + 1) cp) rfl (by kernel_rfl) (by kernel_rfl) (by kernel_rfl) (fun _ _ _ h => h) (Or.inl ⟨by rfl, ?_⟩) HS0 ?_
    · intro w9 hw9; obtain ⟨l0, l1, l2, l3⟩ := hw9; go_simp
    try simp only [Act.put, List.setIfInBounds_toArray, List.set_cons_zero, List.set_cons_succ]
    refine wpAnyH_take (i := 2) (oi := { dst := some 23, op := .move (.tmp 1), type := 37, pos := "ref.go:202", after := #[], guard := none }) (v := .slice (some ⟨pb, po, none⟩) (m + 1) cp) rfl (by kernel_rfl) (by kernel_rfl) (by kernel_rfl) (fun _ _ _ h => h) (Or.inl ⟨by rfl, ?_⟩) HS0 ?_
    · intro w9 hw9; obtain ⟨l0, l1, l2, l3⟩ := hw9; go_simp
    try simp only [Act.put, List.setIfInBounds_toArray, List.set_cons_zero, List.set_cons_succ]
    refine wpAnyH_take (i := 3) (oi := { dst := some 24, op := .call { callee := .builtin .len, args := #[.tmp 23], argTypes := #[37] }, type := 3, pos := "ref.go:202", after := #[{ on := 2, ground := .data }], guard := none }) (v := .int .i64 ((m : Int) + 1)) rfl (by kernel_rfl) (by kernel_rfl) (by kernel_rfl) (fun _ _ _ h => h) (Or.inl ⟨by rfl, ?_⟩) HS0 ?_
    · intro w9 hw9; obtain ⟨l0, l1, l2, l3⟩ := hw9; go_simp
    try simp only [Act.put, List.setIfInBounds_toArray, List.set_cons_zero, List.set_cons_succ]
    refine wpAnyH_take (i := 4) (oi := { dst := some 25, op := .binOp .sub 3 (.tmp 24) (.const (.int .i64 1)) 3, type := 3, pos := "ref.go:202", after := #[{ on := 3, ground := .data }], guard := none }) (v := .int .i64 (m : Int)) rfl (by kernel_rfl) (by kernel_rfl) (by kernel_rfl) (fun _ _ _ h => h) (Or.inl ⟨by rfl, ?_⟩) HS0 ?_
    · intro w9 hw9; obtain ⟨l0, l1, l2, l3⟩ := hw9; go_simp
    try simp only [Act.put, List.setIfInBounds_toArray, List.set_cons_zero, List.set_cons_succ]
    refine wpAnyH_take (i := 5) (oi := { dst := some 26, op := .slice 37 (.tmp 22) none (some (.tmp 25)) none, type := 37, pos := "ref.go:202", after := #[{ on := 1, ground := .data }, { on := 4, ground := .data }], guard := none }) (v := .slice (some ⟨pb, po, none⟩) m cp) rfl (by kernel_rfl) (by kernel_rfl) (by kernel_rfl) (fun _ _ _ h => h) (Or.inl ⟨by rfl, ?_⟩) HS0 ?_
    · intro w9 hw9; obtain ⟨l0, l1, l2, l3⟩ := hw9; go_simp
    try simp only [Act.put, List.setIfInBounds_toArray, List.set_cons_zero, List.set_cons_succ]
    refine wpAnyH_ready (rs := [6, 10]) (by kernel_rfl) (by simp) ?_
    refine AllReadyH.cons (o := { dst := some 27, op := .call { callee := .value (.func 49), args := #[.tmp 21, .tmp 26], argTypes := #[25, 37] }, type := 39, pos := "ref.go:202", after := #[{ on := 0, ground := .data }, { on := 5, ground := .data }], guard := none }) rfl (fun Kq hKq => ?_) ?_
    · go_simp
      refine Calls.mono (HFd.out _ hbY) ?_
      rintro e w5 ⟨D, b, c, code, rfl, hFI, rl5⟩
      have hb5 : Below w1.heap.size w1 w5 := hbY.trans (rl5.mono hbY.size)
      have HS5 := HS8.out _ hb5
      refine hKq.out _ _ HS5 (fun _ => ?_)
      clear hKq Kq
      try simp only [Act.put, List.setIfInBounds_toArray, List.set_cons_zero, List.set_cons_succ]
      refine wpAnyH_take (i := 7) (oi := { dst := some 20, op := .move (.tmp 27), type := 39, pos := "ref.go:202", after := #[{ on := 6, ground := .data }], guard := none }) (v := .tuple #[.agg #[.string D.nm, .int .u8 (D.k : Int), .string D.d, .slice b D.kids.length c], .int .i64 code]) rfl (by kernel_rfl) (by kernel_rfl) (by kernel_rfl) (fun _ _ _ h => h) (Or.inl ⟨by rfl, ?_⟩) HS5 ?_
      · intro w9 hw9; obtain ⟨l0, l1, l2, l3⟩ := hw9; go_simp
      try simp only [Act.put, List.setIfInBounds_toArray, List.set_cons_zero, List.set_cons_succ]
      refine wpAnyH_take (i := 8) (oi := { dst := some 28, op := .extract (.tmp 20) 0, type := 25, pos := "ref.go:202", after := #[{ on := 7, ground := .data }], guard := none }) (v := .agg #[.string D.nm, .int .u8 (D.k : Int), .string D.d, .slice b D.kids.length c]) rfl (by kernel_rfl) (by kernel_rfl) (by kernel_rfl) (fun _ _ _ h => h) (Or.inl ⟨by rfl, ?_⟩) HS5 ?_
      · intro w9 hw9; obtain ⟨l0, l1, l2, l3⟩ := hw9; go_simp
      try simp only [Act.put, List.setIfInBounds_toArray, List.set_cons_zero, List.set_cons_succ]
      refine wpAnyH_take (i := 9) (oi := { dst := some 29, op := .extract (.tmp 20) 1, type := 26, pos := "ref.go:202", after := #[{ on := 7, ground := .data }, { on := 11, ground := .gcOnly .lateStores }], guard := none }) (v := .int .i64 code) rfl (by kernel_rfl) (by kernel_rfl) (by kernel_rfl) (fun _ _ _ h => h) (Or.inl ⟨by rfl, ?_⟩) HS5 ?_
      · intro w9 hw9; obtain ⟨l0, l1, l2, l3⟩ := hw9; go_simp
      try simp only [Act.put, List.setIfInBounds_toArray, List.set_cons_zero, List.set_cons_succ]
      refine wpAnyH_ready (rs := [10]) (by kernel_rfl) (by simp) ?_
      refine AllReadyH.cons (o := { dst := some 8, op := .alloc 25, type := 0, pos := "ref.go:202", after := #[], guard := none }) rfl (fun Kq hKq => ?_) ?_
      · go_simp
        have hb6 : Below w1.heap.size w1 (w5.alloc (.cells #[.string ⟨#[]⟩, .int .u8 0, .string ⟨#[]⟩, .slice none 0 0] 25)) := hb5.alloc hb5.size _
        have HS6 := HS8.out _ hb6
        refine hKq.out _ _ HS6 (fun _ => ?_)
        clear hKq Kq
        try simp only [Act.put, List.setIfInBounds_toArray, List.set_cons_zero, List.set_cons_succ]
        refine wpAnyH_ready (rs := [11]) (by kernel_rfl) (by simp) ?_
        refine AllReadyH.cons (o := { dst := none, op := .store 25 (.tmp 8) (.tmp 28), type := 0, pos := "ref.go:202", after := #[{ on := 10, ground := .data }, { on := 8, ground := .data }, { on := 6, ground := .chain }, { on := 0, ground := .phase }, { on := 1, ground := .phase }, { on := 2, ground := .phase }, { on := 3, ground := .phase }, { on := 4, ground := .phase }, { on := 5, ground := .phase }, { on := 6, ground := .phase }, { on := 7, ground := .phase }, { on := 8, ground := .phase }, { on := 9, ground := .textOnly .lateStores }, { on := 10, ground := .phase }], guard := none }) rfl (fun Kq hKq => ?_) ?_
        · obtain ⟨zz, hzz⟩ : ∃ zz, zz = w5.heap.size := ⟨_, rfl⟩
          rw [← hzz]
          have zr : Ft.FileAt (w5.alloc (.cells #[.string ⟨#[]⟩, .int .u8 0, .string ⟨#[]⟩, .slice none 0 0] 25)) zz Ft.zF none 0 := by rw [hzz]; exact Ft.file_zero w5
          have zl : w1.heap.size ≤ zz := by rw [hzz]; exact hb5.size
          have z0 : ((w5.alloc (.cells #[.string ⟨#[]⟩, .int .u8 0, .string ⟨#[]⟩, .slice none 0 0] 25))).cell? ⟨zz, 0, none⟩ = some (.string ⟨#[]⟩) := zr.four.c0
          have z1 : ((w5.alloc (.cells #[.string ⟨#[]⟩, .int .u8 0, .string ⟨#[]⟩, .slice none 0 0] 25))).cell? ⟨zz, 1, none⟩ = some (.int .u8 0) := zr.four.c1
          have z2 : ((w5.alloc (.cells #[.string ⟨#[]⟩, .int .u8 0, .string ⟨#[]⟩, .slice none 0 0] 25))).cell? ⟨zz, 2, none⟩ = some (.string ⟨#[]⟩) := zr.four.c2
          have z3 : ((w5.alloc (.cells #[.string ⟨#[]⟩, .int .u8 0, .string ⟨#[]⟩, .slice none 0 0] 25))).cell? ⟨zz, 3, none⟩ = some (.slice none 0 0) := zr.four.c3
          have zf := zr.frozen
          have HZZ : Hid (zz = w5.heap.size) := hzz
          clear hzz
          go_simp
          have hp : Below w1.heap.size w1 (Ft.putF ((w5.alloc (.cells #[.string ⟨#[]⟩, .int .u8 0, .string ⟨#[]⟩, .slice none 0 0] 25))) zz D b c) := Ft.putF_below hb6 zl
          refine hKq.out _ _ (HS8.out _ hp) (fun _ => ?_)
          clear hKq Kq z0 z1 z2 z3 zf
          try simp only [Act.put, List.setIfInBounds_toArray, List.set_cons_zero, List.set_cons_succ]
          refine wpAnyH_ready (rs := [12]) (by kernel_rfl) (by simp) ?_
          refine AllReadyH.cons (o := { dst := some 9, op := .assign (.tmp 29), type := 26, pos := "ref.go:202", after := #[{ on := 9, ground := .data }, { on := 11, ground := .chain }, { on := 0, ground := .phase }, { on := 1, ground := .phase }, { on := 2, ground := .phase }, { on := 3, ground := .phase }, { on := 4, ground := .phase }, { on := 5, ground := .phase }, { on := 6, ground := .phase }, { on := 7, ground := .phase }, { on := 8, ground := .phase }, { on := 9, ground := .phase }, { on := 10, ground := .phase }, { on := 11, ground := .phase }], guard := none }) rfl (fun Kq hKq => ?_) ?_
          · go_simp
            refine hKq.out _ _ (HS8.out _ hp) (fun _ => ?_)
            refine wpAnyH_done (by kernel_rfl) ?_ _
            clear hKq Kq
            have hE := HEnd.out _ zz D b c zl hb6 zr
            have HE2 : Hid (w1.heap.size ≤ zz ∧ Ft.PutW w T a cap f fa fc (Ft.putF ((w5.alloc (.cells #[.string ⟨#[]⟩, .int .u8 0, .string ⟨#[]⟩, .slice none 0 0] 25))) zz D b c) ∧ Ft.FileAt (Ft.putF ((w5.alloc (.cells #[.string ⟨#[]⟩, .int .u8 0, .string ⟨#[]⟩, .slice none 0 0] 25))) zz D b c) zz D b c ∧ Ft.FindIs (Ft.lookR T (Ft.headsN p)) D code) := ⟨zl, hE.out.1, hE.out.2, hFI.out⟩
            clear hE zl
            go_wp2_with fail
            go_meet
            exact ⟨zz, D, b, c, code, rfl, rfl, HE2⟩
          exact AllReadyH.nil
        exact AllReadyH.nil
      exact AllReadyH.nil
    refine AllReadyH.cons (o := { dst := some 8, op := .alloc 25, type := 0, pos := "ref.go:202", after := #[], guard := none }) rfl (fun Kq hKq => ?_) ?_
    · go_simp
      have hb6 : Below w1.heap.size w1 (Y.alloc (.cells #[.string ⟨#[]⟩, .int .u8 0, .string ⟨#[]⟩, .slice none 0 0] 25)) := hbY.alloc hbY.size _
      have HS6 := HS8.out _ hb6
      refine hKq.out _ _ HS6 (fun _ => ?_)
      clear hKq Kq
      try simp only [Act.put, List.setIfInBounds_toArray, List.set_cons_zero, List.set_cons_succ]
      refine wpAnyH_ready (rs := [6]) (by kernel_rfl) (by simp) ?_
      refine AllReadyH.cons (o := { dst := some 27, op := .call { callee := .value (.func 49), args := #[.tmp 21, .tmp 26], argTypes := #[25, 37] }, type := 39, pos := "ref.go:202", after := #[{ on := 0, ground := .data }, { on := 5, ground := .data }], guard := none }) rfl (fun Kq hKq => ?_) ?_
      · go_simp
        refine Calls.mono (HFd.out _ hb6) ?_
        rintro e w5 ⟨D, b, c, code, rfl, hFI, rl5⟩
        have hb5 : Below w1.heap.size w1 w5 := hb6.trans (rl5.mono hb6.size)
        have HS5 := HS8.out _ hb5
        refine hKq.out _ _ HS5 (fun _ => ?_)
        clear hKq Kq
        try simp only [Act.put, List.setIfInBounds_toArray, List.set_cons_zero, List.set_cons_succ]
        refine wpAnyH_take (i := 7) (oi := { dst := some 20, op := .move (.tmp 27), type := 39, pos := "ref.go:202", after := #[{ on := 6, ground := .data }], guard := none }) (v := .tuple #[.agg #[.string D.nm, .int .u8 (D.k : Int), .string D.d, .slice b D.kids.length c], .int .i64 code]) rfl (by kernel_rfl) (by kernel_rfl) (by kernel_rfl) (fun _ _ _ h => h) (Or.inl ⟨by rfl, ?_⟩) HS5 ?_
        · intro w9 hw9; obtain ⟨l0, l1, l2, l3⟩ := hw9; go_simp
        try simp only [Act.put, List.setIfInBounds_toArray, List.set_cons_zero, List.set_cons_succ]
        refine wpAnyH_take (i := 8) (oi := { dst := some 28, op := .extract (.tmp 20) 0, type := 25, pos := "ref.go:202", after := #[{ on := 7, ground := .data }], guard := none }) (v := .agg #[.string D.nm, .int .u8 (D.k : Int), .string D.d, .slice b D.kids.length c]) rfl (by kernel_rfl) (by kernel_rfl) (by kernel_rfl) (fun _ _ _ h => h) (Or.inl ⟨by rfl, ?_⟩) HS5 ?_
        · intro w9 hw9; obtain ⟨l0, l1, l2, l3⟩ := hw9; go_simp
        try simp only [Act.put, List.setIfInBounds_toArray, List.set_cons_zero, List.set_cons_succ]
        refine wpAnyH_take (i := 9) (oi := { dst := some 29, op := .extract (.tmp 20) 1, type := 26, pos := "ref.go:202", after := #[{ on := 7, ground := .data }, { on := 11, ground := .gcOnly .lateStores }], guard := none }) (v := .int .i64 code) rfl (by kernel_rfl) (by kernel_rfl) (by kernel_rfl) (fun _ _ _ h => h) (Or.inl ⟨by rfl, ?_⟩) HS5 ?_
        · intro w9 hw9; obtain ⟨l0, l1, l2, l3⟩ := hw9; go_simp
        try simp only [Act.put, List.setIfInBounds_toArray, List.set_cons_zero, List.set_cons_succ]
        refine wpAnyH_ready (rs := [11]) (by kernel_rfl) (by simp) ?_
        refine AllReadyH.cons (o := { dst := none, op := .store 25 (.tmp 8) (.tmp 28), type := 0, pos := "ref.go:202", after := #[{ on := 10, ground := .data }, { on := 8, ground := .data }, { on := 6, ground := .chain }, { on := 0, ground := .phase }, { on := 1, ground := .phase }, { on := 2, ground := .phase }, { on := 3, ground := .phase }, { on := 4, ground := .phase }, { on := 5, ground := .phase }, { on := 6, ground := .phase }, { on := 7, ground := .phase }, { on := 8, ground := .phase }, { on := 9, ground := .textOnly .lateStores }, { on := 10, ground := .phase }], guard := none }) rfl (fun Kq hKq => ?_) ?_
        · obtain ⟨zz, hzz⟩ : ∃ zz, zz = Y.heap.size := ⟨_, rfl⟩
          rw [← hzz]
          have zr : Ft.FileAt w5 zz Ft.zF none 0 := by rw [hzz]; exact ((Ft.file_zero Y).under rl5)
          have zl : w1.heap.size ≤ zz := by rw [hzz]; exact hbY.size
          have z0 : (w5).cell? ⟨zz, 0, none⟩ = some (.string ⟨#[]⟩) := zr.four.c0
          have z1 : (w5).cell? ⟨zz, 1, none⟩ = some (.int .u8 0) := zr.four.c1
          have z2 : (w5).cell? ⟨zz, 2, none⟩ = some (.string ⟨#[]⟩) := zr.four.c2
          have z3 : (w5).cell? ⟨zz, 3, none⟩ = some (.slice none 0 0) := zr.four.c3
          have zf := zr.frozen
          have HZZ : Hid (zz = Y.heap.size) := hzz
          clear hzz
          go_simp
          have hp : Below w1.heap.size w1 (Ft.putF (w5) zz D b c) := Ft.putF_below hb5 zl
          refine hKq.out _ _ (HS8.out _ hp) (fun _ => ?_)
          clear hKq Kq z0 z1 z2 z3 zf
          try simp only [Act.put, List.setIfInBounds_toArray, List.set_cons_zero, List.set_cons_succ]
          refine wpAnyH_ready (rs := [12]) (by kernel_rfl) (by simp) ?_
          refine AllReadyH.cons (o := { dst := some 9, op := .assign (.tmp 29), type := 26, pos := "ref.go:202", after := #[{ on := 9, ground := .data }, { on := 11, ground := .chain }, { on := 0, ground := .phase }, { on := 1, ground := .phase }, { on := 2, ground := .phase }, { on := 3, ground := .phase }, { on := 4, ground := .phase }, { on := 5, ground := .phase }, { on := 6, ground := .phase }, { on := 7, ground := .phase }, { on := 8, ground := .phase }, { on := 9, ground := .phase }, { on := 10, ground := .phase }, { on := 11, ground := .phase }], guard := none }) rfl (fun Kq hKq => ?_) ?_
          · go_simp
            refine hKq.out _ _ (HS8.out _ hp) (fun _ => ?_)
            refine wpAnyH_done (by kernel_rfl) ?_ _
            clear hKq Kq
            have hE := HEnd.out _ zz D b c zl hb5 zr
            have HE2 : Hid (w1.heap.size ≤ zz ∧ Ft.PutW w T a cap f fa fc (Ft.putF (w5) zz D b c) ∧ Ft.FileAt (Ft.putF (w5) zz D b c) zz D b c ∧ Ft.FindIs (Ft.lookR T (Ft.headsN p)) D code) := ⟨zl, hE.out.1, hE.out.2, hFI.out⟩
            clear hE zl
            go_wp2_with fail
            go_meet
            exact ⟨zz, D, b, c, code, rfl, rfl, HE2⟩
          exact AllReadyH.nil
        exact AllReadyH.nil
      exact AllReadyH.nil
    exact AllReadyH.nil
  case rest =>
    obtain ⟨n, D, b, c, code, rfl, rfl, HM⟩ := hcut
    have z0 : wc.cell? ⟨w.heap.size + 2, 0, none⟩ = some (.string ⟨#[]⟩) := HM.out.2.1.z.four.c0
    have z1 : wc.cell? ⟨w.heap.size + 2, 1, none⟩ = some (.int .u8 0) := HM.out.2.1.z.four.c1
    have z2 : wc.cell? ⟨w.heap.size + 2, 2, none⟩ = some (.string ⟨#[]⟩) := HM.out.2.1.z.four.c2
    have z3 : wc.cell? ⟨w.heap.size + 2, 3, none⟩ = some (.slice none 0 0) := HM.out.2.1.z.four.c3
    have zf := HM.out.2.1.z.frozen
    clear HEnd HFd HS8 HP1
    cases hc : (code != 0)
    · have hc0 : code = 0 := by simpa using hc
      subst hc0
      have HO : Hid (Ft.lookR T (Ft.headsN p) = .inr D) := Ft.fnd_inr HM.out.2.2.2 (fun n h => Ft.look_code _ _ _ h)
      obtain ⟨_, hk1, _, _⟩ := HM.out.2.2.1.cellsQ
      by_cases hk : D.k = 1
      · have hki : ¬ ((D.k : Int) ≠ 1) := by omega
        have hkb : ((D.k : Int) != 1) = false := by simp [hk]
        obtain ⟨O, hO⟩ : ∃ O, O = Ft.withG T p (some (Ft.renT f (Ft.lastN p))) := ⟨_, rfl⟩
        have HOG : Hid (Ft.withG T p (some (Ft.renT f (Ft.lastN p))) = O) := hO.symm
        have HPR : Hid (Ft.putR T p f = if Ft.rightT O = true then .inr O else .inl 30) := by
          show _ = _
          unfold Ft.putR
          rw [HHd.out, HO.out, hO, Ft.withG_heads _ HX.out.1 HX.out.2.1 HO.out]
          simp only [Option.toList]
          rw [if_pos hk]
          rfl
        have HZO : Hid (Ft.szT O = true) := by
          show _ = _
          rw [hO, Ft.withG_heads _ HX.out.1 HX.out.2.1 HO.out]
          have hzD := Ft.sz_look _ _ _ HO.out HZ.out.1
          rw [Ft.sz_kids] at hzD
          refine Ft.sz_with _ _ _ HZ.out.1 (Ft.szL_ins _ _ _ hzD ?_)
          have h1 : (Ft.renT f (Ft.lastN p)).nm.size ≤ 1048576 := HX.out.2.2.2
          have h2 : (Ft.renT f (Ft.lastN p)).d.size ≤ 1048576 := HZ.out.2.2.1
          have h3 : Ft.szT (Ft.renT f (Ft.lastN p)) = true := by have := HZ.out.2.1; rw [Ft.sz_kids] at this ⊢; exact this
          show Ft.szT.szL [Ft.renT f (Ft.lastN p)] = true
          rw [Ft.szL_cons, decide_eq_true h1, decide_eq_true h2, h3, Ft.szT.szL]; rfl
        clear hO hc z0 z1 z2 z3 zf hk
        have C1 := rcopy_any f fa fc wc (HM.out.2.1.ff.mono (fun k (hk : k < w.heap.size) => Nat.lt_of_lt_of_le hk HM.out.2.1.bel.size))
        simp only [Ft.fdV, Ft.fdA] at C1
        have HC1 : Hid _ := C1
        obtain ⟨f0, f1, f2, f3⟩ := HM.out.2.1.g.cellsQ
        clear C1
        go_wp2_with fail
        refine Calls.mono HC1.out ?_
        clear HC1 f0 f1 f2 f3 hk1
        rintro e w3 ⟨a3, c3, rfl, hF3, b3⟩
        obtain ⟨V3, hV3⟩ : ∃ V, V = w3.alloc (.cells (Ft.fdA f a3 c3) 25) := ⟨_, rfl⟩
        have HV3 : Hid (V3 = w3.alloc (.cells #[.string f.nm, .int .u8 (f.k : Int), .string f.d, .slice a3 f.kids.length c3] 25)) := hV3
        have hr3 : Below wc.heap.size wc V3 := by rw [hV3]; exact b3.alloc b3.size _
        have HP3 : Hid (Ft.PutW w T a cap f fa fc V3) := HM.out.2.1.under hr3
        have hN3 : Ft.FileAt V3 w3.heap.size f a3 c3 := by rw [hV3]; exact Ft.file_new w3 f a3 c3
        have hF3' : Ft.Fd V3 (fun k => wc.heap.size ≤ k ∧ k < w3.heap.size) f a3 c3 := by rw [hV3]; exact hF3.underP (fun k hk => hk.2) ((Below.refl _ _).alloc (Nat.le_refl _) _)
        have HN3 : Hid (Ft.FileAt V3 w3.heap.size f a3 c3 ∧ Ft.Fd V3 (fun k => wc.heap.size ≤ k ∧ k < w3.heap.size) f a3 c3) := ⟨hN3, hF3'⟩
        have hq3 : wc.heap.size ≤ w3.heap.size := b3.size
        have hqc : w.heap.size + 2 < wc.heap.size := HM.out.2.1.z.lt
        clear hV3 hr3 hN3 hF3 hF3' b3
        go_upto_region 11 with fail
        rw [← HV3.out]
        clear HV3
        generalize w3.heap.size = g3 at *
        have hp9 := HCl.out V3 HP3.out.bel
        have hk0 : V3.cell? ⟨g3, 0, none⟩ = some (.string f.nm) := HN3.out.1.four.c0
        have hkf := HN3.out.1.frozen
        go_upto_region 12 with fail
        clear hp9 hk0 hkf
        obtain ⟨V4, hV4⟩ : ∃ V, V = V3.setCell ⟨g3, 0, none⟩ (.string (Ft.lastN p)) := ⟨_, rfl⟩
        have hoth : ∀ i, i ≠ g3 → V4.heap[i]? = V3.heap[i]? := fun i hi => by rw [hV4]; exact heap_setCell_other V3 ⟨g3, 0, none⟩ i _ hi
        have hs4 : V4.heap.size = V3.heap.size := by rw [hV4]; simp
        have hb4 : Below w.heap.size w V4 := by rw [hV4]; exact HP3.out.bel.setCell (p := ⟨g3, 0, none⟩) (by show w.heap.size ≤ g3; omega) _
        have hg3 : g3 < V3.heap.size := HN3.out.1.lt
        have HP4 : Hid (Ft.PutW w T a cap f fa fc V4) := ⟨(hoth _ (by omega)).trans HP3.out.t, (hoth _ (by omega)).trans HP3.out.g, (hoth _ (by omega)).trans HP3.out.z, HP3.out.ft.same (fun k (hk : k < w.heap.size) => hoth k (by omega)) (fun _ h => h), HP3.out.ff.same (fun k (hk : k < w.heap.size) => hoth k (by omega)) (fun _ h => h), hb4⟩
        have HN4 : Hid (Ft.FileAt V4 g3 (Ft.renT f (Ft.lastN p)) a3 c3 ∧ Ft.Fd V4 (fun k => wc.heap.size ≤ k ∧ k < g3) (Ft.renT f (Ft.lastN p)) a3 c3) := ⟨by rw [hV4]; exact heap_setCell_same V3 g3 0 _ _ _ HN3.out.1, (HN3.out.2.same (fun k hk => hoth k (by omega)) (fun _ h => h)).ren _⟩
        have hg4 : g3 < V4.heap.size := by omega
        have HV4 : Hid (V4 = V3.setCell ⟨g3, 0, none⟩ (.string (Ft.lastN p))) := hV4
        rw [← HV4.out]
        clear hV4 HV4 hoth hs4 hb4 hg3 HP3 HN3
        have C2 := rwith_any p T (Ft.renT f (Ft.lastN p)) a (some ⟨pb, po, none⟩) a3 cap cp c3 false (fun k => wc.heap.size ≤ k ∧ k < g3) V4 (fun e => HX.out.2.1 (by rw [e]; rfl)) (fun k hk => by omega) (HP4.out.ft.mono (fun k (hk : k < w.heap.size) => Nat.lt_of_lt_of_le hk HP4.out.bel.size)) (HST.out.below HP4.out.bel) HN4.out.2 HZ.out.2.2.2.2
        rw [if_neg (by simp), HM0.out, HOG.out] at C2
        simp only [Ft.fdV, Ft.fdA] at C2
        have HC2 : Hid _ := C2
        obtain ⟨t0, t1, t2, t3⟩ := HP4.out.t.cellsQ
        have k0 : V4.cell? ⟨g3, 0, none⟩ = some (.string (Ft.lastN p)) := HN4.out.1.cellsQ.1
        have k1 : V4.cell? ⟨g3, 1, none⟩ = some (.int .u8 (f.k : Int)) := HN4.out.1.cellsQ.2.1
        have k2 : V4.cell? ⟨g3, 2, none⟩ = some (.string f.d) := HN4.out.1.cellsQ.2.2.1
        have k3 : V4.cell? ⟨g3, 3, none⟩ = some (.slice a3 f.kids.length c3) := HN4.out.1.cellsQ.2.2.2
        clear C2
        go_wp2_with fail
        refine Calls.mono HC2.out ?_
        clear HC2 t0 t1 t2 t3 k0 k1 k2 k3
        rintro e w5 ⟨a5, c5, rfl, hF5⟩
        obtain ⟨V5, hV5⟩ : ∃ V, V = w5.alloc (.cells (Ft.fdA O a5 c5) 25) := ⟨_, rfl⟩
        have HV5 : Hid (V5 = w5.alloc (.cells #[.string O.nm, .int .u8 (O.k : Int), .string O.d, .slice a5 O.kids.length c5] 25)) := hV5
        have b5 := hF5.out.2
        have hr5 : Below V4.heap.size V4 V5 := by rw [hV5]; exact b5.alloc b5.size _
        have HP5 : Hid (Ft.PutW w T a cap f fa fc V5) := HP4.out.under hr5
        have HN5 : Hid (Ft.FileAt V5 w5.heap.size O a5 c5 ∧ Ft.Fd V5 (fun k => wc.heap.size ≤ k ∧ k < w5.heap.size) O a5 c5 ∧ w5.heap.size < V5.heap.size) := by
          refine ⟨by rw [hV5]; exact Ft.file_new w5 O a5 c5, ?_, by rw [hV5]; simp⟩
          rw [hV5]
          have hs5 := b5.size
          exact hF5.out.1.same (fun k hk => Below.heap_alloc _ _ _ (by rcases hk with q | q <;> omega)) (fun k hk => by rcases hk with q | q <;> omega)
        clear hV5 hr5 hF5 b5
        go_upto_region 13 with fail
        rw [← HV5.out]
        clear HV5
        generalize w5.heap.size = g5 at *
        have C3 := rright_any O a5 c5 V5 (HN5.out.2.1.mono (fun k hk => by have := HN5.out.2.2; show k < V5.heap.size; omega)) HZO.out
        simp only [Ft.fdV, Ft.fdA] at C3
        have HC3 : Hid _ := C3
        obtain ⟨t0, t1, t2, t3⟩ := HN5.out.1.cellsQ
        clear C3
        go_wp2_with fail
        refine Calls.mono HC3.out ?_
        clear HC3 t0 t1 t2 t3
        rintro e w6 ⟨rfl, b6⟩
        have HP6 : Hid (Ft.PutW w T a cap f fa fc w6 ∧ Ft.FileAt w6 g5 O a5 c5 ∧ Ft.Fd w6 (fun k => wc.heap.size ≤ k ∧ k < g5) O a5 c5 ∧ g5 < w6.heap.size) := ⟨HP5.out.under b6, HN5.out.1.under b6, HN5.out.2.1.underP (fun k hk => by have := HN5.out.2.2; omega) b6, Nat.lt_of_lt_of_le HN5.out.2.2 b6.size⟩
        have z0 : w6.cell? ⟨w.heap.size + 2, 0, none⟩ = some (.string ⟨#[]⟩) := HP6.out.1.z.four.c0
        have z1 : w6.cell? ⟨w.heap.size + 2, 1, none⟩ = some (.int .u8 0) := HP6.out.1.z.four.c1
        have z2 : w6.cell? ⟨w.heap.size + 2, 2, none⟩ = some (.string ⟨#[]⟩) := HP6.out.1.z.four.c2
        have z3 : w6.cell? ⟨w.heap.size + 2, 3, none⟩ = some (.slice none 0 0) := HP6.out.1.z.four.c3
        have zf := HP6.out.1.z.frozen
        clear b6 HP5 HN5
        cases hr : Ft.rightT O
        · have HE : Hid (Ft.putR T p f = .inl 30) := by show _ = _; rw [HPR.out, hr]; rfl
          clear hr HPR
          go_wp2_with fail
          have y0 := HP6.out.1.z.putF Ft.zF none 0
          have y1 : Below w.heap.size w (Ft.putF w6 (w.heap.size + 2) Ft.zF none 0) := Ft.putF_below HP6.out.1.bel (by omega)
          refine bodyPost_ret (Ft.results_fil rfl _ _ (w.heap.size + 2) Ft.zF none 0 rfl y0) rfl ?_
          rw [HE.out]
          exact ⟨Ft.zF, none, 0, 30, rfl, ⟨⟨rfl, rfl⟩, Ft.fd_zero _ _, y1⟩⟩
        · have HE : Hid (Ft.putR T p f = .inr O) := by show _ = _; rw [HPR.out, hr]; rfl
          obtain ⟨t0, t1, t2, t3⟩ := HP6.out.2.1.cellsQ
          clear hr HPR
          go_wp2_with fail
          have y0 := HP6.out.1.z.putF O a5 c5
          have y1 : Below w.heap.size w (Ft.putF w6 (w.heap.size + 2) O a5 c5) := Ft.putF_below HP6.out.1.bel (by omega)
          have y2 := HP6.out.2.2.2
          refine bodyPost_ret (Ft.results_fil rfl _ _ (w.heap.size + 2) O a5 c5 rfl y0) rfl ?_
          rw [HE.out]
          exact ⟨O, a5, c5, 0, rfl, ⟨⟨rfl, rfl⟩, HP6.out.2.2.1.same (fun k hk => Ft.putF_other (by omega)) (fun k hk => ⟨by omega, by simp; omega⟩), y1⟩⟩
      · have HE : Hid (Ft.putR T p f = .inl 32) := by
          show _ = _
          unfold Ft.putR
          rw [HHd.out, HO.out]
          simp only
          rw [if_neg hk]
        have hki : (D.k : Int) ≠ 1 := by omega
        have hkb : ((D.k : Int) != 1) = true := by simp; omega
        go_wp2_with fail
        have y0 := HM.out.2.1.z.putF Ft.zF none 0
        have y1 : Below w.heap.size w (Ft.putF wc (w.heap.size + 2) Ft.zF none 0) := Ft.putF_below HM.out.2.1.bel (by omega)
        refine bodyPost_ret (Ft.results_fil rfl _ _ (w.heap.size + 2) Ft.zF none 0 rfl y0) rfl ?_
        rw [HE.out]
        exact ⟨Ft.zF, none, 0, 32, rfl, ⟨⟨rfl, rfl⟩, Ft.fd_zero _ _, y1⟩⟩
    · have hc0 : code ≠ 0 := by simpa using hc
      obtain ⟨k, hn, hcn, _⟩ := Ft.fnd_inl HM.out.2.2.2 hc0
      have HE : Hid (Ft.putR T p f = .inl k ∧ code = k) := ⟨by unfold Ft.putR; rw [HHd.out, hn], hcn⟩
      clear hn hcn
      go_wp2_with fail
      have y0 := HM.out.2.1.z.putF Ft.zF none 0
      have y1 : Below w.heap.size w (Ft.putF wc (w.heap.size + 2) Ft.zF none 0) := Ft.putF_below HM.out.2.1.bel (by omega)
      refine bodyPost_ret (Ft.results_fil rfl _ _ (w.heap.size + 2) Ft.zF none 0 rfl y0) rfl ?_
      rw [HE.out.1]
      exact ⟨Ft.zF, none, 0, code, rfl, ⟨⟨rfl, HE.out.2⟩, Ft.fd_zero _ _, y1⟩⟩
end Go.Proofs.YtfbhofomcenabaaGreatDoor
