/- The law TreesTurns: Get, Put and Drop answer what the document's own do. -/
import Derived.Test.YtfbhofomcenabaaGreatDoorFSb
import Derived.Test.YtfbhofomcenabaaGreatDoorFRDrop
import Derived.Test.YtfbhofomcenabaaGreatDoorTG
namespace Go.Proofs.YtfbhofomcenabaaGreatDoor
open Go Go.RowKit

set_option maxRecDepth 100000 in
set_option maxHeartbeats 8000000 in
theorem law_tturns (T f : Ft.FT) (p : List ByteArray) (a ap fa : Option Addr) (cap cp fc : Nat) (w : World) (TT : TxT w) (hT : Ft.Fd w (· < w.heap.size) T a cap) (hz : Ft.szT T = true) (hP : Strs w ap cp p) (hf : Ft.Fd w (· < w.heap.size) f fa fc) (hzf : Ft.szT f = true) (hfd : f.d.size ≤ 1048576) (hpz : ∀ s ∈ p, s.size ≤ 1048576) (hc : Ft.cntT T < 1048576) :
    Calls Tryz.prog 23 #[Ft.fdV T a cap, .slice ap p.length cp, Ft.fdV f fa fc] w fun e w' => e = .returned (.bool true) ∧ Below w.heap.size w w' := by
  obtain ⟨W1, hW1⟩ : ∃ W1, W1 = (w.alloc (.cells (Ft.fdA T a cap) 25)).alloc (.cells (Ft.fdA f fa fc) 25) := ⟨_, rfl⟩
  have hb1 : Below w.heap.size w W1 := by rw [hW1]; exact ((Below.refl _ _).alloc (Nat.le_refl _) _).alloc (by simp) _
  have HSt : Hid (Sb w W1 w.heap.size 0 w.heap.size T a cap) := ⟨by rw [hW1]; exact (Ft.file_new w T a cap).alloc _, (hT.under hb1).mono (fun k h => ⟨Nat.zero_le _, h⟩), hb1.size, hb1, Nat.le_refl _⟩
  have HTT : Hid (TxT w) := TT
  have HSf : Hid (Sb w W1 (w.heap.size + 1) 0 w.heap.size f fa fc) := by
    refine ⟨?_, (hf.under hb1).mono (fun k h => ⟨Nat.zero_le _, h⟩), hb1.size, hb1, by omega⟩
    rw [hW1]
    have h := Ft.file_new (w.alloc (.cells (Ft.fdA T a cap) 25)) f fa fc
    rw [World.size_alloc] at h
    exact h
  have HW1 : Hid (W1 = (w.alloc (.cells #[.string T.nm, .int .u8 (T.k : Int), .string T.d, .slice a T.kids.length cap] 25)).alloc (.cells #[.string f.nm, .int .u8 (f.k : Int), .string f.d, .slice fa f.kids.length fc] 25)) := hW1
  have HZ : Hid (Ft.szT T = true ∧ Ft.szT f = true ∧ f.d.size ≤ 1048576 ∧ (∀ s ∈ p, s.size ≤ 1048576) ∧ Ft.cntT T < 1048576) := ⟨hz, hzf, hfd, hpz, hc⟩
  have HP : Hid (∀ V, Below w.heap.size w V → Strs V ap cp p) := fun V h => hP.below h
  have hpl := hP.len
  have hpr := hP.room
  have hTl := hT.room.1
  have hfl := hf.room.1
  have CC := rcopy_any T a cap W1 HSt.out.fd
  clear hW1 hb1 hT hf TT hz hzf hfd hpz hc hP
  simp only [Ft.fdV, Ft.fdA] at CC ⊢
  have HCC : Hid _ := CC
  clear CC
  go_enter Tryz.func23, Tryz.ntmps23
  go_wp2_with fail
  rw [← HW1.out]
  clear HW1
  refine Calls.mono HCC.out ?_
  clear HCC
  rintro e wk ⟨bk, ck, rfl, Fk, Bk⟩
  obtain ⟨Vk, hVk⟩ : ∃ V, V = wk.alloc (.cells (Ft.fdA T bk ck) 25) := ⟨_, rfl⟩
  have HVk : Hid (Vk = wk.alloc (.cells #[.string T.nm, .int .u8 (T.k : Int), .string T.d, .slice bk T.kids.length ck] 25)) := hVk
  have hrk : Below W1.heap.size W1 Vk := by rw [hVk]; exact Bk.alloc Bk.size _
  have HSk : Hid (Sb w Vk wk.heap.size W1.heap.size wk.heap.size T bk ck) := by rw [hVk]; exact sb_new HSt.out.bel Bk Fk
  replace HSt : Hid (Sb w Vk w.heap.size 0 w.heap.size T a cap) := HSt.out.under hrk
  replace HSf : Hid (Sb w Vk (w.heap.size + 1) 0 w.heap.size f fa fc) := HSf.out.under hrk
  clear hVk hrk Fk Bk
  go_upto_region 2 with fail
  rw [← HVk.out]
  clear HVk
  generalize wk.heap.size = gk at *
  have Cx := tget_any T p bk ap ck cp Vk HSk.out.fd HZ.out.1 (HP.out _ HSt.out.bel)
  simp only [Ft.fdV, Ft.fdA] at Cx
  have HCx : Hid _ := Cx
  clear Cx
  obtain ⟨qk0, qk1, qk2, qk3⟩ := HSk.out.at_.cellsQ
  go_wp2_with fail
  refine Calls.mono HCx.out ?_
  clear HCx qk0 qk1 qk2 qk3
  rintro e wx ⟨Ux, bx, cx, dx, rfl, Kx⟩
  simp only [Ft.fdV, Ft.fdA]
  obtain ⟨Vx, hVx⟩ : ∃ V, V = wx.alloc (.cells (Ft.fdA Ux bx cx) 25) := ⟨_, rfl⟩
  have HVx : Hid (Vx = wx.alloc (.cells #[.string Ux.nm, .int .u8 (Ux.k : Int), .string Ux.d, .slice bx Ux.kids.length cx] 25)) := hVx
  have hrx : Below Vk.heap.size Vk Vx := by rw [hVx]; exact Kx.out.2.2.alloc Kx.out.2.2.size _
  have HNx : Hid (Sb w Vx wx.heap.size Vk.heap.size wx.heap.size Ux bx cx) := by rw [hVx]; exact sb_new HSt.out.bel Kx.out.2.2 Kx.out.2.1
  replace HSt : Hid (Sb w Vx w.heap.size 0 w.heap.size T a cap) := HSt.out.under hrx
  replace HSf : Hid (Sb w Vx (w.heap.size + 1) 0 w.heap.size f fa fc) := HSf.out.under hrx
  replace HSk : Hid (Sb w Vx gk W1.heap.size gk T bk ck) := HSk.out.under hrx
  have HOx : Hid (Ft.FindIs (Ft.getR T p) Ux dx) := Kx.out.1
  clear hVx hrx Kx
  have HSx := HNx
  clear HNx
  go_upto_region 3 with fail
  rw [← HVx.out]
  clear HVx
  generalize wx.heap.size = gx at *
  have Cl := rget_any T p a ap cap cp Vx HSt.out.fd HZ.out.1 (HP.out _ HSt.out.bel)
  simp only [Ft.fdV, Ft.fdA] at Cl
  have HCl : Hid _ := Cl
  clear Cl
  obtain ⟨qt0, qt1, qt2, qt3⟩ := HSt.out.at_.cellsQ
  go_wp2_with fail
  refine Calls.mono HCl.out ?_
  clear HCl qt0 qt1 qt2 qt3
  rintro e wl ⟨Ul, bl, cl, dl, rfl, Kl⟩
  obtain ⟨hU1, hU2⟩ := Ft.find_uniq HOx.out Kl.out.1
  subst hU1
  subst hU2
  simp only [Ft.fdV, Ft.fdA]
  obtain ⟨Vl, hVl⟩ : ∃ V, V = wl.alloc (.cells (Ft.fdA Ux bl cl) 25) := ⟨_, rfl⟩
  have HVl : Hid (Vl = wl.alloc (.cells #[.string Ux.nm, .int .u8 (Ux.k : Int), .string Ux.d, .slice bl Ux.kids.length cl] 25)) := hVl
  have hrl : Below Vx.heap.size Vx Vl := by rw [hVl]; exact Kl.out.2.2.alloc Kl.out.2.2.size _
  have HNl : Hid (Sb w Vl wl.heap.size Vx.heap.size wl.heap.size Ux bl cl) := by rw [hVl]; exact sb_new HSt.out.bel Kl.out.2.2 Kl.out.2.1
  replace HSt : Hid (Sb w Vl w.heap.size 0 w.heap.size T a cap) := HSt.out.under hrl
  replace HSf : Hid (Sb w Vl (w.heap.size + 1) 0 w.heap.size f fa fc) := HSf.out.under hrl
  replace HSk : Hid (Sb w Vl gk W1.heap.size gk T bk ck) := HSk.out.under hrl
  replace HSx : Hid (Sb w Vl gx Vk.heap.size gx Ux bx cx) := HSx.out.under hrl
  clear hVl hrl Kl
  have HSl := HNl
  clear HNl
  go_upto_region 4 with fail
  rw [← HVl.out]
  clear HVl
  generalize wl.heap.size = gl at *
  clear HOx
  have Cu := tput_any T f p bk ap fa ck cp fc Vl HSk.out.fd HZ.out.1 (HP.out _ HSt.out.bel) HSf.out.fd HZ.out.2.1 HZ.out.2.2.1 HZ.out.2.2.2.1 HZ.out.2.2.2.2
  simp only [Ft.fdV, Ft.fdA] at Cu
  have HCu : Hid _ := Cu
  clear Cu
  obtain ⟨qk0, qk1, qk2, qk3⟩ := HSk.out.at_.cellsQ
  obtain ⟨qf0, qf1, qf2, qf3⟩ := HSf.out.at_.cellsQ
  go_wp2_with fail
  refine Calls.mono HCu.out ?_
  clear HCu qk0 qk1 qk2 qk3 qf0 qf1 qf2 qf3
  rintro e wu ⟨Uu, bu, cu, du, rfl, Ku⟩
  simp only [Ft.fdV, Ft.fdA]
  obtain ⟨Vu, hVu⟩ : ∃ V, V = wu.alloc (.cells (Ft.fdA Uu bu cu) 25) := ⟨_, rfl⟩
  have HVu : Hid (Vu = wu.alloc (.cells #[.string Uu.nm, .int .u8 (Uu.k : Int), .string Uu.d, .slice bu Uu.kids.length cu] 25)) := hVu
  have hru : Below Vl.heap.size Vl Vu := by rw [hVu]; exact Ku.out.2.2.alloc Ku.out.2.2.size _
  have HNu : Hid (Sb w Vu wu.heap.size Vl.heap.size wu.heap.size Uu bu cu) := by rw [hVu]; exact sb_new HSt.out.bel Ku.out.2.2 Ku.out.2.1
  replace HSt : Hid (Sb w Vu w.heap.size 0 w.heap.size T a cap) := HSt.out.under hru
  replace HSf : Hid (Sb w Vu (w.heap.size + 1) 0 w.heap.size f fa fc) := HSf.out.under hru
  replace HSk : Hid (Sb w Vu gk W1.heap.size gk T bk ck) := HSk.out.under hru
  replace HSx : Hid (Sb w Vu gx Vk.heap.size gx Ux bx cx) := HSx.out.under hru
  replace HSl : Hid (Sb w Vu gl Vx.heap.size gl Ux bl cl) := HSl.out.under hru
  have HOu : Hid (Ft.FindIs (Ft.putR T p f) Uu du) := Ku.out.1
  clear hVu hru Ku
  have HSu := HNu
  clear HNu
  go_upto_region 5 with fail
  rw [← HVu.out]
  clear HVu
  generalize wu.heap.size = gu at *
  have Cm := rput_any T f p a ap fa cap cp fc Vu HSt.out.fd HZ.out.1 (HP.out _ HSt.out.bel) HSf.out.fd HZ.out.2.1 HZ.out.2.2.1 HZ.out.2.2.2.1 HZ.out.2.2.2.2
  simp only [Ft.fdV, Ft.fdA] at Cm
  have HCm : Hid _ := Cm
  clear Cm
  obtain ⟨qt0, qt1, qt2, qt3⟩ := HSt.out.at_.cellsQ
  obtain ⟨qf0, qf1, qf2, qf3⟩ := HSf.out.at_.cellsQ
  go_wp2_with fail
  refine Calls.mono HCm.out ?_
  clear HCm qt0 qt1 qt2 qt3 qf0 qf1 qf2 qf3
  rintro e wm ⟨Um, bm, cm, dm, rfl, Km⟩
  obtain ⟨hU1, hU2⟩ := Ft.find_uniq HOu.out Km.out.1
  subst hU1
  subst hU2
  simp only [Ft.fdV, Ft.fdA]
  obtain ⟨Vm, hVm⟩ : ∃ V, V = wm.alloc (.cells (Ft.fdA Uu bm cm) 25) := ⟨_, rfl⟩
  have HVm : Hid (Vm = wm.alloc (.cells #[.string Uu.nm, .int .u8 (Uu.k : Int), .string Uu.d, .slice bm Uu.kids.length cm] 25)) := hVm
  have hrm : Below Vu.heap.size Vu Vm := by rw [hVm]; exact Km.out.2.2.alloc Km.out.2.2.size _
  have HNm : Hid (Sb w Vm wm.heap.size Vu.heap.size wm.heap.size Uu bm cm) := by rw [hVm]; exact sb_new HSt.out.bel Km.out.2.2 Km.out.2.1
  replace HSt : Hid (Sb w Vm w.heap.size 0 w.heap.size T a cap) := HSt.out.under hrm
  replace HSf : Hid (Sb w Vm (w.heap.size + 1) 0 w.heap.size f fa fc) := HSf.out.under hrm
  replace HSk : Hid (Sb w Vm gk W1.heap.size gk T bk ck) := HSk.out.under hrm
  replace HSx : Hid (Sb w Vm gx Vk.heap.size gx Ux bx cx) := HSx.out.under hrm
  replace HSl : Hid (Sb w Vm gl Vx.heap.size gl Ux bl cl) := HSl.out.under hrm
  replace HSu : Hid (Sb w Vm gu Vl.heap.size gu Uu bu cu) := HSu.out.under hrm
  clear hVm hrm Km
  have HSm := HNm
  clear HNm
  go_upto_region 6 with fail
  rw [← HVm.out]
  clear HVm
  generalize wm.heap.size = gm at *
  clear HOu
  have Cj := tdrop_any T p bk ap ck cp Vm HSk.out.fd HZ.out.1 (HP.out _ HSt.out.bel)
  simp only [Ft.fdV, Ft.fdA] at Cj
  have HCj : Hid _ := Cj
  clear Cj
  obtain ⟨qk0, qk1, qk2, qk3⟩ := HSk.out.at_.cellsQ
  go_wp2_with fail
  refine Calls.mono HCj.out ?_
  clear HCj qk0 qk1 qk2 qk3
  rintro e wj ⟨Uj, bj, cj, dj, rfl, Kj⟩
  simp only [Ft.fdV, Ft.fdA]
  obtain ⟨Vj, hVj⟩ : ∃ V, V = wj.alloc (.cells (Ft.fdA Uj bj cj) 25) := ⟨_, rfl⟩
  have HVj : Hid (Vj = wj.alloc (.cells #[.string Uj.nm, .int .u8 (Uj.k : Int), .string Uj.d, .slice bj Uj.kids.length cj] 25)) := hVj
  have hrj : Below Vm.heap.size Vm Vj := by rw [hVj]; exact Kj.out.2.2.alloc Kj.out.2.2.size _
  have HNj : Hid (Sb w Vj wj.heap.size Vm.heap.size wj.heap.size Uj bj cj) := by rw [hVj]; exact sb_new HSt.out.bel Kj.out.2.2 Kj.out.2.1
  replace HSt : Hid (Sb w Vj w.heap.size 0 w.heap.size T a cap) := HSt.out.under hrj
  replace HSf : Hid (Sb w Vj (w.heap.size + 1) 0 w.heap.size f fa fc) := HSf.out.under hrj
  replace HSk : Hid (Sb w Vj gk W1.heap.size gk T bk ck) := HSk.out.under hrj
  replace HSx : Hid (Sb w Vj gx Vk.heap.size gx Ux bx cx) := HSx.out.under hrj
  replace HSl : Hid (Sb w Vj gl Vx.heap.size gl Ux bl cl) := HSl.out.under hrj
  replace HSu : Hid (Sb w Vj gu Vl.heap.size gu Uu bu cu) := HSu.out.under hrj
  replace HSm : Hid (Sb w Vj gm Vu.heap.size gm Uu bm cm) := HSm.out.under hrj
  have HOj : Hid (Ft.FindIs (Ft.dropR T p) Uj dj) := Kj.out.1
  clear hVj hrj Kj
  have HSj := HNj
  clear HNj
  go_upto_region 7 with fail
  rw [← HVj.out]
  clear HVj
  generalize wj.heap.size = gj at *
  have Cq := rdrop_any T p a ap cap cp Vj HSt.out.fd HZ.out.1 (HP.out _ HSt.out.bel) HZ.out.2.2.2.2
  simp only [Ft.fdV, Ft.fdA] at Cq
  have HCq : Hid _ := Cq
  clear Cq
  obtain ⟨qt0, qt1, qt2, qt3⟩ := HSt.out.at_.cellsQ
  go_wp2_with fail
  refine Calls.mono HCq.out ?_
  clear HCq qt0 qt1 qt2 qt3
  rintro e wq ⟨Uq, bq, cq, dq, rfl, Kq⟩
  obtain ⟨hU1, hU2⟩ := Ft.find_uniq HOj.out Kq.out.1
  subst hU1
  subst hU2
  simp only [Ft.fdV, Ft.fdA]
  obtain ⟨Vq, hVq⟩ : ∃ V, V = wq.alloc (.cells (Ft.fdA Uj bq cq) 25) := ⟨_, rfl⟩
  have HVq : Hid (Vq = wq.alloc (.cells #[.string Uj.nm, .int .u8 (Uj.k : Int), .string Uj.d, .slice bq Uj.kids.length cq] 25)) := hVq
  have hrq : Below Vj.heap.size Vj Vq := by rw [hVq]; exact Kq.out.2.2.alloc Kq.out.2.2.size _
  have HNq : Hid (Sb w Vq wq.heap.size Vj.heap.size wq.heap.size Uj bq cq) := by rw [hVq]; exact sb_new HSt.out.bel Kq.out.2.2 Kq.out.2.1
  replace HSt : Hid (Sb w Vq w.heap.size 0 w.heap.size T a cap) := HSt.out.under hrq
  replace HSf : Hid (Sb w Vq (w.heap.size + 1) 0 w.heap.size f fa fc) := HSf.out.under hrq
  replace HSk : Hid (Sb w Vq gk W1.heap.size gk T bk ck) := HSk.out.under hrq
  replace HSx : Hid (Sb w Vq gx Vk.heap.size gx Ux bx cx) := HSx.out.under hrq
  replace HSl : Hid (Sb w Vq gl Vx.heap.size gl Ux bl cl) := HSl.out.under hrq
  replace HSu : Hid (Sb w Vq gu Vl.heap.size gu Uu bu cu) := HSu.out.under hrq
  replace HSm : Hid (Sb w Vq gm Vu.heap.size gm Uu bm cm) := HSm.out.under hrq
  replace HSj : Hid (Sb w Vq gj Vm.heap.size gj Uj bj cj) := HSj.out.under hrq
  clear hVq hrq Kq
  have HSq := HNq
  clear HNq
  go_upto_region 8 with fail
  rw [← HVq.out]
  clear HVq
  generalize wq.heap.size = gq at *
  clear HOj
  have CL := tlives_any Vq (HTT.out.under HSt.out.bel)
  have HCL : Hid _ := CL
  clear CL
  go_wp2_with fail
  refine Calls.mono HCL.out ?_
  clear HCL
  rintro e wl ⟨rfl, bl0⟩
  replace HSt : Hid (Sb w wl w.heap.size 0 w.heap.size T a cap) := HSt.out.under bl0
  replace HSf : Hid (Sb w wl (w.heap.size + 1) 0 w.heap.size f fa fc) := HSf.out.under bl0
  replace HSk : Hid (Sb w wl gk W1.heap.size gk T bk ck) := HSk.out.under bl0
  replace HSx : Hid (Sb w wl gx Vk.heap.size gx Ux bx cx) := HSx.out.under bl0
  replace HSl : Hid (Sb w wl gl Vx.heap.size gl Ux bl cl) := HSl.out.under bl0
  replace HSu : Hid (Sb w wl gu Vl.heap.size gu Uu bu cu) := HSu.out.under bl0
  replace HSm : Hid (Sb w wl gm Vu.heap.size gm Uu bm cm) := HSm.out.under bl0
  replace HSj : Hid (Sb w wl gj Vm.heap.size gj Uj bj cj) := HSj.out.under bl0
  replace HSq : Hid (Sb w wl gq Vj.heap.size gq Uj bq cq) := HSq.out.under bl0
  clear bl0
  have CS := rsame_any Ux Ux bx bl cx cl wl HSx.out.fd HSl.out.fd
  rw [Ft.sameT_refl] at CS
  simp only [Ft.fdV, Ft.fdA] at CS
  have HCS : Hid _ := CS
  clear CS
  obtain ⟨qx0, qx1, qx2, qx3⟩ := HSx.out.at_.cellsQ
  obtain ⟨ql0, ql1, ql2, ql3⟩ := HSl.out.at_.cellsQ
  go_wp2_with fail
  refine Calls.mono HCS.out ?_
  clear HCS qx0 qx1 qx2 qx3 ql0 ql1 ql2 ql3
  rintro e ws0 ⟨rfl, bs0⟩
  replace HSt : Hid (Sb w ws0 w.heap.size 0 w.heap.size T a cap) := HSt.out.under bs0
  replace HSf : Hid (Sb w ws0 (w.heap.size + 1) 0 w.heap.size f fa fc) := HSf.out.under bs0
  replace HSk : Hid (Sb w ws0 gk W1.heap.size gk T bk ck) := HSk.out.under bs0
  replace HSx : Hid (Sb w ws0 gx Vk.heap.size gx Ux bx cx) := HSx.out.under bs0
  replace HSl : Hid (Sb w ws0 gl Vx.heap.size gl Ux bl cl) := HSl.out.under bs0
  replace HSu : Hid (Sb w ws0 gu Vl.heap.size gu Uu bu cu) := HSu.out.under bs0
  replace HSm : Hid (Sb w ws0 gm Vu.heap.size gm Uu bm cm) := HSm.out.under bs0
  replace HSj : Hid (Sb w ws0 gj Vm.heap.size gj Uj bj cj) := HSj.out.under bs0
  replace HSq : Hid (Sb w ws0 gq Vj.heap.size gq Uj bq cq) := HSq.out.under bs0
  clear bs0
  have CS := rsame_any Uu Uu bu bm cu cm ws0 HSu.out.fd HSm.out.fd
  rw [Ft.sameT_refl] at CS
  simp only [Ft.fdV, Ft.fdA] at CS
  have HCS : Hid _ := CS
  clear CS
  obtain ⟨qu0, qu1, qu2, qu3⟩ := HSu.out.at_.cellsQ
  obtain ⟨qm0, qm1, qm2, qm3⟩ := HSm.out.at_.cellsQ
  go_wp2_with fail
  refine Calls.mono HCS.out ?_
  clear HCS qu0 qu1 qu2 qu3 qm0 qm1 qm2 qm3
  rintro e ws1 ⟨rfl, bs1⟩
  replace HSt : Hid (Sb w ws1 w.heap.size 0 w.heap.size T a cap) := HSt.out.under bs1
  replace HSf : Hid (Sb w ws1 (w.heap.size + 1) 0 w.heap.size f fa fc) := HSf.out.under bs1
  replace HSk : Hid (Sb w ws1 gk W1.heap.size gk T bk ck) := HSk.out.under bs1
  replace HSx : Hid (Sb w ws1 gx Vk.heap.size gx Ux bx cx) := HSx.out.under bs1
  replace HSl : Hid (Sb w ws1 gl Vx.heap.size gl Ux bl cl) := HSl.out.under bs1
  replace HSu : Hid (Sb w ws1 gu Vl.heap.size gu Uu bu cu) := HSu.out.under bs1
  replace HSm : Hid (Sb w ws1 gm Vu.heap.size gm Uu bm cm) := HSm.out.under bs1
  replace HSj : Hid (Sb w ws1 gj Vm.heap.size gj Uj bj cj) := HSj.out.under bs1
  replace HSq : Hid (Sb w ws1 gq Vj.heap.size gq Uj bq cq) := HSq.out.under bs1
  clear bs1
  have CS := rsame_any Uj Uj bj bq cj cq ws1 HSj.out.fd HSq.out.fd
  rw [Ft.sameT_refl] at CS
  simp only [Ft.fdV, Ft.fdA] at CS
  have HCS : Hid _ := CS
  clear CS
  obtain ⟨qj0, qj1, qj2, qj3⟩ := HSj.out.at_.cellsQ
  obtain ⟨qq0, qq1, qq2, qq3⟩ := HSq.out.at_.cellsQ
  go_wp2_with fail
  refine Calls.mono HCS.out ?_
  clear HCS qj0 qj1 qj2 qj3 qq0 qq1 qq2 qq3
  rintro e ws2 ⟨rfl, bs2⟩
  replace HSt : Hid (Sb w ws2 w.heap.size 0 w.heap.size T a cap) := HSt.out.under bs2
  replace HSf : Hid (Sb w ws2 (w.heap.size + 1) 0 w.heap.size f fa fc) := HSf.out.under bs2
  replace HSk : Hid (Sb w ws2 gk W1.heap.size gk T bk ck) := HSk.out.under bs2
  replace HSx : Hid (Sb w ws2 gx Vk.heap.size gx Ux bx cx) := HSx.out.under bs2
  replace HSl : Hid (Sb w ws2 gl Vx.heap.size gl Ux bl cl) := HSl.out.under bs2
  replace HSu : Hid (Sb w ws2 gu Vl.heap.size gu Uu bu cu) := HSu.out.under bs2
  replace HSm : Hid (Sb w ws2 gm Vu.heap.size gm Uu bm cm) := HSm.out.under bs2
  replace HSj : Hid (Sb w ws2 gj Vm.heap.size gj Uj bj cj) := HSj.out.under bs2
  replace HSq : Hid (Sb w ws2 gq Vj.heap.size gq Uj bq cq) := HSq.out.under bs2
  clear bs2
  have CS := rsame_any T T bk a ck cap ws2 HSk.out.fd HSt.out.fd
  rw [Ft.sameT_refl] at CS
  simp only [Ft.fdV, Ft.fdA] at CS
  have HCS : Hid _ := CS
  clear CS
  obtain ⟨qk0, qk1, qk2, qk3⟩ := HSk.out.at_.cellsQ
  obtain ⟨qt0, qt1, qt2, qt3⟩ := HSt.out.at_.cellsQ
  go_wp2_with fail
  refine Calls.mono HCS.out ?_
  clear HCS qk0 qk1 qk2 qk3 qt0 qt1 qt2 qt3
  rintro e ws3 ⟨rfl, bs3⟩
  replace HSt : Hid (Sb w ws3 w.heap.size 0 w.heap.size T a cap) := HSt.out.under bs3
  replace HSf : Hid (Sb w ws3 (w.heap.size + 1) 0 w.heap.size f fa fc) := HSf.out.under bs3
  replace HSk : Hid (Sb w ws3 gk W1.heap.size gk T bk ck) := HSk.out.under bs3
  replace HSx : Hid (Sb w ws3 gx Vk.heap.size gx Ux bx cx) := HSx.out.under bs3
  replace HSl : Hid (Sb w ws3 gl Vx.heap.size gl Ux bl cl) := HSl.out.under bs3
  replace HSu : Hid (Sb w ws3 gu Vl.heap.size gu Uu bu cu) := HSu.out.under bs3
  replace HSm : Hid (Sb w ws3 gm Vu.heap.size gm Uu bm cm) := HSm.out.under bs3
  replace HSj : Hid (Sb w ws3 gj Vm.heap.size gj Uj bj cj) := HSj.out.under bs3
  replace HSq : Hid (Sb w ws3 gq Vj.heap.size gq Uj bq cq) := HSq.out.under bs3
  clear bs3
  have HE9 : Hid (Below w.heap.size w ws3) := HSt.out.bel
  clear HSt HSf HSk HSx HSl HSu HSm HSj HSq
  go_wp2_with fail
  go_ret
  exact ⟨rfl, HE9.out⟩
end Go.Proofs.YtfbhofomcenabaaGreatDoor
