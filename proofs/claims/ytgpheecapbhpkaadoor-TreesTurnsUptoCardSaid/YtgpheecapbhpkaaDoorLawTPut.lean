/- The law TreesPuts: what is put stands there, and nothing else is turned; dropped again the tree is as it was. -/
import Derived.Test.YtgpheecapbhpkaaDoorFLives
import Derived.Test.YtgpheecapbhpkaaDoorTY
import Derived.Test.YtgpheecapbhpkaaDoorTZ
import Derived.Test.YtgpheecapbhpkaaDoorTG
import Derived.Test.YtgpheecapbhpkaaDoorTT
import Derived.Deep.DeepCutAuto
import Derived.Deep.RegionHeld3
namespace Go.Proofs.YtgpheecapbhpkaaDoor
open Go Go.RowKit

namespace Ft
theorem sz_put {T U f : FT} {p : List ByteArray} (h : putR T p f = .inr U) (hz : szT T = true) (hzf : szT f = true) (hfd : f.d.size ≤ 1048576) (hpz : (lastN p).size ≤ 1048576) : szT U = true := by
  obtain ⟨D, h1, h2, h3, hk, hU, hr⟩ := put_ok h
  have hzD := sz_look _ _ _ h3 hz
  rw [sz_kids] at hzD
  rw [hU]
  refine sz_with _ _ _ hz (szL_ins _ _ _ hzD ?_)
  have e1 : (renT f (lastN p)).nm.size ≤ 1048576 := hpz
  have e2 : (renT f (lastN p)).d.size ≤ 1048576 := hfd
  have e3 : szT (renT f (lastN p)) = true := by rw [sz_kids] at hzf ⊢; exact hzf
  rw [szL_cons, decide_eq_true e1, decide_eq_true e2, e3, szT.szL]; rfl
theorem find_code {r : Sum Nat FT} {U : FT} {code : Int} (h : FindIs r U code) : (∃ V, r = .inr V ∧ U = V ∧ code = 0) ∨ ∃ n : Nat, r = .inl n ∧ U = zF ∧ code = n := by
  cases r with
  | inl n => exact .inr ⟨n, rfl, h.1, h.2⟩
  | inr V => exact .inl ⟨V, rfl, h.1, h.2⟩
theorem find_uniq {r : Sum Nat FT} {U U' : FT} {c c' : Int} (h : FindIs r U c) (h' : FindIs r U' c') : U = U' ∧ c = c' := by
  cases r with
  | inl n => exact ⟨h.1.trans h'.1.symm, h.2.trans h'.2.symm⟩
  | inr V => exact ⟨h.1.trans h'.1.symm, h.2.trans h'.2.symm⟩
theorem put_code {T f : FT} {p : List ByteArray} {n : Nat} (h : putR T p f = .inl n) : n ≠ 0 := by
  unfold putR at h
  split at h
  · rename_i e he
    cases h
    exact hold_code he
  · split at h
    · split at h
      · cases h
      · cases h; omega
    · cases h; omega
theorem get_code {T : FT} {p : List ByteArray} {n : Nat} (h : getR T p = .inl n) : n ≠ 0 := by
  unfold getR at h
  split at h
  · exact look_code _ _ _ h
  · cases h; omega
end Ft
theorem bel_dn (w : World) (n : Nat) : Below w.heap.size w (w.drewN n) := ⟨rfl, rfl, rfl, Nat.le_refl _, fun _ _ => rfl⟩
/-- A box of the law's own, with what it holds: a tree that lies between two blocks. -/
structure Sb (w0 V : World) (g lo hi : Nat) (T : Ft.FT) (a : Option Addr) (c : Nat) : Prop where
  at_ : Ft.FileAt V g T a c
  fdb : Ft.Fd V (fun k => lo ≤ k ∧ k < hi) T a c
  le : hi ≤ V.heap.size
  bel : Below w0.heap.size w0 V
  ge : w0.heap.size ≤ g
theorem Sb.under {w0 V V' : World} {g lo hi : Nat} {T : Ft.FT} {a : Option Addr} {c : Nat} (h : Sb w0 V g lo hi T a c) (hb : Below V.heap.size V V') : Sb w0 V' g lo hi T a c :=
  ⟨h.at_.under hb, h.fdb.underP (fun _k hk => Nat.lt_of_lt_of_le hk.2 h.le) hb, Nat.le_trans h.le hb.size, h.bel.trans (hb.mono h.bel.size), h.ge⟩
theorem Sb.fd {w0 V : World} {g lo hi : Nat} {T : Ft.FT} {a : Option Addr} {c : Nat} (h : Sb w0 V g lo hi T a c) : Ft.Fd V (· < V.heap.size) T a c := h.fdb.mono (fun _k hk => Nat.lt_of_lt_of_le hk.2 h.le)
theorem sb_new {w0 V W : World} {U : Ft.FT} {b : Option Addr} {c : Nat} (h : Below w0.heap.size w0 V) (hW : Below V.heap.size V W) (hU : Ft.Fd W (fun k => V.heap.size ≤ k ∧ k < W.heap.size) U b c) : Sb w0 (W.alloc (.cells (Ft.fdA U b c) 25)) W.heap.size V.heap.size W.heap.size U b c :=
  ⟨Ft.file_new W U b c, hU.underP (fun k hk => hk.2) ((Below.refl _ _).alloc (Nat.le_refl _) _), by simp, (h.trans (hW.mono h.size)).alloc (by have := h.size; have := hW.size; omega) _, by have := h.size; have := hW.size; omega⟩
/-- Another box is written. -/
theorem Sb.same {w0 V V' : World} {g lo hi : Nat} {T : Ft.FT} {a : Option Addr} {c k : Nat} (h : Sb w0 V g lo hi T a c) (hs : V.heap.size ≤ V'.heap.size) (hb : Below w0.heap.size w0 V') (hk : ∀ i, i ≠ k → V'.heap[i]? = V.heap[i]?) (hg : g ≠ k) (hi' : k < lo ∨ hi ≤ k) : Sb w0 V' g lo hi T a c :=
  ⟨(hk g hg).trans h.at_, h.fdb.same (fun i hi2 => hk i (by omega)) (fun _ h => h), Nat.le_trans h.le hs, hb, h.ge⟩

set_option maxRecDepth 100000 in
set_option maxHeartbeats 8000000 in
theorem law_tputs (T f : Ft.FT) (p q : List ByteArray) (a ap fa aq : Option Addr) (cap cp fc cq : Nat) (w : World) (TT : TxT w) (hT : Ft.Fd w (· < w.heap.size) T a cap) (hz : Ft.szT T = true) (hP : Strs w ap cp p) (hf : Ft.Fd w (· < w.heap.size) f fa fc) (hzf : Ft.szT f = true) (hfd : f.d.size ≤ 1048576) (hpz : ∀ s ∈ p, s.size ≤ 1048576) (hc : Ft.cntT T < 1048576) (hQ : Strs w aq cq q) :
    Calls Tryd.prog 6 #[Ft.fdV T a cap, .slice ap p.length cp, Ft.fdV f fa fc, .slice aq q.length cq] w fun e w' => e = .returned (.bool true) ∧ Below w.heap.size w w' := by
  obtain ⟨W1, hW1⟩ : ∃ W1, W1 = (w.alloc (.cells (Ft.fdA T a cap) 25)).alloc (.cells (Ft.fdA f fa fc) 25) := ⟨_, rfl⟩
  have hb1 : Below w.heap.size w W1 := by rw [hW1]; exact ((Below.refl _ _).alloc (Nat.le_refl _) _).alloc (by simp) _
  have HSt : Hid (Sb w W1 w.heap.size 0 w.heap.size T a cap) := ⟨by rw [hW1]; exact (Ft.file_new w T a cap).alloc _, (hT.under hb1).mono (fun k h => ⟨Nat.zero_le _, h⟩), hb1.size, hb1, Nat.le_refl _⟩
  have HTT : Hid (TxT w) := TT
  have HSf : Hid (Sb w W1 (w.heap.size + 1) 0 w.heap.size f fa fc) := by
    refine ⟨?_, (hf.under hb1).mono (fun k h => ⟨Nat.zero_le _, h⟩), hb1.size, hb1, by omega⟩
    rw [hW1]
    have h := Ft.file_new (w.alloc (.cells (Ft.fdA T a cap) 25)) f fa fc
    rw [World.size_alloc] at h
    exact h
  have HW1 : Hid (W1 = (w.alloc (.cells #[.string T.nm, .int .u8 (T.k : Int), .string T.d, .slice a T.kids.length cap] 25)).alloc (.cells #[.string f.nm, .int .u8 (f.k : Int), .string f.d, .slice fa f.kids.length fc] 25)) := hW1
  have HZ : Hid (Ft.szT T = true ∧ Ft.szT f = true ∧ f.d.size ≤ 1048576 ∧ (∀ s ∈ p, s.size ≤ 1048576) ∧ Ft.cntT T < 1048576) := ⟨hz, hzf, hfd, hpz, hc⟩
  have HP : Hid (∀ V, Below w.heap.size w V → Strs V ap cp p) := fun V h => hP.below h
  have HQ : Hid (∀ V, Below w.heap.size w V → Strs V aq cq q) := fun V h => hQ.below h
  have hpl := hP.len
  have hpr := hP.room
  have hql := hQ.len
  have hqr := hQ.room
  have hPc := hP
  have hTl := hT.room.1
  have hfl := hf.room.1
  have HPC : Hid (∀ i (h : i < p.length), ∃ b off, ap = some ⟨b, off, none⟩ ∧ b < w.heap.size ∧ w.cell? ⟨b, off + i, none⟩ = some (.string p[i])) := hP.cells
  clear hW1 hb1 hT hf TT hz hzf hfd hpz hc hP hQ hPc
  simp only [Ft.fdV, Ft.fdA]
  go_enter Tryd.func6, Tryd.ntmps6
  go_wp2_with fail
  rw [← HW1.out]
  clear HW1
  refine (tlives_any W1 (HTT.out.under HSt.out.bel)).mono ?_
  rintro e w2 ⟨rfl, hb2⟩
  replace HSt : Hid (Sb w w2 w.heap.size 0 w.heap.size T a cap) := HSt.out.under hb2
  replace HSf : Hid (Sb w w2 (w.heap.size + 1) 0 w.heap.size f fa fc) := HSf.out.under hb2
  clear hb2
  have Co := tget_any T p a ap cap cp w2 HSt.out.fd HZ.out.1 (HP.out _ HSt.out.bel)
  simp only [Ft.fdV, Ft.fdA] at Co
  have HCo : Hid _ := Co
  clear Co
  obtain ⟨qt0, qt1, qt2, qt3⟩ := HSt.out.at_.cellsQ
  go_wp2_with fail
  refine Calls.mono HCo.out ?_
  clear HCo qt0 qt1 qt2 qt3
  rintro e wo ⟨Uo, bo, co, do', rfl, Ko⟩
  simp only [Ft.fdV, Ft.fdA]
  obtain ⟨Vo, hVo⟩ : ∃ V, V = wo.alloc (.cells (Ft.fdA Uo bo co) 25) := ⟨_, rfl⟩
  have HVo : Hid (Vo = wo.alloc (.cells #[.string Uo.nm, .int .u8 (Uo.k : Int), .string Uo.d, .slice bo Uo.kids.length co] 25)) := hVo
  have hro : Below w2.heap.size w2 Vo := by rw [hVo]; exact Ko.out.2.2.alloc Ko.out.2.2.size _
  have HNo : Hid (Sb w Vo wo.heap.size w2.heap.size wo.heap.size Uo bo co) := by rw [hVo]; exact sb_new HSt.out.bel Ko.out.2.2 Ko.out.2.1
  have HLo : Hid (w.heap.size < wo.heap.size ∧ (w.heap.size + 1) < wo.heap.size) := by
    have hlt := HSt.out.at_.lt
    have hlf := HSf.out.at_.lt
    have hle := Ko.out.2.2.size
    exact ⟨by omega, by omega⟩
  replace HSt : Hid (Sb w Vo w.heap.size 0 w.heap.size T a cap) := HSt.out.under hro
  replace HSf : Hid (Sb w Vo (w.heap.size + 1) 0 w.heap.size f fa fc) := HSf.out.under hro
  have HOl : Hid (Ft.FindIs (Ft.getR T p) Uo do') := Ko.out.1
  clear hVo hro Ko
  have HSo := HNo
  clear HNo
  go_upto_region 4 with fail
  rw [← HVo.out]
  clear HVo
  generalize wo.heap.size = go at *
  have Cu := tput_any T f p a ap fa cap cp fc Vo HSt.out.fd HZ.out.1 (HP.out _ HSt.out.bel) HSf.out.fd HZ.out.2.1 HZ.out.2.2.1 HZ.out.2.2.2.1 HZ.out.2.2.2.2
  simp only [Ft.fdV, Ft.fdA] at Cu
  have HCu : Hid _ := Cu
  clear Cu
  obtain ⟨qt0, qt1, qt2, qt3⟩ := HSt.out.at_.cellsQ
  obtain ⟨qf0, qf1, qf2, qf3⟩ := HSf.out.at_.cellsQ
  go_wp2_with fail
  refine Calls.mono HCu.out ?_
  clear HCu qt0 qt1 qt2 qt3 qf0 qf1 qf2 qf3
  rintro e wu ⟨Uu, bu, cu, du, rfl, Ku⟩
  simp only [Ft.fdV, Ft.fdA]
  obtain ⟨Vu, hVu⟩ : ∃ V, V = wu.alloc (.cells (Ft.fdA Uu bu cu) 25) := ⟨_, rfl⟩
  have HVu : Hid (Vu = wu.alloc (.cells #[.string Uu.nm, .int .u8 (Uu.k : Int), .string Uu.d, .slice bu Uu.kids.length cu] 25)) := hVu
  have hru : Below Vo.heap.size Vo Vu := by rw [hVu]; exact Ku.out.2.2.alloc Ku.out.2.2.size _
  have HNu : Hid (Sb w Vu wu.heap.size Vo.heap.size wu.heap.size Uu bu cu) := by rw [hVu]; exact sb_new HSt.out.bel Ku.out.2.2 Ku.out.2.1
  have HLu : Hid (w.heap.size < wu.heap.size ∧ (w.heap.size + 1) < wu.heap.size ∧ go < wu.heap.size) := by
    have hlt := HSt.out.at_.lt
    have hlf := HSf.out.at_.lt
    have hlo := HSo.out.at_.lt
    have hle := Ku.out.2.2.size
    exact ⟨by omega, by omega, by omega⟩
  replace HSt : Hid (Sb w Vu w.heap.size 0 w.heap.size T a cap) := HSt.out.under hru
  replace HSf : Hid (Sb w Vu (w.heap.size + 1) 0 w.heap.size f fa fc) := HSf.out.under hru
  replace HSo : Hid (Sb w Vu go w2.heap.size go Uo bo co) := HSo.out.under hru
  have HUl : Hid (Ft.FindIs (Ft.putR T p f) Uu du) := Ku.out.1
  clear hVu hru Ku
  have HSu := HNu
  clear HNu
  go_upto_region 5 with fail
  rw [← HVu.out]
  clear HVu
  generalize wu.heap.size = gu at *
  rcases Ft.find_code HUl.out with ⟨V9, hpu, e1, rfl⟩ | ⟨n9, hpu, rfl, rfl⟩
  rotate_left
  · have hn0 := Ft.put_code hpu
    have hn1 : ((n9 : Int) != 0) = true := by simp; omega
    have C := rsame_any Ft.zF Ft.zF bu none cu 0 Vu HSu.out.fd (Ft.fd_zero _ _)
    rw [Ft.sameT_refl] at C
    have HC : Hid _ := C
    obtain ⟨q0, q1, q2, q3⟩ := HSu.out.at_.cellsQ
    clear C
    go_wp2_with fail
    refine Calls.mono HC.out ?_
    rintro e wz ⟨rfl, bz⟩
    have HE : Hid (Below w.heap.size w wz) := HSu.out.bel.trans (bz.mono HSu.out.bel.size)
    clear q0 q1 q2 q3 bz HC
    go_wp2_with fail
    go_ret
    exact ⟨rfl, HE.out⟩
  subst e1
  have HU : Hid (Ft.putR T p f = .inr Uu) := hpu
  obtain ⟨D9, hD9⟩ := Ft.put_ok hpu
  have HUr : Hid (Ft.rightT Uu = true ∧ p.length ≠ 0 ∧ Ft.rightT T = true) := ⟨hD9.2.2.2.2.2, hD9.2.1, hD9.1⟩
  obtain ⟨m, hm⟩ : ∃ m : Nat, p.length = m + 1 := ⟨p.length - 1, by have := HUr.out.2.1; omega⟩
  have hmp : m < p.length := by omega
  have HXs : Hid ((Ft.lastN p).size ≤ 1048576) := by show _ ≤ _; rw [Ft.last_at hm hmp]; exact HZ.out.2.2.2.1 _ (List.getElem_mem hmp)
  have HUz : Hid (Ft.szT Uu = true) := Ft.sz_put hpu HZ.out.1 HZ.out.2.1 HZ.out.2.2.1 HXs.out
  obtain ⟨pb, po, rfl, hpb, hcell⟩ := HPC.out m hmp
  rw [← Ft.last_at hm hmp] at hcell
  have HCl : Hid (∀ V, Below w.heap.size w V → V.cell? ⟨pb, po + m, none⟩ = some (.string (Ft.lastN p))) := fun V h => (h.cell (p := ⟨pb, po + m, none⟩) hpb).trans hcell
  have HM : Hid (p.length = m + 1) := hm
  clear hpu hD9 hcell HPC HUl hm hmp
  have Cg := tget_any Uu p bu (some ⟨pb, po, none⟩) cu cp Vu HSu.out.fd HUz.out (HP.out _ HSu.out.bel)
  simp only [Ft.fdV, Ft.fdA] at Cg
  have HCg : Hid _ := Cg
  clear Cg
  obtain ⟨qu0, qu1, qu2, qu3⟩ := HSu.out.at_.cellsQ
  go_wp2_with fail
  refine Calls.mono HCg.out ?_
  clear HCg qu0 qu1 qu2 qu3
  rintro e wg ⟨Ug, bg, cg, dg, rfl, Kg⟩
  rw [Ft.put_get HU.out] at Kg
  obtain ⟨hUg, hdg⟩ := Kg.out.1
  subst hdg
  subst hUg
  simp only [Ft.fdV, Ft.fdA]
  obtain ⟨Vg, hVg⟩ : ∃ V, V = wg.alloc (.cells (Ft.fdA (Ft.renT f (Ft.lastN p)) bg cg) 25) := ⟨_, rfl⟩
  have HVg : Hid (Vg = wg.alloc (.cells #[.string (Ft.renT f (Ft.lastN p)).nm, .int .u8 ((Ft.renT f (Ft.lastN p)).k : Int), .string (Ft.renT f (Ft.lastN p)).d, .slice bg (Ft.renT f (Ft.lastN p)).kids.length cg] 25)) := hVg
  have hrg : Below Vu.heap.size Vu Vg := by rw [hVg]; exact Kg.out.2.2.alloc Kg.out.2.2.size _
  have HNg : Hid (Sb w Vg wg.heap.size Vu.heap.size wg.heap.size (Ft.renT f (Ft.lastN p)) bg cg) := by rw [hVg]; exact sb_new HSt.out.bel Kg.out.2.2 Kg.out.2.1
  have HLg : Hid (w.heap.size < wg.heap.size ∧ (w.heap.size + 1) < wg.heap.size ∧ go < wg.heap.size ∧ gu < wg.heap.size) := by
    have hlt := HSt.out.at_.lt
    have hlf := HSf.out.at_.lt
    have hlo := HSo.out.at_.lt
    have hlu := HSu.out.at_.lt
    have hle := Kg.out.2.2.size
    exact ⟨by omega, by omega, by omega, by omega⟩
  replace HSt : Hid (Sb w Vg w.heap.size 0 w.heap.size T a cap) := HSt.out.under hrg
  replace HSf : Hid (Sb w Vg (w.heap.size + 1) 0 w.heap.size f fa fc) := HSf.out.under hrg
  replace HSo : Hid (Sb w Vg go w2.heap.size go Uo bo co) := HSo.out.under hrg
  replace HSu : Hid (Sb w Vg gu Vo.heap.size gu Uu bu cu) := HSu.out.under hrg
  clear hVg hrg Kg
  have HSg := HNg
  clear HNg
  go_upto_region 8 with fail
  rw [← HVg.out]
  clear HVg
  generalize wg.heap.size = gg at *
  have Ck := rcopy_any f fa fc Vg HSf.out.fd
  simp only [Ft.fdV, Ft.fdA] at Ck
  have HCk : Hid _ := Ck
  clear Ck
  obtain ⟨qf0, qf1, qf2, qf3⟩ := HSf.out.at_.cellsQ
  go_wp2_with fail
  refine Calls.mono HCk.out ?_
  clear HCk qf0 qf1 qf2 qf3
  rintro e wk ⟨bk, ck, rfl, Fk, Bk⟩
  obtain ⟨Vk, hVk⟩ : ∃ V, V = wk.alloc (.cells (Ft.fdA f bk ck) 25) := ⟨_, rfl⟩
  have HVk : Hid (Vk = wk.alloc (.cells #[.string f.nm, .int .u8 (f.k : Int), .string f.d, .slice bk f.kids.length ck] 25)) := hVk
  have hrk : Below Vg.heap.size Vg Vk := by rw [hVk]; exact Bk.alloc Bk.size _
  have HSk : Hid (Sb w Vk wk.heap.size Vg.heap.size wk.heap.size f bk ck) := by rw [hVk]; exact sb_new HSt.out.bel Bk Fk
  have HLk : Hid (w.heap.size < wk.heap.size ∧ (w.heap.size + 1) < wk.heap.size ∧ go < wk.heap.size ∧ gu < wk.heap.size ∧ gg < wk.heap.size) := by
    have hlt := HSt.out.at_.lt
    have hlf := HSf.out.at_.lt
    have hlo := HSo.out.at_.lt
    have hlu := HSu.out.at_.lt
    have hlg := HSg.out.at_.lt
    have hle := Bk.size
    exact ⟨by omega, by omega, by omega, by omega, by omega⟩
  replace HSt : Hid (Sb w Vk w.heap.size 0 w.heap.size T a cap) := HSt.out.under hrk
  replace HSf : Hid (Sb w Vk (w.heap.size + 1) 0 w.heap.size f fa fc) := HSf.out.under hrk
  replace HSo : Hid (Sb w Vk go w2.heap.size go Uo bo co) := HSo.out.under hrk
  replace HSu : Hid (Sb w Vk gu Vo.heap.size gu Uu bu cu) := HSu.out.under hrk
  replace HSg : Hid (Sb w Vk gg Vu.heap.size gg (Ft.renT f (Ft.lastN p)) bg cg) := HSg.out.under hrk
  clear hVk hrk Fk Bk
  go_upto_region 9 with fail
  rw [← HVk.out]
  clear HVk
  generalize wk.heap.size = gk at *
  have hp9 := HCl.out Vk HSt.out.bel
  have hml : (m : Int) < ((m + 1 : Nat) : Int) := by omega
  have hmi : ((m + 1 : Nat) : Int) - 1 = (m : Int) := by omega
  have hw1 : IntKind.i64.wrap (m : Int) = (m : Int) := by rw [IntKind.wrap_i64]; have := HM.out; omega
  have hm0 : (0 : Int) ≤ (m : Int) := by omega
  have hmb : m + 1 ≤ 8796093022208 := by have := HM.out; omega
  have hk0 : Vk.cell? ⟨gk, 0, none⟩ = some (.string f.nm) := HSk.out.at_.four.c0
  have hkf := HSk.out.at_.frozen
  rw [HM.out]
  go_upto_region 10 with fail
  obtain ⟨X, hX⟩ : ∃ X, X = Vk.setCell ⟨gk, 0, none⟩ (.string (Ft.lastN p)) := ⟨_, rfl⟩
  have hoth : ∀ i, i ≠ gk → X.heap[i]? = Vk.heap[i]? := fun i hi => by rw [hX]; exact heap_setCell_other Vk ⟨gk, 0, none⟩ i _ hi
  have hXs : Vk.heap.size ≤ X.heap.size := by rw [hX]; simp
  have hXb : Below w.heap.size w X := by rw [hX]; exact HSk.out.bel.setCell (p := ⟨gk, 0, none⟩) HSk.out.ge _
  have HX : Hid (X = Vk.setCell ⟨gk, 0, none⟩ (.string (Ft.lastN p))) := hX
  have HSw : Hid (Sb w X gk Vg.heap.size gk (Ft.renT f (Ft.lastN p)) bk ck) := ⟨by rw [hX]; exact heap_setCell_same Vk gk 0 _ _ _ HSk.out.at_, (HSk.out.fdb.same (fun i hi => hoth i (by omega)) (fun _ h => h)).ren _, Nat.le_trans HSk.out.le hXs, hXb, HSk.out.ge⟩
  have hLk := HLk.out
  replace HSt : Hid (Sb w X w.heap.size 0 w.heap.size T a cap) := HSt.out.same hXs hXb hoth (by have := HSt.out.le; omega) (.inr (by have := HSt.out.ge; omega))
  replace HSf : Hid (Sb w X (w.heap.size + 1) 0 w.heap.size f fa fc) := HSf.out.same hXs hXb hoth (by have := HSf.out.le; omega) (.inr (by have := HSf.out.ge; omega))
  replace HSo : Hid (Sb w X go w2.heap.size go Uo bo co) := HSo.out.same hXs hXb hoth (by have := HSo.out.le; omega) (.inr (by have := HSo.out.ge; omega))
  replace HSu : Hid (Sb w X gu Vo.heap.size gu Uu bu cu) := HSu.out.same hXs hXb hoth (by have := HSu.out.le; omega) (.inr (by have := HSu.out.ge; omega))
  replace HSg : Hid (Sb w X gg Vu.heap.size gg (Ft.renT f (Ft.lastN p)) bg cg) := HSg.out.same hXs hXb hoth (by have := HSg.out.le; omega) (.inr (by have := HSg.out.ge; omega))
  rw [← HX.out]
  clear hX hoth hXs hXb HX HSk hk0 hkf hp9 hLk
  have CS := rsame_any (Ft.renT f (Ft.lastN p)) (Ft.renT f (Ft.lastN p)) bg bk cg ck X HSg.out.fd HSw.out.fd
  rw [Ft.sameT_refl] at CS
  have HCS : Hid _ := CS
  clear CS
  obtain ⟨qg0, qg1, qg2, qg3⟩ := HSg.out.at_.cellsQ
  obtain ⟨qw0, qw1, qw2, qw3⟩ := HSw.out.at_.cellsQ
  go_wp2_with fail
  refine Calls.mono HCS.out ?_
  clear HCS qg0 qg1 qg2 qg3 qw0 qw1 qw2 qw3
  rintro e ws ⟨rfl, bs⟩
  replace HSt : Hid (Sb w ws w.heap.size 0 w.heap.size T a cap) := HSt.out.under bs
  replace HSf : Hid (Sb w ws (w.heap.size + 1) 0 w.heap.size f fa fc) := HSf.out.under bs
  replace HSo : Hid (Sb w ws go w2.heap.size go Uo bo co) := HSo.out.under bs
  replace HSu : Hid (Sb w ws gu Vo.heap.size gu Uu bu cu) := HSu.out.under bs
  replace HSg : Hid (Sb w ws gg Vu.heap.size gg (Ft.renT f (Ft.lastN p)) bg cg) := HSg.out.under bs
  replace HSw : Hid (Sb w ws gk Vg.heap.size gk (Ft.renT f (Ft.lastN p)) bk ck) := HSw.out.under bs
  clear bs
  obtain ⟨E, hE⟩ : ∃ E, Ft.dropR Uu p = .inr E := by obtain ⟨D, _, h⟩ := Ft.put_drop HU.out; exact ⟨_, h⟩
  have HE : Hid (Ft.dropR Uu p = .inr E) := hE
  clear hE
  clear HSg HSw HLo HLu HLg
  have Cd := tdrop_any Uu p bu (some ⟨pb, po, none⟩) cu cp ws HSu.out.fd HUz.out (HP.out _ HSu.out.bel)
  rw [HM.out] at Cd
  simp only [Ft.fdV, Ft.fdA] at Cd
  have HCd : Hid _ := Cd
  clear Cd
  obtain ⟨qu0, qu1, qu2, qu3⟩ := HSu.out.at_.cellsQ
  go_wp2_with fail
  refine Calls.mono HCd.out ?_
  clear HCd qu0 qu1 qu2 qu3
  rintro e wd ⟨Ud, bd, cd, dd, rfl, Kd⟩
  rw [HE.out] at Kd
  obtain ⟨hUd, hdd⟩ := Kd.out.1
  subst hdd
  subst hUd
  simp only [Ft.fdV, Ft.fdA]
  obtain ⟨Vd, hVd⟩ : ∃ V, V = wd.alloc (.cells (Ft.fdA Ud bd cd) 25) := ⟨_, rfl⟩
  have HVd : Hid (Vd = wd.alloc (.cells #[.string Ud.nm, .int .u8 (Ud.k : Int), .string Ud.d, .slice bd Ud.kids.length cd] 25)) := hVd
  have hrd : Below ws.heap.size ws Vd := by rw [hVd]; exact Kd.out.2.2.alloc Kd.out.2.2.size _
  have HNd : Hid (Sb w Vd wd.heap.size ws.heap.size wd.heap.size Ud bd cd) := by rw [hVd]; exact sb_new HSt.out.bel Kd.out.2.2 Kd.out.2.1
  have HLd : Hid (w.heap.size < wd.heap.size ∧ (w.heap.size + 1) < wd.heap.size ∧ go < wd.heap.size ∧ gu < wd.heap.size) := by
    have hlt := HSt.out.at_.lt
    have hlf := HSf.out.at_.lt
    have hlo := HSo.out.at_.lt
    have hlu := HSu.out.at_.lt
    have hle := Kd.out.2.2.size
    exact ⟨by omega, by omega, by omega, by omega⟩
  replace HSt : Hid (Sb w Vd w.heap.size 0 w.heap.size T a cap) := HSt.out.under hrd
  replace HSf : Hid (Sb w Vd (w.heap.size + 1) 0 w.heap.size f fa fc) := HSf.out.under hrd
  replace HSo : Hid (Sb w Vd go w2.heap.size go Uo bo co) := HSo.out.under hrd
  replace HSu : Hid (Sb w Vd gu Vo.heap.size gu Uu bu cu) := HSu.out.under hrd
  clear hVd hrd Kd
  have HSd := HNd
  clear HNd
  go_upto_region 13 with fail
  rw [← HVd.out]
  clear HVd
  generalize wd.heap.size = gd at *
  have HLe : Hid (w.heap.size < Vd.heap.size ∧ (w.heap.size + 1) < Vd.heap.size ∧ go < Vd.heap.size ∧ gu < Vd.heap.size ∧ gd < Vd.heap.size) := ⟨HSt.out.at_.lt, HSf.out.at_.lt, HSo.out.at_.lt, HSu.out.at_.lt, HSd.out.at_.lt⟩
  obtain ⟨Ve, hVe⟩ : ∃ V, V = Vd.alloc (.cells (Ft.fdA T a cap) 25) := ⟨_, rfl⟩
  have HVe : Hid (Ve = Vd.alloc (.cells #[.string T.nm, .int .u8 (T.k : Int), .string T.d, .slice a T.kids.length cap] 25)) := hVe
  have hre : Below Vd.heap.size Vd Ve := by rw [hVe]; exact (Below.refl _ _).alloc (Nat.le_refl _) _
  have HSe : Hid (Sb w Ve Vd.heap.size 0 w.heap.size T a cap) := ⟨by rw [hVe]; exact Ft.file_new Vd T a cap, (HSt.out.under hre).fdb, (HSt.out.under hre).le, (HSt.out.under hre).bel, HSt.out.bel.size⟩
  obtain ⟨qt0, qt1, qt2, qt3⟩ := HSt.out.at_.cellsQ
  replace HSt : Hid (Sb w Ve w.heap.size 0 w.heap.size T a cap) := HSt.out.under hre
  replace HSf : Hid (Sb w Ve (w.heap.size + 1) 0 w.heap.size f fa fc) := HSf.out.under hre
  replace HSo : Hid (Sb w Ve go w2.heap.size go Uo bo co) := HSo.out.under hre
  replace HSu : Hid (Sb w Ve gu Vo.heap.size gu Uu bu cu) := HSu.out.under hre
  replace HSd : Hid (Sb w Ve gd ws.heap.size gd Ud bd cd) := HSd.out.under hre
  clear hVe hre
  go_upto_region 14 with fail
  rw [← HVe.out]
  clear HVe qt0 qt1 qt2 qt3
  generalize Vd.heap.size = ge at *
  rcases Ft.find_code HOl.out with ⟨V9, hgo, e1, rfl⟩ | ⟨n9, hgo, rfl, rfl⟩
  · subst e1
    obtain ⟨⟨E9, h1, h2⟩, hnm⟩ := Ft.put_drop_old HU.out hgo
    rw [HE.out] at h1
    have e9 := Sum.inr.inj h1
    rw [← e9] at h2
    have HDT : Hid (Ft.dropR T p = .inr Ud) := h2
    have HNm : Hid (Uo.nm = Ft.lastN p) := hnm
    clear h1 h2 hnm hgo e9 E9
    have hge : ge < Ve.heap.size := HSe.out.at_.lt
    have Cx := tdrop_any T p a (some ⟨pb, po, none⟩) cap cp Ve HSt.out.fd HZ.out.1 (HP.out _ HSt.out.bel)
    rw [HM.out] at Cx
    simp only [Ft.fdV, Ft.fdA] at Cx
    have HCx : Hid _ := Cx
    clear Cx
    obtain ⟨qt0, qt1, qt2, qt3⟩ := HSt.out.at_.cellsQ
    go_wp2_with fail
    refine Calls.mono HCx.out ?_
    clear HCx qt0 qt1 qt2 qt3
    rintro e wx ⟨Ux, bx, cx, dx, rfl, Kx⟩
    rw [HDT.out] at Kx
    obtain ⟨hUx, hdx⟩ := Kx.out.1
    subst hdx
    have hUx := hUx.symm
    subst hUx
    simp only [Ft.fdV, Ft.fdA]
    obtain ⟨Vx, hVx⟩ : ∃ V, V = wx.alloc (.cells (Ft.fdA Ud bx cx) 25) := ⟨_, rfl⟩
    have HVx : Hid (Vx = wx.alloc (.cells #[.string Ud.nm, .int .u8 (Ud.k : Int), .string Ud.d, .slice bx Ud.kids.length cx] 25)) := hVx
    have hrx : Below Ve.heap.size Ve Vx := by rw [hVx]; exact Kx.out.2.2.alloc Kx.out.2.2.size _
    have HNx : Hid (Sb w Vx wx.heap.size Ve.heap.size wx.heap.size Ud bx cx) := by rw [hVx]; exact sb_new HSt.out.bel Kx.out.2.2 Kx.out.2.1
    have HLx : Hid (w.heap.size < wx.heap.size ∧ (w.heap.size + 1) < wx.heap.size ∧ go < wx.heap.size ∧ gu < wx.heap.size ∧ gd < wx.heap.size ∧ ge < wx.heap.size) := by
      have hlt := HSt.out.at_.lt
      have hlf := HSf.out.at_.lt
      have hlo := HSo.out.at_.lt
      have hlu := HSu.out.at_.lt
      have hld := HSd.out.at_.lt
      have hle := HSe.out.at_.lt
      have hle := Kx.out.2.2.size
      exact ⟨by omega, by omega, by omega, by omega, by omega, by omega⟩
    replace HSt : Hid (Sb w Vx w.heap.size 0 w.heap.size T a cap) := HSt.out.under hrx
    replace HSf : Hid (Sb w Vx (w.heap.size + 1) 0 w.heap.size f fa fc) := HSf.out.under hrx
    replace HSo : Hid (Sb w Vx go w2.heap.size go Uo bo co) := HSo.out.under hrx
    replace HSu : Hid (Sb w Vx gu Vo.heap.size gu Uu bu cu) := HSu.out.under hrx
    replace HSd : Hid (Sb w Vx gd ws.heap.size gd Ud bd cd) := HSd.out.under hrx
    replace HSe : Hid (Sb w Vx ge 0 w.heap.size T a cap) := HSe.out.under hrx
    clear hVx hrx Kx
    have HSx := HNx
    clear HNx
    go_upto_region 16 with fail
    rw [← HVx.out]
    clear HVx
    generalize wx.heap.size = gx at *
    have hp9 := HCl.out Vx HSt.out.bel
    obtain ⟨qo0, _, _, _⟩ := HSo.out.at_.cellsQ
    rw [HNm.out] at qo0
    clear hUx
    have hmk : ¬ ((m : Int) + 1 ≤ (m : Int)) := by omega
    have hmk2 : (m : Int) < (m : Int) + 1 := by omega
    have s0 : Vx.drew.cell? ⟨pb, po + m, none⟩ = some (.string (Ft.lastN p)) ∧ Vx.drew.cell? ⟨go, 0, none⟩ = some (.string (Ft.lastN p)) := ⟨hp9, qo0⟩
    go_region_held3 (fun w' => w'.cell? ⟨pb, po + m, none⟩ = some (.string (Ft.lastN p)) ∧ w'.cell? ⟨go, 0, none⟩ = some (.string (Ft.lastN p))) ((first | exact s0)) (fail)
    clear s0 hmk hmk2 qo0 hp9
    obtain ⟨qx0, qx1, qx2, qx3⟩ := HSx.out.at_.cellsQ
    obtain ⟨qe0, qe1, qe2, qe3⟩ := HSe.out.at_.cellsQ
    have qef := HSe.out.at_.frozen
    go_upto_region 19 with fail
    clear qef qx0 qx1 qx2 qx3 qe0 qe1 qe2 qe3
    obtain ⟨Vy, hVy⟩ : ∃ V, V = (Ft.putF Vx ge Ud bx cx).drew := ⟨_, rfl⟩
    have HVy : Hid (Vy = ((((Vx.setCell ⟨ge, 0, none⟩ (.string Ud.nm)).setCell ⟨ge, 1, none⟩ (.int .u8 (Ud.k : Int))).setCell ⟨ge, 2, none⟩ (.string Ud.d)).setCell ⟨ge, 3, none⟩ (.slice bx Ud.kids.length cx)).drew) := hVy
    rw [← HVy.out]
    have hoth : ∀ i, i ≠ ge → Vy.heap[i]? = Vx.heap[i]? := fun i hi => by rw [hVy]; exact Ft.putF_other (w := Vx) hi
    have hXb : Below w.heap.size w Vy := by rw [hVy]; exact (Ft.putF_below HSe.out.bel HSe.out.ge).drew
    have hXs : Vx.heap.size ≤ Vy.heap.size := by rw [hVy]; exact (Ft.putF_below (B := 0) (Below.refl 0 Vx) (Nat.zero_le _)).size
    have hL1 := HLe.out
    have hL2 := HLx.out
    have HE2 : Hid (Sb w Vy ge Ve.heap.size gx Ud bx cx) := ⟨by rw [hVy]; exact Ft.FileAt.putF (w := Vx) HSe.out.at_ Ud bx cx, HSx.out.fdb.same (fun i hi => hoth i (by omega)) (fun _ h => h), Nat.le_trans HSx.out.le hXs, hXb, HSe.out.ge⟩
    replace HSt : Hid (Sb w Vy w.heap.size 0 w.heap.size T a cap) := HSt.out.same hXs hXb hoth (by omega) (.inr (by omega))
    replace HSf : Hid (Sb w Vy (w.heap.size + 1) 0 w.heap.size f fa fc) := HSf.out.same hXs hXb hoth (by omega) (.inr (by omega))
    replace HSo : Hid (Sb w Vy go w2.heap.size go Uo bo co) := HSo.out.same hXs hXb hoth (by omega) (.inr (by omega))
    replace HSu : Hid (Sb w Vy gu Vo.heap.size gu Uu bu cu) := HSu.out.same hXs hXb hoth (by omega) (.inr (by omega))
    replace HSd : Hid (Sb w Vy gd ws.heap.size gd Ud bd cd) := HSd.out.same hXs hXb hoth (by omega) (.inr (by omega))
    clear hVy HVy hoth hXs hXb hL1 hL2 HSx HSe hge
    have HSe := HE2
    clear HE2
    clear HSo
    have CS := rsame_any Ud Ud bd bx cd cx Vy HSd.out.fd HSe.out.fd
    rw [Ft.sameT_refl] at CS
    have HCS : Hid _ := CS
    clear CS
    obtain ⟨qd0, qd1, qd2, qd3⟩ := HSd.out.at_.cellsQ
    obtain ⟨qe0, qe1, qe2, qe3⟩ := HSe.out.at_.cellsQ
    go_wp2_with fail
    refine Calls.mono HCS.out ?_
    clear HCS qd0 qd1 qd2 qd3 qe0 qe1 qe2 qe3
    rintro e wt ⟨rfl, bt⟩
    replace HSt : Hid (Sb w wt w.heap.size 0 w.heap.size T a cap) := HSt.out.under bt
    replace HSf : Hid (Sb w wt (w.heap.size + 1) 0 w.heap.size f fa fc) := HSf.out.under bt
    replace HSu : Hid (Sb w wt gu Vo.heap.size gu Uu bu cu) := HSu.out.under bt
    replace HSd : Hid (Sb w wt gd ws.heap.size gd Ud bd cd) := HSd.out.under bt
    replace HSe : Hid (Sb w wt ge Ve.heap.size gx Ud bx cx) := HSe.out.under bt
    clear bt
    have CB0 := lbelow_any (some ⟨pb, po, none⟩) aq cp cq p q wt (HP.out _ HSt.out.bel) (HQ.out _ HSt.out.bel)
    rw [HM.out] at CB0
    have HCB0 : Hid _ := CB0
    clear CB0
    go_wp2_with fail
    refine Calls.mono HCB0.out ?_
    clear HCB0
    rintro e wb0 ⟨rfl, n0, hwb0⟩
    have bb0 : Below wt.heap.size wt wb0 := by rw [hwb0]; exact bel_dn _ _
    replace HSt : Hid (Sb w wb0 w.heap.size 0 w.heap.size T a cap) := HSt.out.under bb0
    replace HSf : Hid (Sb w wb0 (w.heap.size + 1) 0 w.heap.size f fa fc) := HSf.out.under bb0
    replace HSu : Hid (Sb w wb0 gu Vo.heap.size gu Uu bu cu) := HSu.out.under bb0
    replace HSd : Hid (Sb w wb0 gd ws.heap.size gd Ud bd cd) := HSd.out.under bb0
    replace HSe : Hid (Sb w wb0 ge Ve.heap.size gx Ud bx cx) := HSe.out.under bb0
    clear bb0 hwb0
    cases hbel0 : Ft.belP p q
    rotate_left
    · clear hbel0
      have HE9 : Hid (Below w.heap.size w wb0) := HSt.out.bel
      clear HSt HSf HSu HSd HSe
      go_wp2_with fail
      go_ret
      exact ⟨rfl, HE9.out⟩
    have HB0 : Hid (Ft.belP p q = false) := hbel0
    clear hbel0
    have CB1 := lbelow_any aq (some ⟨pb, po, none⟩) cq cp q p wb0 (HQ.out _ HSt.out.bel) (HP.out _ HSt.out.bel)
    rw [HM.out] at CB1
    have HCB1 : Hid _ := CB1
    clear CB1
    go_wp2_with fail
    refine Calls.mono HCB1.out ?_
    clear HCB1
    rintro e wb1 ⟨rfl, n1, hwb1⟩
    have bb1 : Below wb0.heap.size wb0 wb1 := by rw [hwb1]; exact bel_dn _ _
    replace HSt : Hid (Sb w wb1 w.heap.size 0 w.heap.size T a cap) := HSt.out.under bb1
    replace HSf : Hid (Sb w wb1 (w.heap.size + 1) 0 w.heap.size f fa fc) := HSf.out.under bb1
    replace HSu : Hid (Sb w wb1 gu Vo.heap.size gu Uu bu cu) := HSu.out.under bb1
    replace HSd : Hid (Sb w wb1 gd ws.heap.size gd Ud bd cd) := HSd.out.under bb1
    replace HSe : Hid (Sb w wb1 ge Ve.heap.size gx Ud bx cx) := HSe.out.under bb1
    clear bb1 hwb1
    cases hbel1 : Ft.belP q p
    rotate_left
    · clear hbel1
      have HE9 : Hid (Below w.heap.size w wb1) := HSt.out.bel
      clear HSt HSf HSu HSd HSe
      go_wp2_with fail
      go_ret
      exact ⟨rfl, HE9.out⟩
    have HB1 : Hid (Ft.belP q p = false) := hbel1
    clear hbel1
    have Cj := tget_any T q a aq cap cq wb1 HSt.out.fd HZ.out.1 (HQ.out _ HSt.out.bel)
    simp only [Ft.fdV, Ft.fdA] at Cj
    have HCj : Hid _ := Cj
    clear Cj
    obtain ⟨qt0, qt1, qt2, qt3⟩ := HSt.out.at_.cellsQ
    go_wp2_with fail
    refine Calls.mono HCj.out ?_
    clear HCj qt0 qt1 qt2 qt3
    rintro e wj ⟨Uj, bj, cj, dj, rfl, Kj⟩
    simp only [Ft.fdV, Ft.fdA]
    obtain ⟨Vj, hVj⟩ : ∃ V, V = wj.alloc (.cells (Ft.fdA Uj bj cj) 25) := ⟨_, rfl⟩
    have HVj : Hid (Vj = wj.alloc (.cells #[.string Uj.nm, .int .u8 (Uj.k : Int), .string Uj.d, .slice bj Uj.kids.length cj] 25)) := hVj
    have hrj : Below wb1.heap.size wb1 Vj := by rw [hVj]; exact Kj.out.2.2.alloc Kj.out.2.2.size _
    have HNj : Hid (Sb w Vj wj.heap.size wb1.heap.size wj.heap.size Uj bj cj) := by rw [hVj]; exact sb_new HSt.out.bel Kj.out.2.2 Kj.out.2.1
    have HLj : Hid (w.heap.size < wj.heap.size ∧ (w.heap.size + 1) < wj.heap.size ∧ gu < wj.heap.size ∧ gd < wj.heap.size ∧ ge < wj.heap.size) := by
      have hlt := HSt.out.at_.lt
      have hlf := HSf.out.at_.lt
      have hlu := HSu.out.at_.lt
      have hld := HSd.out.at_.lt
      have hle := HSe.out.at_.lt
      have hle := Kj.out.2.2.size
      exact ⟨by omega, by omega, by omega, by omega, by omega⟩
    replace HSt : Hid (Sb w Vj w.heap.size 0 w.heap.size T a cap) := HSt.out.under hrj
    replace HSf : Hid (Sb w Vj (w.heap.size + 1) 0 w.heap.size f fa fc) := HSf.out.under hrj
    replace HSu : Hid (Sb w Vj gu Vo.heap.size gu Uu bu cu) := HSu.out.under hrj
    replace HSd : Hid (Sb w Vj gd ws.heap.size gd Ud bd cd) := HSd.out.under hrj
    replace HSe : Hid (Sb w Vj ge Ve.heap.size gx Ud bx cx) := HSe.out.under hrj
    have HOy : Hid (Ft.FindIs (Ft.getR T q) Uj dj) := Kj.out.1
    clear hVj hrj Kj
    have HSj := HNj
    clear HNj
    go_upto_region 24 with fail
    rw [← HVj.out]
    clear HVj
    generalize wj.heap.size = gj at *
    have Cl := tget_any Uu q bu aq cu cq Vj HSu.out.fd HUz.out (HQ.out _ HSt.out.bel)
    simp only [Ft.fdV, Ft.fdA] at Cl
    have HCl : Hid _ := Cl
    clear Cl
    obtain ⟨qu0, qu1, qu2, qu3⟩ := HSu.out.at_.cellsQ
    go_wp2_with fail
    refine Calls.mono HCl.out ?_
    clear HCl qu0 qu1 qu2 qu3
    rintro e wl ⟨Ul, bl, cl, dl, rfl, Kl⟩
    have hUU := Kl.out.1
    rw [Ft.put_else HU.out HB0.out HB1.out] at hUU
    obtain ⟨hU1, hU2⟩ := Ft.find_uniq HOy.out hUU
    subst hU1
    subst hU2
    clear hUU
    simp only [Ft.fdV, Ft.fdA]
    obtain ⟨Vl, hVl⟩ : ∃ V, V = wl.alloc (.cells (Ft.fdA Uj bl cl) 25) := ⟨_, rfl⟩
    have HVl : Hid (Vl = wl.alloc (.cells #[.string Uj.nm, .int .u8 (Uj.k : Int), .string Uj.d, .slice bl Uj.kids.length cl] 25)) := hVl
    have hrl : Below Vj.heap.size Vj Vl := by rw [hVl]; exact Kl.out.2.2.alloc Kl.out.2.2.size _
    have HNl : Hid (Sb w Vl wl.heap.size Vj.heap.size wl.heap.size Uj bl cl) := by rw [hVl]; exact sb_new HSt.out.bel Kl.out.2.2 Kl.out.2.1
    have HLl : Hid (w.heap.size < wl.heap.size ∧ (w.heap.size + 1) < wl.heap.size ∧ gu < wl.heap.size ∧ gd < wl.heap.size ∧ ge < wl.heap.size ∧ gj < wl.heap.size) := by
      have hlt := HSt.out.at_.lt
      have hlf := HSf.out.at_.lt
      have hlu := HSu.out.at_.lt
      have hld := HSd.out.at_.lt
      have hle := HSe.out.at_.lt
      have hlj := HSj.out.at_.lt
      have hle := Kl.out.2.2.size
      exact ⟨by omega, by omega, by omega, by omega, by omega, by omega⟩
    replace HSt : Hid (Sb w Vl w.heap.size 0 w.heap.size T a cap) := HSt.out.under hrl
    replace HSf : Hid (Sb w Vl (w.heap.size + 1) 0 w.heap.size f fa fc) := HSf.out.under hrl
    replace HSu : Hid (Sb w Vl gu Vo.heap.size gu Uu bu cu) := HSu.out.under hrl
    replace HSd : Hid (Sb w Vl gd ws.heap.size gd Ud bd cd) := HSd.out.under hrl
    replace HSe : Hid (Sb w Vl ge Ve.heap.size gx Ud bx cx) := HSe.out.under hrl
    replace HSj : Hid (Sb w Vl gj wb1.heap.size gj Uj bj cj) := HSj.out.under hrl
    clear hVl hrl Kl
    have HSl := HNl
    clear HNl
    go_upto_region 25 with fail
    rw [← HVl.out]
    clear HVl
    generalize wl.heap.size = gl at *
    have CT := rsame_any Uj Uj bj bl cj cl Vl HSj.out.fd HSl.out.fd
    rw [Ft.sameT_refl] at CT
    have HCT : Hid _ := CT
    clear CT
    obtain ⟨qj0, qj1, qj2, qj3⟩ := HSj.out.at_.cellsQ
    obtain ⟨ql0, ql1, ql2, ql3⟩ := HSl.out.at_.cellsQ
    go_wp2_with fail
    refine Calls.mono HCT.out ?_
    clear HCT qj0 qj1 qj2 qj3 ql0 ql1 ql2 ql3
    rintro e wf ⟨rfl, bf⟩
    replace HSt : Hid (Sb w wf w.heap.size 0 w.heap.size T a cap) := HSt.out.under bf
    replace HSf : Hid (Sb w wf (w.heap.size + 1) 0 w.heap.size f fa fc) := HSf.out.under bf
    replace HSu : Hid (Sb w wf gu Vo.heap.size gu Uu bu cu) := HSu.out.under bf
    replace HSd : Hid (Sb w wf gd ws.heap.size gd Ud bd cd) := HSd.out.under bf
    replace HSe : Hid (Sb w wf ge Ve.heap.size gx Ud bx cx) := HSe.out.under bf
    replace HSj : Hid (Sb w wf gj wb1.heap.size gj Uj bj cj) := HSj.out.under bf
    replace HSl : Hid (Sb w wf gl Vj.heap.size gl Uj bl cl) := HSl.out.under bf
    clear bf HSj HSl
    have HE9 : Hid (Below w.heap.size w wf) := HSt.out.bel
    clear HSt HSf HSu HSd HSe
    go_wp2_with fail
    go_ret
    exact ⟨rfl, HE9.out⟩
  · skip
    have hn0 := Ft.get_code hgo
    have hn1 : ((n9 : Int) == 0) = false := by simp; omega
    have hn2 : ¬ ((n9 : Int) = 0) := by omega
    have hd9 := Ft.put_drop_new HU.out hgo
    rw [HE.out] at hd9
    have hd9 := Sum.inr.inj hd9
    subst hd9
    clear hgo hn0
    go_upto_region 19 with fail
    clear HSo
    have CS := rsame_any Ud Ud bd a cd cap Ve HSd.out.fd HSe.out.fd
    rw [Ft.sameT_refl] at CS
    have HCS : Hid _ := CS
    clear CS
    obtain ⟨qd0, qd1, qd2, qd3⟩ := HSd.out.at_.cellsQ
    obtain ⟨qe0, qe1, qe2, qe3⟩ := HSe.out.at_.cellsQ
    go_wp2_with fail
    refine Calls.mono HCS.out ?_
    clear HCS qd0 qd1 qd2 qd3 qe0 qe1 qe2 qe3
    rintro e wt ⟨rfl, bt⟩
    replace HSt : Hid (Sb w wt w.heap.size 0 w.heap.size Ud a cap) := HSt.out.under bt
    replace HSf : Hid (Sb w wt (w.heap.size + 1) 0 w.heap.size f fa fc) := HSf.out.under bt
    replace HSu : Hid (Sb w wt gu Vo.heap.size gu Uu bu cu) := HSu.out.under bt
    replace HSd : Hid (Sb w wt gd ws.heap.size gd Ud bd cd) := HSd.out.under bt
    replace HSe : Hid (Sb w wt ge 0 w.heap.size Ud a cap) := HSe.out.under bt
    clear bt
    have CB0 := lbelow_any (some ⟨pb, po, none⟩) aq cp cq p q wt (HP.out _ HSt.out.bel) (HQ.out _ HSt.out.bel)
    rw [HM.out] at CB0
    have HCB0 : Hid _ := CB0
    clear CB0
    go_wp2_with fail
    refine Calls.mono HCB0.out ?_
    clear HCB0
    rintro e wb0 ⟨rfl, n0, hwb0⟩
    have bb0 : Below wt.heap.size wt wb0 := by rw [hwb0]; exact bel_dn _ _
    replace HSt : Hid (Sb w wb0 w.heap.size 0 w.heap.size Ud a cap) := HSt.out.under bb0
    replace HSf : Hid (Sb w wb0 (w.heap.size + 1) 0 w.heap.size f fa fc) := HSf.out.under bb0
    replace HSu : Hid (Sb w wb0 gu Vo.heap.size gu Uu bu cu) := HSu.out.under bb0
    replace HSd : Hid (Sb w wb0 gd ws.heap.size gd Ud bd cd) := HSd.out.under bb0
    replace HSe : Hid (Sb w wb0 ge 0 w.heap.size Ud a cap) := HSe.out.under bb0
    clear bb0 hwb0
    cases hbel0 : Ft.belP p q
    rotate_left
    · clear hbel0
      have HE9 : Hid (Below w.heap.size w wb0) := HSt.out.bel
      clear HSt HSf HSu HSd HSe
      go_wp2_with fail
      go_ret
      exact ⟨rfl, HE9.out⟩
    have HB0 : Hid (Ft.belP p q = false) := hbel0
    clear hbel0
    have CB1 := lbelow_any aq (some ⟨pb, po, none⟩) cq cp q p wb0 (HQ.out _ HSt.out.bel) (HP.out _ HSt.out.bel)
    rw [HM.out] at CB1
    have HCB1 : Hid _ := CB1
    clear CB1
    go_wp2_with fail
    refine Calls.mono HCB1.out ?_
    clear HCB1
    rintro e wb1 ⟨rfl, n1, hwb1⟩
    have bb1 : Below wb0.heap.size wb0 wb1 := by rw [hwb1]; exact bel_dn _ _
    replace HSt : Hid (Sb w wb1 w.heap.size 0 w.heap.size Ud a cap) := HSt.out.under bb1
    replace HSf : Hid (Sb w wb1 (w.heap.size + 1) 0 w.heap.size f fa fc) := HSf.out.under bb1
    replace HSu : Hid (Sb w wb1 gu Vo.heap.size gu Uu bu cu) := HSu.out.under bb1
    replace HSd : Hid (Sb w wb1 gd ws.heap.size gd Ud bd cd) := HSd.out.under bb1
    replace HSe : Hid (Sb w wb1 ge 0 w.heap.size Ud a cap) := HSe.out.under bb1
    clear bb1 hwb1
    cases hbel1 : Ft.belP q p
    rotate_left
    · clear hbel1
      have HE9 : Hid (Below w.heap.size w wb1) := HSt.out.bel
      clear HSt HSf HSu HSd HSe
      go_wp2_with fail
      go_ret
      exact ⟨rfl, HE9.out⟩
    have HB1 : Hid (Ft.belP q p = false) := hbel1
    clear hbel1
    have Cj := tget_any Ud q a aq cap cq wb1 HSt.out.fd HZ.out.1 (HQ.out _ HSt.out.bel)
    simp only [Ft.fdV, Ft.fdA] at Cj
    have HCj : Hid _ := Cj
    clear Cj
    obtain ⟨qt0, qt1, qt2, qt3⟩ := HSt.out.at_.cellsQ
    go_wp2_with fail
    refine Calls.mono HCj.out ?_
    clear HCj qt0 qt1 qt2 qt3
    rintro e wj ⟨Uj, bj, cj, dj, rfl, Kj⟩
    simp only [Ft.fdV, Ft.fdA]
    obtain ⟨Vj, hVj⟩ : ∃ V, V = wj.alloc (.cells (Ft.fdA Uj bj cj) 25) := ⟨_, rfl⟩
    have HVj : Hid (Vj = wj.alloc (.cells #[.string Uj.nm, .int .u8 (Uj.k : Int), .string Uj.d, .slice bj Uj.kids.length cj] 25)) := hVj
    have hrj : Below wb1.heap.size wb1 Vj := by rw [hVj]; exact Kj.out.2.2.alloc Kj.out.2.2.size _
    have HNj : Hid (Sb w Vj wj.heap.size wb1.heap.size wj.heap.size Uj bj cj) := by rw [hVj]; exact sb_new HSt.out.bel Kj.out.2.2 Kj.out.2.1
    have HLj : Hid (w.heap.size < wj.heap.size ∧ (w.heap.size + 1) < wj.heap.size ∧ gu < wj.heap.size ∧ gd < wj.heap.size ∧ ge < wj.heap.size) := by
      have hlt := HSt.out.at_.lt
      have hlf := HSf.out.at_.lt
      have hlu := HSu.out.at_.lt
      have hld := HSd.out.at_.lt
      have hle := HSe.out.at_.lt
      have hle := Kj.out.2.2.size
      exact ⟨by omega, by omega, by omega, by omega, by omega⟩
    replace HSt : Hid (Sb w Vj w.heap.size 0 w.heap.size Ud a cap) := HSt.out.under hrj
    replace HSf : Hid (Sb w Vj (w.heap.size + 1) 0 w.heap.size f fa fc) := HSf.out.under hrj
    replace HSu : Hid (Sb w Vj gu Vo.heap.size gu Uu bu cu) := HSu.out.under hrj
    replace HSd : Hid (Sb w Vj gd ws.heap.size gd Ud bd cd) := HSd.out.under hrj
    replace HSe : Hid (Sb w Vj ge 0 w.heap.size Ud a cap) := HSe.out.under hrj
    have HOy : Hid (Ft.FindIs (Ft.getR Ud q) Uj dj) := Kj.out.1
    clear hVj hrj Kj
    have HSj := HNj
    clear HNj
    go_upto_region 24 with fail
    rw [← HVj.out]
    clear HVj
    generalize wj.heap.size = gj at *
    have Cl := tget_any Uu q bu aq cu cq Vj HSu.out.fd HUz.out (HQ.out _ HSt.out.bel)
    simp only [Ft.fdV, Ft.fdA] at Cl
    have HCl : Hid _ := Cl
    clear Cl
    obtain ⟨qu0, qu1, qu2, qu3⟩ := HSu.out.at_.cellsQ
    go_wp2_with fail
    refine Calls.mono HCl.out ?_
    clear HCl qu0 qu1 qu2 qu3
    rintro e wl ⟨Ul, bl, cl, dl, rfl, Kl⟩
    have hUU := Kl.out.1
    rw [Ft.put_else HU.out HB0.out HB1.out] at hUU
    obtain ⟨hU1, hU2⟩ := Ft.find_uniq HOy.out hUU
    subst hU1
    subst hU2
    clear hUU
    simp only [Ft.fdV, Ft.fdA]
    obtain ⟨Vl, hVl⟩ : ∃ V, V = wl.alloc (.cells (Ft.fdA Uj bl cl) 25) := ⟨_, rfl⟩
    have HVl : Hid (Vl = wl.alloc (.cells #[.string Uj.nm, .int .u8 (Uj.k : Int), .string Uj.d, .slice bl Uj.kids.length cl] 25)) := hVl
    have hrl : Below Vj.heap.size Vj Vl := by rw [hVl]; exact Kl.out.2.2.alloc Kl.out.2.2.size _
    have HNl : Hid (Sb w Vl wl.heap.size Vj.heap.size wl.heap.size Uj bl cl) := by rw [hVl]; exact sb_new HSt.out.bel Kl.out.2.2 Kl.out.2.1
    have HLl : Hid (w.heap.size < wl.heap.size ∧ (w.heap.size + 1) < wl.heap.size ∧ gu < wl.heap.size ∧ gd < wl.heap.size ∧ ge < wl.heap.size ∧ gj < wl.heap.size) := by
      have hlt := HSt.out.at_.lt
      have hlf := HSf.out.at_.lt
      have hlu := HSu.out.at_.lt
      have hld := HSd.out.at_.lt
      have hle := HSe.out.at_.lt
      have hlj := HSj.out.at_.lt
      have hle := Kl.out.2.2.size
      exact ⟨by omega, by omega, by omega, by omega, by omega, by omega⟩
    replace HSt : Hid (Sb w Vl w.heap.size 0 w.heap.size Ud a cap) := HSt.out.under hrl
    replace HSf : Hid (Sb w Vl (w.heap.size + 1) 0 w.heap.size f fa fc) := HSf.out.under hrl
    replace HSu : Hid (Sb w Vl gu Vo.heap.size gu Uu bu cu) := HSu.out.under hrl
    replace HSd : Hid (Sb w Vl gd ws.heap.size gd Ud bd cd) := HSd.out.under hrl
    replace HSe : Hid (Sb w Vl ge 0 w.heap.size Ud a cap) := HSe.out.under hrl
    replace HSj : Hid (Sb w Vl gj wb1.heap.size gj Uj bj cj) := HSj.out.under hrl
    clear hVl hrl Kl
    have HSl := HNl
    clear HNl
    go_upto_region 25 with fail
    rw [← HVl.out]
    clear HVl
    generalize wl.heap.size = gl at *
    have CT := rsame_any Uj Uj bj bl cj cl Vl HSj.out.fd HSl.out.fd
    rw [Ft.sameT_refl] at CT
    have HCT : Hid _ := CT
    clear CT
    obtain ⟨qj0, qj1, qj2, qj3⟩ := HSj.out.at_.cellsQ
    obtain ⟨ql0, ql1, ql2, ql3⟩ := HSl.out.at_.cellsQ
    go_wp2_with fail
    refine Calls.mono HCT.out ?_
    clear HCT qj0 qj1 qj2 qj3 ql0 ql1 ql2 ql3
    rintro e wf ⟨rfl, bf⟩
    replace HSt : Hid (Sb w wf w.heap.size 0 w.heap.size Ud a cap) := HSt.out.under bf
    replace HSf : Hid (Sb w wf (w.heap.size + 1) 0 w.heap.size f fa fc) := HSf.out.under bf
    replace HSu : Hid (Sb w wf gu Vo.heap.size gu Uu bu cu) := HSu.out.under bf
    replace HSd : Hid (Sb w wf gd ws.heap.size gd Ud bd cd) := HSd.out.under bf
    replace HSe : Hid (Sb w wf ge 0 w.heap.size Ud a cap) := HSe.out.under bf
    replace HSj : Hid (Sb w wf gj wb1.heap.size gj Uj bj cj) := HSj.out.under bf
    replace HSl : Hid (Sb w wf gl Vj.heap.size gl Uj bl cl) := HSl.out.under bf
    clear bf HSj HSl
    have HE9 : Hid (Below w.heap.size w wf) := HSt.out.bel
    clear HSt HSf HSu HSd HSe
    go_wp2_with fail
    go_ret
    exact ⟨rfl, HE9.out⟩
end Go.Proofs.YtgpheecapbhpkaaDoor
