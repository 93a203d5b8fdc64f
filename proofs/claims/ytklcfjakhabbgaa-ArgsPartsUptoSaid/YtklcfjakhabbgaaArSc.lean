/- What args.Script answers. -/
import Derived.Test.YtklcfjakhabbgaaArScP
import Derived.Test.YtklcfjakhabbgaaLibsC
import Derived.Test.YtklcfjakhabbgaaArRp
import Derived.BigRegion
namespace Go.Proofs.Ytklcfjakhabbgaa
open Go.RowKit

theorem join_any (X : List ByteArray) (a : Option Addr) (c : Nat) (w : World) (h : Strs w a c X) (hz : Ar.tsz X ≤ 4194304) :
    Calls Try.prog 34 #[.slice a X.length c, .string ⟨#[10]⟩] w fun e w' => e = .returned (.string (Ar.jn X)) ∧ Below w.heap.size w w' := by
  cases X with
  | nil =>
    refine (Any.strings_Join_none Try.lays156 Try.Builder_Extra_156 a c ⟨#[10]⟩ w).mono fun e w' ⟨he, hw⟩ => ⟨he, hw ▸ Below.refl _ _⟩
  | cons x X =>
    obtain ⟨b, off, rfl, hb, _⟩ := h.cells 0 (by simp)
    refine Any.strings_Join Try.lays156 Try.Builder_Extra_156 b off c (x :: X) ⟨#[10]⟩ w ?_ hb (by have := h.len; omega) h.room ?_
    · intro j y hj
      obtain ⟨hlt, rfl⟩ := List.getElem?_eq_some_iff.1 hj
      obtain ⟨b', off', e, _, hc⟩ := h.cells j hlt
      cases e
      exact hc
    · have := Ar.jn_size (x :: X)
      rw [← Ar.szL, Ar.jn_data] at this
      have e : (⟨#[10]⟩ : ByteArray).data.toList = [10] := rfl
      rw [e]
      omega
/-- The texts behind the first one. -/
theorem strs_tail {w : World} {b o c : Nat} {f : ByteArray} {G : List ByteArray} (h : Strs w (some ⟨b, o, none⟩) c (f :: G)) : Strs w (some (if c = 1 then ⟨b, o, none⟩ else ⟨b, o + 1, none⟩)) (c - 1) G := by
  have hr := h.room
  have hl := h.len
  rw [List.length_cons] at hr hl
  refine ⟨by omega, fun e => (by cases e), by omega, by have := h.most; omega, fun i hi => h.size (i + 1) (by simpa using hi), fun i hi => ?_⟩
  rw [if_neg (by omega)]
  obtain ⟨b', o', e, hb, hc⟩ := h.cells (i + 1) (by simpa using hi)
  cases e
  exact ⟨b, o + 1, rfl, hb, by rw [show o + 1 + i = o + (i + 1) by omega]; exact hc⟩
theorem slice_one_on (b off n c : Nat) (h : 1 ≤ n) (_hn : n ≤ c) (wx : World) : (Instr.slice 22 (.slice (some ⟨b, off, none⟩) n c) (some (.int .i64 1)) none none).run Try.prog wx = .ok (.slice (some (if c = 1 then ⟨b, off, none⟩ else ⟨b, off + 1, none⟩)) (n - 1) (c - 1)) wx := by
  have h1 : (1 : Int) ≤ (n : Int) := by omega
  simp [Instr.slice, Instr.sliceBounds, Instr.sliceBound, asIntOf, run_underlying Try.underlying22, go_sem, h1]
  split <;> rfl
/-- The loop's memory of Script: the texts so far, the files that are left. -/
structure ScM (w : World) (l : List Ar.Pc) (F : List ByteArray) (k m : Nat) (fa : Option Addr) (fc : Nat) (G : List ByteArray) (tv : Value) (W : World) : Prop where
  below : Below w.heap.size w W
  files : Strs W fa fc G
  af : ∀ ad : Addr, fa = some ad → G ≠ [] → ad.block < w.heap.size
  rest : G = F.drop m
  num : m = Ar.nFl (l.take k)
  le : m ≤ F.length
  row : W.ownsRow w.heap.size 9 1 tv (Ar.scTx (l.take k) F).length ((Ar.scTx (l.take k) F).map Value.string)
theorem ScM.next {w W W' : World} {l : List Ar.Pc} {F G G' : List ByteArray} {k m m' : Nat} {fa fa' : Option Addr} {fc fc' : Nat} {tv tv' : Value} (h : ScM w l F k m fa fc G tv W) (hk : k < l.length) (o1 o2 : Obj) (n : Nat) (hg : (((W.alloc o1).drewN n).alloc o2).grownBy W' tv.ownBlock) (t : ByteArray) (ht : t = if (l[k]'hk).1 then (F.drop m).headD (Ar.bs []) else (l[k]'hk).2)
    (ho : W'.ownsRow w.heap.size 9 1 tv' ((Ar.scTx (l.take k) F).length + 1) ((Ar.scTx (l.take k) F).map Value.string ++ [.string t]))
    (hf : Strs W fa' fc' G') (haf : ∀ ad : Addr, fa' = some ad → G' ≠ [] → ad.block < w.heap.size) (hG : G' = F.drop m') (hm : m' = m + (if (l[k]'hk).1 then 1 else 0)) (hle : m' ≤ F.length) : ScM w l F (k + 1) m' fa' fc' G' tv' W' := by
  have e1 : l.take (k + 1) = l.take k ++ [l[k]'hk] := List.take_succ_eq_append_getElem hk
  have hs := hg.size
  have hlt : ∀ b, tv.ownBlock = some b → w.heap.size ≤ b := fun b e => (World.ownsRow.lt h.row b e).1
  have hz := h.below.size
  have hB : Below w.heap.size w W' := by
    refine h.below.trans ⟨hg.os, hg.tape, hg.output, by simp at hs; omega, fun b hb => ?_⟩
    refine (hg.block b (by simp; omega) (fun e => by have := hlt b e.symm; omega)).trans ?_
    rw [heap_alloc_old _ o2 (by simp; omega)]
    exact heap_alloc_old W o1 (by omega)
  refine ⟨hB, ?_, haf, hG, by rw [e1, Ar.nFl_snoc, hm, h.num], hle, ?_⟩
  · cases G' with
    | nil => exact ⟨hf.len, hf.nil, hf.room, hf.most, hf.size, fun i hi => absurd hi (by simp)⟩
    | cons g G' =>
      refine hf.keep (by simp at hs; omega) (fun ad e _ => ?_)
      have h9 := haf ad e (by simp)
      refine (hg.block ad.block (by simp; omega) (fun q => by have := hlt _ q.symm; omega)).trans ?_
      rw [heap_alloc_old _ o2 (by simp; omega)]
      exact heap_alloc_old W o1 (by omega)
  · rw [e1, Ar.scTx_snoc, List.length_append, List.map_append, ← h.num, ← ht]
    exact ho
def ScIs (l : List Ar.Pc) (F : List ByteArray) (w : World) : Ending → World → Prop := fun e w' => e = .returned (.tuple #[.string (Ar.scrR l F).1, .int .i64 (Ar.scrR l F).2]) ∧ Below w.heap.size w w'

set_option maxRecDepth 100000 in
set_option maxHeartbeats 4000000 in
theorem script_any (l : List Ar.Pc) (pa : Option Addr) (pc : Nat) (F : List ByteArray) (fa : Option Addr) (fc : Nat) (w : World) (hl : Pcs w pa pc l) (hF : Strs w fa fc F) (haf : ∀ ad : Addr, fa = some ad → F ≠ [] → ad.block < w.heap.size) (hz : (l.map (fun p => p.2.size + 3)).sum + Ar.tsz F ≤ 4194304) (hll : l.length ≤ 1048576) :
    Calls Try.prog 20 #[.slice pa l.length pc, .slice fa F.length fc] w (ScIs l F w) := by
  obtain ⟨i0, hi0, hz0, hz1, hz2⟩ := info_parts Try.infoStr
  have HL : Hid _ := hl
  have HZ : Hid _ := hz
  have HM0 : Hid (ScM w l F 0 0 fa fc F (.slice none 0 0) w) := ⟨Below.refl _ _, hF, haf, rfl, rfl, Nat.zero_le _, World.ownsRow_nil _ _ _ _⟩
  clear hl hF haf hz
  go_enter Try.func20, Try.ntmps20
  go_wp2_with fail
  go_loopw [1, 6, 8, 9, 12] (fun fv tv _ _ iv wr => ∃ (k m : Nat) (fa' : Option Addr) (fc' : Nat) (G : List ByteArray), iv = .int .i64 (k : Int) ∧ k ≤ l.length ∧ fv = .slice fa' G.length fc' ∧ Hid (ScM w l F k m fa' fc' G tv wr)) (fun _ _ _ _ iv _ => l.length - (intOf iv).toNat)
  case atStart => exact ⟨0, 0, fa, fc, F, rfl, Nat.zero_le _, rfl, HM0⟩
  case round =>
    clear HM0
    obtain ⟨k, m, fa', fc', G, rfl, hk, rfl, HM⟩ := hrel
    by_cases hlt : k < l.length
    · have hd : (k : Int) < (l.length : Int) := by omega
      have hw : IntKind.i64.wrap ((k : Int) + 1) = (k : Int) + 1 := by rw [IntKind.wrap_i64]; omega
      have hlr := HL.out.below HM.out.below
      obtain ⟨bb, off, rfl, hbb, d0, d1⟩ := hlr.cells k hlt
      have hps := hlr.size _ (List.getElem_mem hlt)
      have hszr := HM.out.below.size
      have hxl : (Ar.scTx (l.take k) F).length = k := by rw [Ar.scTx_len, List.length_take]; omega
      have HXl : Hid ((Ar.scTx (l.take k) F).length ≤ 1048576) := by show _ ≤ _; omega
      clear hxl hlr
      obtain ⟨x, hx⟩ : ∃ x, x = (l[k]'hlt).2 := ⟨_, rfl⟩
      rw [← hx] at d1 hps
      have HX : Hid _ := hx
      cases hp : (l[k]'hlt).1
      · rw [hp] at d0
        have HPf : Hid _ := hp
        have HNw : Hid (∀ j u, [Value.string x][j]? = some u → ((wr.alloc (.cells #[.bool false, .string x] 45)).alloc (.cells #[.string x] 9)).cell? ((⟨wr.heap.size + 1, 0, none⟩ : Addr).add j) = some u) := by
          have := (strs_one (wr.alloc (.cells #[.bool false, .string x] 45)) x 9 hps).news
          rw [World.size_alloc] at this
          exact this
        clear hx hp
        go_wp2_with (at_builtin; refine wpList_append_own_at _ rfl (.tmp 28) (.tmp 30) 22 rfl w.heap.size 9 i0 (.string ⟨#[]⟩) 1 16 Try.underlying22 hi0 hz0 hz1 hz2 rfl (by decide) _ (Ar.scTx (l.take k) F).length ((Ar.scTx (l.take k) F).map Value.string) rfl (own_below (own_below HM.out.row (alloc_below _ _)) (alloc_below _ _)) ⟨wr.heap.size + 1, 0, none⟩ 1 1 [.string x] rfl rfl HNw.out (one_string _) (by have := HXl.out; unfold maxLen; omega) (by have := HXl.out; omega) (by simp; omega) ?_)
        intro v' w' ho1 hg1 _ _
        have HM2 : Hid (ScM w l F (k + 1) m fa' fc' G v' w') := HM.out.next hlt _ _ 0 hg1 x (by rw [HPf.out]; exact HX.out) ho1 HM.out.files HM.out.af HM.out.rest (by rw [HPf.out]; rfl) HM.out.le
        clear ho1 hg1 HNw
        go_wp2_with fail
        go_roundw
        case rel => exact ⟨k + 1, m, fa', fc', G, by simp, by omega, rfl, HM2⟩
        case measure => simp only [intOf]; omega
      · rw [hp] at d0
        have HPf : Hid _ := hp
        clear hx hp
        cases G with
        | nil =>
          have HR : Hid (Ar.scrR l F = (Ar.bs [], 2)) := by
            show _ = _
            unfold Ar.scrR
            rw [if_neg]
            intro e
            have h1 := Ar.nFl_take_le l (k + 1)
            have e1 : l.take (k + 1) = l.take k ++ [l[k]'hlt] := List.take_succ_eq_append_getElem hlt
            rw [e1, Ar.nFl_snoc, HPf.out, ← HM.out.num] at h1
            have h2 := congrArg List.length HM.out.rest
            rw [List.length_drop] at h2
            simp at h1 h2
            omega
          have hl0 : ((([] : List ByteArray).length : Int) == 0) = true := rfl
          have HBr : Hid _ := HM.out.below
          clear HM
          go_wp2_with fail
          go_ret2
          exact ⟨by rw [HR.out]; rfl, (HBr.out.alloc HBr.out.size _)⟩
        | cons f G' =>
          have hl0 : (((f :: G').length : Int) == 0) = false := by rw [beq_eq_false_iff_ne, List.length_cons]; omega
          have hF0 := HM.out.files
          obtain ⟨gb, go', rfl, hgb, e0⟩ := hF0.cells 0 (by simp)
          have hsl := fun wx => slice_one_on gb go' (f :: G').length fc' (by simp) hF0.room wx
          have hfz : f.size ≤ 1099511627776 := hF0.size 0 (by simp)
          have HT : Hid _ := strs_tail hF0
          have HAf : Hid (gb < w.heap.size) := HM.out.af _ rfl (by simp)
          obtain ⟨ta, hta⟩ : ∃ ta, ta = (if fc' = 1 then (⟨gb, go', none⟩ : Addr) else ⟨gb, go' + 1, none⟩) := ⟨_, rfl⟩
          have HTa : Hid (ta.block = gb) := by show _ = _; rw [hta]; split <;> rfl
          rw [← hta] at hsl HT
          have e0' : wr.cell? ⟨gb, go', none⟩ = some (.string f) := e0
          have hgl : 0 < (f :: G').length := by simp
          obtain ⟨n1, hn1⟩ : ∃ n1, n1 = (f :: G').length := ⟨_, rfl⟩
          have hn2 : n1 - 1 = G'.length := by rw [hn1]; simp
          rw [← hn1] at hsl hl0 hgl
          rw [hn2] at hsl
          have HN1 : Hid _ := hn1
          have HNw : Hid (∀ j u, [Value.string f][j]? = some u → ((wr.alloc (.cells #[.bool true, .string x] 45)).drew.alloc (.cells #[.string f] 9)).cell? ((⟨wr.heap.size + 1, 0, none⟩ : Addr).add j) = some u) := by
            have := (strs_one (wr.alloc (.cells #[.bool true, .string x] 45)).drew f 9 hfz).news
            rw [show (wr.alloc (.cells #[.bool true, .string x] 45)).drew.heap.size = wr.heap.size + 1 by simp] at this
            exact this
          have HMD : Hid (f = (F.drop m).headD (Ar.bs []) ∧ G' = F.drop (m + 1) ∧ m + 1 ≤ F.length) := by
            have hr := HM.out.rest
            have h2 := congrArg List.length hr
            rw [List.length_drop, List.length_cons] at h2
            refine ⟨by rw [← hr]; rfl, ?_, by omega⟩
            have := congrArg List.tail hr
            rw [List.tail_cons, List.tail_drop] at this
            exact this
          clear hta hn1 hn2 hF0 e0
          rw [← HN1.out]
          go_wp2_with fail
          go_region
          go_wp2_with (at_builtin; refine wpList_append_own_at _ rfl (.tmp 28) (.tmp 30) 22 rfl w.heap.size 9 i0 (.string ⟨#[]⟩) 1 16 Try.underlying22 hi0 hz0 hz1 hz2 rfl (by decide) _ (Ar.scTx (l.take k) F).length ((Ar.scTx (l.take k) F).map Value.string) rfl (own_below (own_below (own_below HM.out.row (alloc_below _ _)) (drewN_below _ 1)) (alloc_below _ _)) ⟨wr.heap.size + 1, 0, none⟩ 1 1 [.string f] rfl rfl HNw.out (one_string _) (by have := HXl.out; unfold maxLen; omega) (by have := HXl.out; omega) (by simp; omega) ?_)
          intro v' w' ho1 hg1 _ _
          have HM2 : Hid (ScM w l F (k + 1) (m + 1) (some ta) (fc' - 1) G' v' w') := HM.out.next hlt _ _ 1 hg1 f (by rw [HPf.out]; exact HMD.out.1) ho1 HT.out (fun ad e _ => by cases e; rw [HTa.out]; exact HAf.out) HMD.out.2.1 (by rw [HPf.out]; rfl) HMD.out.2.2
          clear ho1 hg1 HNw
          go_wp2_with fail
          go_roundw
          case rel => exact ⟨k + 1, m + 1, some ta, fc' - 1, G', by simp, by omega, rfl, HM2⟩
          case measure => simp only [intOf]; omega
    · have hd : ¬ (k : Int) < (l.length : Int) := by omega
      obtain rfl : k = l.length := by omega
      cases G with
      | nil =>
        have hl0 : ¬ (0 : Int) < (([] : List ByteArray).length : Int) := by simp
        have hN := HM.out.num
        rw [List.take_length] at hN
        have HR : Hid (Ar.scrR l F = (Ar.jn (Ar.scTx l F), 0)) := by
          show _ = _
          unfold Ar.scrR
          rw [if_pos]
          have h2 := congrArg List.length HM.out.rest
          rw [List.length_drop] at h2
          have := HM.out.le
          simp at h2
          omega
        have HRw := HM.out.row
        rw [List.take_length] at HRw
        have hbk := Ar.scTx_bulk l F
        have hTl : (Ar.scTx l F).length = l.length := Ar.scTx_len l F
        have hTs : ∀ s ∈ Ar.scTx l F, s.size ≤ 4194304 := fun s hs => by
          have : s.size + 1 ≤ Ar.tsz (Ar.scTx l F) := Ar.tsz_mem hs
          have := HZ.out
          omega
        obtain ⟨ta, tc, rfl, hst, _⟩ := own_strs HRw (by omega) (fun s hs => Nat.le_trans (hTs s hs) (by decide))
        have HJ : Hid (Calls Try.prog 34 #[.slice ta (Ar.scTx l F).length tc, .string ⟨#[10]⟩] wr _) := join_any (Ar.scTx l F) ta tc wr hst (by have := HZ.out; omega)
        have HBr : Hid _ := HM.out.below
        clear HM hN HRw hbk hst hTs
        rw [hTl] at HJ
        go_wp2_with fail
        refine Calls.mono (by first | exact HJ.out | (rw [hTl]; exact HJ.out)) ?_
        rintro e w2 ⟨rfl, hb2⟩
        have HB2 : Hid (Below w.heap.size w w2) := HBr.out.trans (hb2.mono HBr.out.size)
        clear hb2 HJ
        go_wp2_with fail
        go_ret2
        exact ⟨by rw [HR.out] <;> rfl, HB2.out⟩
      | cons f G' =>
        have hl0 : (0 : Int) < ((f :: G').length : Int) := by rw [List.length_cons]; omega
        have hN := HM.out.num
        rw [List.take_length] at hN
        have HR : Hid (Ar.scrR l F = (Ar.bs [], 2)) := by
          show _ = _
          unfold Ar.scrR
          rw [if_neg]
          intro e
          have h2 := congrArg List.length HM.out.rest
          rw [List.length_drop, List.length_cons] at h2
          omega
        have HBr : Hid _ := HM.out.below
        clear HM hN
        go_wp2_with fail
        go_ret2
        exact ⟨by rw [HR.out]; rfl, HBr.out⟩
end Go.Proofs.Ytklcfjakhabbgaa
