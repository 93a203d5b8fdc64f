/- What the reference's Behind answers. -/
import Derived.Test.YthmofbcjhfcokaaInU
import Derived.Deep.DeepCutAuto
namespace Go.Proofs.Ythmofbcjhfcokaa
open Go.RowKit

namespace In
def askF (T : List Tl) (t : Nat) : Nat := if t < (ls T).length then inp (ls T) t + 1 else if fin T < T.length then fin T + 1 else T.length
def errF (T : List Tl) (t : Nat) : Int := if t < (ls T).length then 0 else ((T[fin T]?).map (·.2)).getD 0
/-- A state's cells. -/
def bhA (err : Int) (K : Tk) (ps : Bool) (ak : Nat) (x : ByteArray × Bool) (fd : Bool) : Array Value := #[.int .i64 err, .bool K.last, .int .i64 (K.no : Int), .int .i64 (K.pl : Int), .bool K.fresh, .bool ps, .string K.data, .int .i64 (ak : Int), .string x.1, .bool x.2, .bool fd]
def bh (T : List Tl) (sep : Bool) (t : Nat) : Array Value :=
  bhA (errF T t) (if t = 0 then st0.ln else lnAt T sep t) (psd T (askF T t)) (askF T t) (if t = 0 then (⟨#[]⟩, false) else (((ls T)[t - 1]?).map (·.1)).getD (⟨#[]⟩, false)) (decide (t < (ls T).length))
end In
theorem own_ah {w : World} {base c : Nat} {e : TypeId} {a : Option Addr} {L : List Ah} (h : w.ownsRow base e 3 (.slice a L.length c) L.length (acells L)) {i : Nat} (hi : i < L.length) :
    ∃ b, a = some ⟨b, 0, none⟩ ∧ base ≤ b ∧ b < w.heap.size ∧ L.length ≤ c ∧ w.cell? ⟨b, i * 3, none⟩ = some (.string (L[i]'hi).1.1) ∧ w.cell? ⟨b, i * 3 + 1, none⟩ = some (.bool (L[i]'hi).1.2) ∧ w.cell? ⟨b, i * 3 + 2, none⟩ = some (.int .i64 ((L[i]'hi).2 : Int)) := by
  rcases h.2 with ⟨hv, hn⟩ | ⟨g, cap, cur, hv, hb, hg, hcap, hmax, hsize, htake⟩
  · omega
  · cases hv
    obtain ⟨q1, q2, q3⟩ := acells_get L i hi
    refine ⟨g, rfl, hb, lt_of_block hg, hcap, ?_, ?_, ?_⟩
    · rw [h.cellAt (i * 3) (by omega)]; exact q1
    · rw [h.cellAt (i * 3 + 1) (by omega)]; exact q2
    · rw [h.cellAt (i * 3 + 2) (by omega)]; exact q3
/-- The state in its block. -/
structure Bw (WA : World) (sb : Nat) (cs : Array Value) (w : World) : Prop where
  st : w.heap[sb]? = some (.cells cs 36)
  tu : Tu (fun k => k = sb) WA w
theorem Bw.set {WA w : World} {sb : Nat} {cs : Array Value} (h : Bw WA sb cs w) (j : Nat) (v : Value) : Bw WA sb (cs.setIfInBounds j v) (w.setCell ⟨sb, j, none⟩ v) :=
  ⟨row_set h.st j v, h.tu.set sb j rfl v⟩
theorem Bw.alloc {WA w : World} {sb : Nat} {cs : Array Value} (h : Bw WA sb cs w) (o : Obj) : Bw WA sb cs (w.alloc o) :=
  ⟨(heap_alloc_old w o (lt_of_block h.st)).trans h.st, h.tu.alloc o⟩
theorem Bw.drewN {WA w : World} {sb : Nat} {cs : Array Value} (h : Bw WA sb cs w) (n : Nat) : Bw WA sb cs (w.drewN n) := ⟨h.st, h.tu.drewN n⟩
theorem Bw.lt {WA w : World} {sb : Nat} {cs : Array Value} (h : Bw WA sb cs w) : sb < w.heap.size := lt_of_block h.st
theorem Bw.cell {WA w : World} {sb : Nat} {cs : Array Value} (h : Bw WA sb cs w) (j : Nat) : w.cell? ⟨sb, j, none⟩ = cs[j]? := cell_of_row w sb _ _ _ _ h.st
theorem Bw.free {WA w : World} {sb : Nat} {cs : Array Value} (h : Bw WA sb cs w) (j : Nat) : w.frozen? ⟨sb, j, none⟩ = false := free_row h.st j

/-- The state and the line that was taken last. -/
structure Bn (WA : World) (sb : Nat) (cs : Array Value) (nb : Nat) (o : Obj) (w : World) : Prop where
  bw : Bw WA sb cs w
  nw : w.heap[nb]? = some o
  ne : nb ≠ sb
theorem Bn.set {WA w : World} {sb nb : Nat} {cs : Array Value} {o : Obj} (h : Bn WA sb cs nb o w) (j : Nat) (v : Value) : Bn WA sb (cs.setIfInBounds j v) nb o (w.setCell ⟨sb, j, none⟩ v) :=
  ⟨h.bw.set j v, (heap_setCell_other w ⟨sb, j, none⟩ nb v h.ne).trans h.nw, h.ne⟩
theorem Bn.alloc {WA w : World} {sb nb : Nat} {cs : Array Value} {o : Obj} (h : Bn WA sb cs nb o w) (o' : Obj) : Bn WA sb cs nb o (w.alloc o') :=
  ⟨h.bw.alloc o', (heap_alloc_old w o' (lt_of_block h.nw)).trans h.nw, h.ne⟩
theorem Bn.drewN {WA w : World} {sb nb : Nat} {cs : Array Value} {o : Obj} (h : Bn WA sb cs nb o w) (n : Nat) : Bn WA sb cs nb o (w.drewN n) := ⟨h.bw.drewN n, h.nw, h.ne⟩
/-- The world behind a copy of a state. -/
abbrev cpW (w : World) (rb : Nat) (v0 v1 v2 v3 v4 v5 v6 v7 v8 v9 v10 : Value) : World := ((((((((((w.setCell ⟨rb, 0, none⟩ v0).setCell ⟨rb, 1, none⟩ v1).setCell ⟨rb, 2, none⟩ v2).setCell ⟨rb, 3, none⟩ v3).setCell ⟨rb, 4, none⟩ v4).setCell ⟨rb, 5, none⟩ v5).setCell ⟨rb, 6, none⟩ v6).setCell ⟨rb, 7, none⟩ v7).setCell ⟨rb, 8, none⟩ v8).setCell ⟨rb, 9, none⟩ v9).setCell ⟨rb, 10, none⟩ v10
theorem cpW_row {w : World} {rb : Nat} {u0 u1 u2 u3 u4 u5 u6 u7 u8 u9 u10 : Value} (h : w.heap[rb]? = some (.cells #[u0, u1, u2, u3, u4, u5, u6, u7, u8, u9, u10] 36)) (v0 v1 v2 v3 v4 v5 v6 v7 v8 v9 v10 : Value) : (cpW w rb v0 v1 v2 v3 v4 v5 v6 v7 v8 v9 v10).heap[rb]? = some (.cells #[v0, v1, v2, v3, v4, v5, v6, v7, v8, v9, v10] 36) := by
  have s0 : _ = some (Obj.cells #[v0, u1, u2, u3, u4, u5, u6, u7, u8, u9, u10] 36) := row_set h 0 v0
  have s1 : _ = some (Obj.cells #[v0, v1, u2, u3, u4, u5, u6, u7, u8, u9, u10] 36) := row_set s0 1 v1
  have s2 : _ = some (Obj.cells #[v0, v1, v2, u3, u4, u5, u6, u7, u8, u9, u10] 36) := row_set s1 2 v2
  have s3 : _ = some (Obj.cells #[v0, v1, v2, v3, u4, u5, u6, u7, u8, u9, u10] 36) := row_set s2 3 v3
  have s4 : _ = some (Obj.cells #[v0, v1, v2, v3, v4, u5, u6, u7, u8, u9, u10] 36) := row_set s3 4 v4
  have s5 : _ = some (Obj.cells #[v0, v1, v2, v3, v4, v5, u6, u7, u8, u9, u10] 36) := row_set s4 5 v5
  have s6 : _ = some (Obj.cells #[v0, v1, v2, v3, v4, v5, v6, u7, u8, u9, u10] 36) := row_set s5 6 v6
  have s7 : _ = some (Obj.cells #[v0, v1, v2, v3, v4, v5, v6, v7, u8, u9, u10] 36) := row_set s6 7 v7
  have s8 : _ = some (Obj.cells #[v0, v1, v2, v3, v4, v5, v6, v7, v8, u9, u10] 36) := row_set s7 8 v8
  have s9 : _ = some (Obj.cells #[v0, v1, v2, v3, v4, v5, v6, v7, v8, v9, u10] 36) := row_set s8 9 v9
  have s10 : _ = some (Obj.cells #[v0, v1, v2, v3, v4, v5, v6, v7, v8, v9, v10] 36) := row_set s9 10 v10
  exact s10
theorem cpW_below {A w : World} {rb : Nat} (h : Below rb A w) (v0 v1 v2 v3 v4 v5 v6 v7 v8 v9 v10 : Value) : Below rb A (cpW w rb v0 v1 v2 v3 v4 v5 v6 v7 v8 v9 v10) := by
  unfold cpW
  exact ((((((((((h.setCell (p := ⟨rb, 0, none⟩) (Nat.le_refl _) _).setCell (p := ⟨rb, 1, none⟩) (Nat.le_refl _) _).setCell (p := ⟨rb, 2, none⟩) (Nat.le_refl _) _).setCell (p := ⟨rb, 3, none⟩) (Nat.le_refl _) _).setCell (p := ⟨rb, 4, none⟩) (Nat.le_refl _) _).setCell (p := ⟨rb, 5, none⟩) (Nat.le_refl _) _).setCell (p := ⟨rb, 6, none⟩) (Nat.le_refl _) _).setCell (p := ⟨rb, 7, none⟩) (Nat.le_refl _) _).setCell (p := ⟨rb, 8, none⟩) (Nat.le_refl _) _).setCell (p := ⟨rb, 9, none⟩) (Nat.le_refl _) _).setCell (p := ⟨rb, 10, none⟩) (Nat.le_refl _) _
/-- The cells of a state. -/
theorem bh_cells {w : World} {sb : Nat} {er : Int} {K : In.Tk} {ps : Bool} {ak : Nat} {x : ByteArray × Bool} {fd : Bool} (h : w.heap[sb]? = some (.cells (In.bhA er K ps ak x fd) 36)) :
    w.cell? ⟨sb, 0, none⟩ = some (.int .i64 er) ∧ w.cell? ⟨sb, 1, none⟩ = some (.bool K.last) ∧ w.cell? ⟨sb, 2, none⟩ = some (.int .i64 (K.no : Int)) ∧ w.cell? ⟨sb, 3, none⟩ = some (.int .i64 (K.pl : Int)) ∧ w.cell? ⟨sb, 4, none⟩ = some (.bool K.fresh) ∧ w.cell? ⟨sb, 5, none⟩ = some (.bool ps) ∧ w.cell? ⟨sb, 6, none⟩ = some (.string K.data) ∧ w.cell? ⟨sb, 7, none⟩ = some (.int .i64 (ak : Int)) ∧ w.cell? ⟨sb, 8, none⟩ = some (.string x.1) ∧ w.cell? ⟨sb, 9, none⟩ = some (.bool x.2) ∧ w.cell? ⟨sb, 10, none⟩ = some (.bool fd) := by
  refine ⟨?_, ?_, ?_, ?_, ?_, ?_, ?_, ?_, ?_, ?_, ?_⟩ <;> (rw [cell_of_row w sb _ _ _ _ h]; rfl)

set_option maxRecDepth 100000 in
set_option maxHeartbeats 1000000 in
theorem behind_any (a : Option Addr) (cap : Nat) (T : List In.Tl) (sep : Bool) (t : Nat) (w : World) (h : Tls w a cap T) (hT : T.length ≤ 1024) (hz : In.tsz T ≤ 1048576) (ht : t ≤ (In.ls T).length) :
    Calls Try.prog 10 #[.slice a T.length cap, .int .i64 (t : Int), .bool sep] w fun e w' => e = .returned (.agg (In.bh T sep t)) ∧ Below w.heap.size w w' := by
  have HTls : Hid (Tls w a cap T) := h
  have HA : Hid (∀ w1, Tls w1 a cap T → _) := fun w1 h1 => ahead_any a cap T w1 h1 (by omega) hz
  clear h
  go_enter Try.func10, Try.ntmps10
  have hlen : (In.ls T).length ≤ 1048576 := Nat.le_trans (In.ahF_len T 0) hz
  have hcap : T.length ≤ cap := HTls.out.room
  obtain ⟨er, her⟩ : ∃ er, er = In.errF T t := ⟨_, rfl⟩
  obtain ⟨ak, hak⟩ : ∃ ak, ak = In.askF T t := ⟨_, rfl⟩
  have HER : Hid _ := her
  have HAK : Hid _ := hak
  have hfl := In.fin_le T
  have HIN : Hid (∀ i (hi : i < (In.ls T).length), ((In.ls T)[i]'hi).2 < T.length) := fun i hi => by have := In.ahF_ge T 0 _ (List.getElem_mem hi); omega
  have hakl : ak ≤ T.length := by
    rw [hak]
    unfold In.askF
    split
    · rename_i hc
      rw [In.inp_at hc]
      exact HIN.out t hc
    · split <;> omega
  obtain ⟨L, hL⟩ : ∃ L, L = In.ls T := ⟨_, rfl⟩
  have HL : Hid _ := hL
  rw [← hL] at ht hlen HIN
  have HA0 : Hid _ := HA.out (w.alloc (.cells (In.bhA 0 In.st0.ln false 0 (⟨#[]⟩, false) false) 36)) (HTls.out.tu (O := fun _ => False) ((Tu.refl _ _).alloc _) (fun _ _ e => e))
  rw [← hL] at HA0
  obtain ⟨f, hf⟩ : ∃ f, f = In.fin T := ⟨_, rfl⟩
  rw [← hf] at HA0 hfl
  have HF : Hid _ := hf
  clear hL HA hf her hak
  go_upto_if 27 with (go_at_call 25; refine Calls.mono HA0.out ?_; rintro e w1 ⟨v, rfl, ho, hb⟩; (obtain ⟨a1, c1, hv⟩ := own_slice ho); (subst hv))
  have HO : Hid _ := ho
  have HB : Hid _ := hb
  clear ho hb HA0
  have hsz1 : w.heap.size + 1 ≤ w1.heap.size := by have := HB.out.size; simpa using this
  go_cut [] (fun wx => Hid (Bw w1 w1.heap.size (In.bhA er In.st0.ln false ak (⟨#[]⟩, false) false) wx))
  case first =>
    by_cases c3 : t < L.length
    · obtain ⟨g1, rfl, hg0, hg1, hlc, r0, r1, r2⟩ := own_ah HO.out c3
      have HQ : Hid (er = 0 ∧ ak = (L[t]'c3).2 + 1) := by
        have e := HL.out
        subst e
        refine ⟨?_, ?_⟩
        · rw [HER.out]; unfold In.errF; rw [if_pos c3]
        · rw [HAK.out]; unfold In.askF; rw [if_pos c3, In.inp_at c3]
      have hpl := HIN.out t c3
      generalize L[t]'c3 = x at *
      obtain ⟨x1, x2⟩ := x
      have hw : IntKind.i64.wrap ((x2 : Int) + 1) = (ak : Int) := by rw [IntKind.wrap_i64, HQ.out.2]; simp only at hpl; omega
      have c3i : (t : Int) < (L.length : Int) := by omega
      go_wp2_with fail
      go_meet
      case rel =>
        show Bw _ _ _ _
        rw [HQ.out.1]
        exact ⟨heap_alloc_new w1 _, (Tu.refl _ w1).alloc _⟩
    · have c3i : ¬ (t : Int) < (L.length : Int) := by omega
      by_cases c4 : f < T.length
      · have c4i : (f : Int) < (T.length : Int) := by omega
        have HQ : Hid (er = (T[f]'c4).2 ∧ ak = f + 1) := by
          have e := HL.out
          have e2 := HF.out
          subst e; subst e2
          refine ⟨?_, ?_⟩
          · rw [HER.out]; unfold In.errF; rw [if_neg c3, List.getElem?_eq_getElem c4]; rfl
          · rw [HAK.out]; unfold In.askF; rw [if_neg c3, if_pos c4]
        obtain ⟨b, off, rfl, hb0, d1, d2⟩ := HTls.out.cells f c4
        have e1 : w1.cell? ⟨b, off + f * 2 + 1, none⟩ = some (.int .i64 (T[f]'c4).2) := by
          refine (HB.out.cell (p := ⟨b, off + f * 2 + 1, none⟩) (by simp; omega)).trans ?_
          exact ((alloc_below w _).cell (p := ⟨b, off + f * 2 + 1, none⟩) hb0).trans d2
        have hbl : b < w1.heap.size := by omega
        have hbn : ¬ b = w1.heap.size := by omega
        generalize T[f]'c4 = x at *
        obtain ⟨x1, x2⟩ := x
        have hw : IntKind.i64.wrap ((f : Int) + 1) = (ak : Int) := by rw [IntKind.wrap_i64, HQ.out.2]; omega
        clear d1 d2
        go_wp2_with fail
        go_meet
        case rel =>
          show Bw _ _ _ _
          rw [HQ.out.1]
          exact ⟨heap_alloc_new w1 _, (Tu.refl _ w1).alloc _⟩
      · have c4i : ¬ (f : Int) < (T.length : Int) := by omega
        have HQ : Hid (er = 0 ∧ ak = T.length) := by
          have e := HL.out
          have e2 := HF.out
          subst e; subst e2
          refine ⟨?_, ?_⟩
          · rw [HER.out]; unfold In.errF; rw [if_neg c3, List.getElem?_eq_none (by omega)]; rfl
          · rw [HAK.out]; unfold In.askF; rw [if_neg c3, if_neg c4]
        go_wp2_with fail
        go_meet
        case rel =>
          show Bw _ _ _ _
          rw [HQ.out.1, HQ.out.2]
          exact ⟨heap_alloc_new w1 _, (Tu.refl _ w1).alloc _⟩
  case rest =>
    have HW0 : Hid (Bw w1 w1.heap.size (In.bhA er In.st0.ln false ak (⟨#[]⟩, false) false) wc) := hcut
    have y7 := (HW0.out.cell 7).trans (rfl : _ = some (Value.int .i64 (ak : Int)))
    have hlw := HW0.out.lt
    have hcapi : (ak : Int) ≤ (cap : Int) := by omega
    have hakc : ak ≤ cap := by omega
    clear hcut
    have HT1 : Hid (Tls w1 a cap T) := by
      refine HTls.out.tu (O := fun _ => False) ?_ (fun _ _ e => e)
      exact ((Tu.refl _ w).alloc _).trans (O' := fun _ => False) (Tu.of_below HB.out) (fun _ _ e => e)
    go_upto_region 9 with fail
    go_cut [51, 52, 53] (fun v1 v2 v3 wx => wx = wc ∧ v2 = .int .i64 (ak : Int) ∧ v3 = .int .i64 0 ∧ Hid (∀ k, k < ak → ∃ b off, v1 = .slice (some ⟨b, off, none⟩) ak cap ∧ b < w1.heap.size ∧ ∃ hk : k < T.length, w1.cell? ⟨b, off + k * 2, none⟩ = some (.string (T[k]'hk).1) ∧ w1.cell? ⟨b, off + k * 2 + 1, none⟩ = some (.int .i64 (T[k]'hk).2)))
    case first =>
      by_cases h0 : 0 < T.length
      · obtain ⟨b, off, rfl, hb0, _, _⟩ := HT1.out.cells 0 h0
        have hc0 : ¬ cap = 0 := by omega
        go_wp2_with fail
        go_meet
        case rel =>
          refine ⟨rfl, rfl, rfl, fun k hk => ?_⟩
          obtain ⟨b', off', e, hb', d1, d2⟩ := HT1.out.cells k (by omega)
          cases e
          exact ⟨b, off, by simp, hb0, by omega, d1, d2⟩
      · have hak0 : ak = 0 := by omega
        subst hak0
        go_wp2_with fail
        go_meet
        case rel => exact ⟨rfl, by simp, rfl, fun k hk => absurd hk (by omega)⟩
    case rest =>
      obtain ⟨rfl, rfl, rfl, HV⟩ := hcut
      go_wp2_with fail
      go_loopw [53] (fun i wr => ∃ k : Nat, k ≤ ak ∧ i = .int .i64 k ∧ Hid (Bw w1 w1.heap.size (In.bhA er In.st0.ln (In.psd T k) ak (⟨#[]⟩, false) false) wr)) (fun i _ => ak - (intOf i).toNat)
      case atStart => exact ⟨0, Nat.zero_le _, rfl, HW0⟩
      case round =>
        obtain ⟨k, hk, rfl, HW⟩ := hrel
        have hlr := HW.out.lt
        by_cases hlt : k < ak
        · obtain ⟨b, off, hv, hb1, hkT, d1, d2⟩ := HV.out k hlt
          have e1 := (HW.out.tu.cell hb1 (by omega)).trans d1
          have e2 := (HW.out.tu.cell hb1 (by omega)).trans d2
          have HPS : Hid (In.psd T (k + 1) = (In.psd T k || ((T[k]'hkT).2 == 31))) := In.psd_step hkT
          generalize T[k]'hkT = x at *
          obtain ⟨x1, x2⟩ := x
          have y5 := (HW.out.cell 5).trans (rfl : _ = some (Value.bool (In.psd T k)))
          have f5 := HW.out.free 5
          have hbr : b < wr.heap.size := by omega
          have hbn : ¬ b = w1.heap.size := by omega
          have hki : (k : Int) < (ak : Int) := by omega
          have nw : ¬ w1.heap.size = wr.heap.size := by omega
          have nw' : ¬ wr.heap.size = w1.heap.size := by omega
          have HN : Hid (∀ q, In.psd T (k + 1) = q → ∀ o, Bw w1 w1.heap.size (In.bhA er In.st0.ln (In.psd T (k + 1)) ak (⟨#[]⟩, false) false) ((wr.setCell ⟨w1.heap.size, 5, none⟩ (.bool q)).alloc o)) := fun q e o => by rw [e]; exact (HW.out.set 5 (.bool q)).alloc o
          subst hv
          clear d1 d2
          cases hp : In.psd T k
          · cases k31 : (x2 == 31)
            · have HE : Hid (In.psd T (k + 1) = false) := by show _ = _; rw [HPS.out, hp, k31]; rfl
              go_wp2_with fail
              go_roundw
              case rel => exact ⟨k + 1, by omega, by go_num, HN.out false HE.out _⟩
              case measure => simp [intOf]; omega
            · have HE : Hid (In.psd T (k + 1) = true) := by show _ = _; rw [HPS.out, hp, k31]; rfl
              go_wp2_with fail
              go_roundw
              case rel => exact ⟨k + 1, by omega, by go_num, HN.out true HE.out _⟩
              case measure => simp [intOf]; omega
          · have HE : Hid (In.psd T (k + 1) = true) := by show _ = _; rw [HPS.out, hp]; rfl
            go_wp2_with fail
            go_roundw
            case rel => exact ⟨k + 1, by omega, by go_num, HN.out true HE.out _⟩
            case measure => simp [intOf]; omega
        · obtain rfl : k = ak := by omega
          have hki : ¬ (k : Int) < (k : Int) := by omega
          have hrb : wr.heap[w.heap.size]? = some (.cells (In.bhA 0 In.st0.ln false 0 (⟨#[]⟩, false) false) 36) := by
            rw [HW.out.tu.block w.heap.size (by omega) (by omega), HB.out.block w.heap.size (by simp)]
            exact heap_alloc_new w _
          have HRB : Hid _ := hrb
          have HBW : Hid (Below w.heap.size w wr) := by
            have h1 : Below w.heap.size w w1 := below_up (alloc_below w _) HB.out (Nat.le_refl _)
            exact below_tr h1 (HW.out.tu.below h1.size (fun q e => by omega))
          obtain ⟨y0, y1, y2, y3, y4, y5, y6, y7', y8, y9, y10⟩ := bh_cells HW.out.st
          obtain ⟨r0, r1, r2, r3, r4, r5, r6, r7, r8, r9, r10⟩ := bh_cells hrb
          have g10 := HW.out.free 10
          have nr : ¬ w.heap.size = w1.heap.size := by omega
          have nr' : ¬ w1.heap.size = w.heap.size := by omega
          have hrlt : w.heap.size < wr.heap.size := by omega
          obtain ⟨ps, hps⟩ : ∃ ps, ps = In.psd T k := ⟨_, rfl⟩
          by_cases t0 : t = 0
          · have ti : ((t : Int) == 0) = true := by simp [t0]
            obtain ⟨fd, hfd⟩ : ∃ fd, fd = decide ((t : Int) < (L.length : Int)) := ⟨_, rfl⟩
            have hfd' : decide ((t : Int) < (L.length : Int)) = fd := hfd.symm
            have q0 := free_row hrb 0
            have q1 := free_row hrb 1
            have q2 := free_row hrb 2
            have q3 := free_row hrb 3
            have q4 := free_row hrb 4
            have q5 := free_row hrb 5
            have q6 := free_row hrb 6
            have q7 := free_row hrb 7
            have q8 := free_row hrb 8
            have q9 := free_row hrb 9
            have q10 := free_row hrb 10
            have HFD : Hid _ := hfd
            have HT0 : Hid _ := t0
            clear hrb hfd hfd' t0
            go_wp2_with fail
            refine bodyPost_ret (results_cell_row rfl _ _ w.heap.size _ (In.bhA er In.st0.ln (In.psd T k) k (⟨#[]⟩, false) (decide (t < L.length))) _ _ rfl (cpW_row (w := wr.setCell ⟨w1.heap.size, 10, none⟩ (.bool (decide (t < L.length)))) ((heap_setCell_other wr _ _ _ nr).trans HRB.out) _ _ _ _ _ _ _ _ _ _ _) Try.underlying36 rfl (by kernel_rfl)) rfl ?_
            refine ⟨?_, cpW_below (HBW.out.setCell (p := ⟨w1.heap.size, 10, none⟩) (by show w.heap.size ≤ w1.heap.size; omega) _) _ _ _ _ _ _ _ _ _ _ _⟩
            have e1 := HT0.out
            unfold In.bh
            rw [if_pos e1, if_pos e1, ← HER.out, ← HAK.out, ← HL.out]
          · have ti : ((t : Int) == 0) = false := by simp; omega
            obtain ⟨u, hu⟩ : ∃ u, u = t - 1 := ⟨_, rfl⟩
            have hul : u < L.length := by omega
            have hw : IntKind.i64.wrap ((t : Int) - 1) = (u : Int) := by rw [IntKind.wrap_i64]; omega
            obtain ⟨g1, ha1, hg0, hg1, hlc, z0, z1, z2⟩ := own_ah HO.out hul
            subst ha1
            have hpT := HIN.out u hul
            obtain ⟨b, off, ha, hb0, d1, d2⟩ := HT1.out.cells _ hpT
            subst ha
            have HD : Hid (∃ hp : (L[u]'hul).2 < T.length, _) := ⟨hpT, rfl⟩
            have s0 := (HW.out.tu.cell hg1 (by omega)).trans z0
            have s1 := (HW.out.tu.cell hg1 (by omega)).trans z1
            have s2 := (HW.out.tu.cell hg1 (by omega)).trans z2
            have s3 := (HW.out.tu.cell hb0 (by omega)).trans d1
            have HX : Hid ((L[u]'hul) = (L[u]'hul)) := rfl
            obtain ⟨D, hD⟩ : ∃ D, D = (T[(L[u]'hul).2]'hpT).1 := ⟨_, rfl⟩
            rw [← hD] at s3
            obtain ⟨X, hX⟩ : ∃ X, X = L[u]'hul := ⟨_, rfl⟩
            have HXL : Hid (L[u]? = some X) := by show _ = _; rw [List.getElem?_eq_getElem hul, hX]
            have HDT : Hid ((T[X.2]?).map (·.1) = some D) := by
              show _ = _
              rw [hX, List.getElem?_eq_getElem hpT, hD]; rfl
            rw [← hX] at s0 s1 s2 s3 hpT
            obtain ⟨⟨x1, x2⟩, p⟩ := X
            simp only at s0 s1 s2 s3 hpT
            have hpi : (p : Int) < (T.length : Int) := by omega
            have hui : (u : Int) < (L.length : Int) := by omega
            have g3 := HW.out.free 3
            have g6 := HW.out.free 6
            have g8 := HW.out.free 8
            have g9 := HW.out.free 9
            have n1 : ¬ g1 = w1.heap.size := by omega
            have n2 : ¬ b = w1.heap.size := by omega
            have hg1r : g1 < wr.heap.size := by omega
            have hbr : b < wr.heap.size := by omega
            have n3 : ¬ wr.heap.size = w1.heap.size := by omega
            have n4 : ¬ w1.heap.size = wr.heap.size := by omega
            have HU : Hid (u = t - 1) := hu
            have HPS : Hid (ps = In.psd T k) := hps
            clear hX hD HD HX z0 z1 z2 d1 d2 hps hu r0 r1 r2 r3 r4 r5 r6 r7 r8 r9 r10
            go_upto_region 20 with fail
            go_cut [] (fun wx => Hid (Bn w1 w1.heap.size (In.bhA er ⟨p, 0, false, false, D⟩ (In.psd T k) k (x1, x2) (decide (t < L.length))) wr.heap.size (.cells #[.string x1, .bool x2, .int .i64 (p : Int)] 65) wx))
            case first =>
              go_wp2_with fail
              go_meet
              case rel =>
                refine ⟨?_, ?_, n3⟩
                · exact (((((HW.out.set 10 _).set 8 _).set 9 _).set 3 _).set 6 _).alloc _
                · have := heap_alloc_new (((((wr.setCell ⟨w1.heap.size, 10, none⟩ (.bool (decide (t < L.length)))).setCell ⟨w1.heap.size, 8, none⟩ (.string x1)).setCell ⟨w1.heap.size, 9, none⟩ (.bool x2)).setCell ⟨w1.heap.size, 3, none⟩ (.int .i64 (p : Int))).setCell ⟨w1.heap.size, 6, none⟩ (.string D)) (.cells #[.string x1, .bool x2, .int .i64 (p : Int)] 65)
                  rw [show (((((wr.setCell ⟨w1.heap.size, 10, none⟩ (.bool (decide (t < L.length)))).setCell ⟨w1.heap.size, 8, none⟩ (.string x1)).setCell ⟨w1.heap.size, 9, none⟩ (.bool x2)).setCell ⟨w1.heap.size, 3, none⟩ (.int .i64 (p : Int))).setCell ⟨w1.heap.size, 6, none⟩ (.string D)).heap.size = wr.heap.size by simp] at this
                  exact this
            case rest =>
              have HN0 : Hid (Bn w1 w1.heap.size (In.bhA er ⟨p, 0, false, false, D⟩ (In.psd T k) k (x1, x2) (decide (t < L.length))) wr.heap.size (.cells #[.string x1, .bool x2, .int .i64 (p : Int)] 65) wc) := hcut
              have hrn : Hid (w1.heap.size < wr.heap.size) := hlr
              clear hcut s0 s1 s2 s3 y0 y1 y2 y3 y4 y5 y6 y7' y8 y9 y10 g10 g3 g6 g8 g9 hg1r hbr n4 HW hlr
              generalize wr.heap.size = nb at *
              obtain ⟨LS, hLS⟩ : ∃ LS, LS = (decide (t = L.length) || (sep && decide (In.inp L t ≠ p))) := ⟨_, rfl⟩
              have HLS : Hid _ := hLS
              clear hLS
              obtain ⟨wd, hwd⟩ : ∃ wd, wd = wc := ⟨_, rfl⟩
              rw [← hwd] at HN0
              have HWD : Hid _ := hwd
              clear hwd
              go_upto_region 21 with fail
              go_cut [] (fun wx => Hid (Bn w1 w1.heap.size (In.bhA er ⟨p, 0, LS, false, D⟩ (In.psd T k) k (x1, x2) (decide (t < L.length))) nb (.cells #[.string x1, .bool x2, .int .i64 (p : Int)] 65) wx))
              case first =>
                have hwd := HWD.out
                subst hwd
                have v2 : wd.cell? ⟨nb, 2, none⟩ = some (.int .i64 (p : Int)) := by rw [cell_of_row wd _ _ _ _ _ HN0.out.nw]; rfl
                have v1 := (HN0.out.bw.cell 1).trans (rfl : _ = some (Value.bool false))
                have m1 := HN0.out.bw.free 1
                have hlw2 := HN0.out.bw.lt
                have hln2 : nb < wd.heap.size := lt_of_block HN0.out.nw
                by_cases ct : t = L.length
                · have HE : Hid (LS = true) := by show _ = _; rw [HLS.out, decide_eq_true ct]; rfl
                  have cti : ((t : Int) == (L.length : Int)) = true := by simp [ct]
                  have HCT : Hid _ := ct
                  clear ct
                  go_wp2_with fail
                  go_region
                  all_goals
                    go_wp2_with fail
                    go_meet
                    case rel =>
                      show Bn _ _ _ _ _ _
                      rw [HE.out]
                      exact (HN0.out.set 1 _).drewN 1
                · have cti : ((t : Int) == (L.length : Int)) = false := by simp; omega
                  have ctl : t < L.length := by omega
                  obtain ⟨g1', ha1', _, hg1', _, _, _, z2⟩ := own_ah HO.out ctl
                  cases ha1'
                  have s2 := (HN0.out.bw.tu.cell hg1' (by omega)).trans z2
                  have HQI : Hid (In.inp L t = (L[t]'ctl).2) := In.inp_at ctl
                  generalize L[t]'ctl = Y at *
                  obtain ⟨⟨y1, y2⟩, q⟩ := Y
                  simp only at s2
                  have cdi : (t : Int) < (L.length : Int) := by omega
                  have hgr : g1 < wd.heap.size := by omega
                  have HCT : Hid _ := ct
                  have HE0 : Hid (LS = (sep && decide (q ≠ p))) := by show _ = _; rw [HLS.out, HQI.out, decide_eq_false ct, Bool.false_or]
                  clear ct z2
                  cases hse : sep
                  · have HE : Hid (LS = false) := by show _ = _; rw [HE0.out, hse]; rfl
                    subst hse
                    go_wp2_with fail
                    go_region
                    all_goals
                      go_wp2_with fail
                      go_meet
                      case rel =>
                        show Bn _ _ _ _ _ _
                        rw [HE.out]
                        exact (HN0.out.set 1 _).drewN 1
                  · subst hse
                    cases kq : ((q : Int) != (p : Int))
                    · have HE : Hid (LS = false) := by show _ = _; rw [HE0.out]; simp at kq; simp; omega
                      go_wp2_with fail
                      go_region
                      all_goals
                        go_wp2_with fail
                        go_meet
                        case rel =>
                          show Bn _ _ _ _ _ _
                          rw [HE.out]
                          exact (HN0.out.set 1 _).drewN 1
                    · have HE : Hid (LS = true) := by show _ = _; rw [HE0.out]; simp at kq; simp; omega
                      go_wp2_with fail
                      go_region
                      all_goals
                        go_wp2_with fail
                        go_meet
                        case rel =>
                          show Bn _ _ _ _ _ _
                          rw [HE.out]
                          exact (HN0.out.set 1 _).drewN 1
              case rest =>
                have HN1 : Hid (Bn w1 w1.heap.size (In.bhA er ⟨p, 0, LS, false, D⟩ (In.psd T k) k (x1, x2) (decide (t < L.length))) nb (.cells #[.string x1, .bool x2, .int .i64 (p : Int)] 65) wc) := hcut
                clear hcut HN0 HWD
                obtain ⟨FR, hFR⟩ : ∃ FR, FR = (decide (1 < t) && decide (In.inp L (t - 2) ≠ p)) := ⟨_, rfl⟩
                have HFR : Hid _ := hFR
                clear hFR
                obtain ⟨we, hwe⟩ : ∃ we, we = wc := ⟨_, rfl⟩
                rw [← hwe] at HN1
                have HWE : Hid _ := hwe
                clear hwe
                go_upto_region 22 with fail
                go_cut [] (fun wx => Hid (Bn w1 w1.heap.size (In.bhA er ⟨p, 0, LS, FR, D⟩ (In.psd T k) k (x1, x2) (decide (t < L.length))) nb (.cells #[.string x1, .bool x2, .int .i64 (p : Int)] 65) wx))
                case first =>
                  have hwe := HWE.out
                  subst hwe
                  have v2 : we.cell? ⟨nb, 2, none⟩ = some (.int .i64 (p : Int)) := by rw [cell_of_row we _ _ _ _ _ HN1.out.nw]; rfl
                  have v4 := (HN1.out.bw.cell 4).trans (rfl : _ = some (Value.bool false))
                  have m4 := HN1.out.bw.free 4
                  have hlw2 := HN1.out.bw.lt
                  have hln2 : nb < we.heap.size := lt_of_block HN1.out.nw
                  by_cases c1t : 1 < t
                  · have c1i : (1 : Int) < (t : Int) := by omega
                    have c1d : decide ((1 : Int) < (t : Int)) = true := by simp; omega
                    obtain ⟨r, hr⟩ : ∃ r, r = t - 2 := ⟨_, rfl⟩
                    have hrl : r < L.length := by omega
                    have hw2 : IntKind.i64.wrap ((t : Int) - 2) = (r : Int) := by rw [IntKind.wrap_i64]; omega
                    obtain ⟨g1', ha1', _, hg1', _, _, _, z2⟩ := own_ah HO.out hrl
                    cases ha1'
                    have s2 := (HN1.out.bw.tu.cell hg1' (by omega)).trans z2
                    have HQI : Hid (In.inp L (t - 2) = (L[r]'hrl).2) := by show _ = _; rw [← hr]; exact In.inp_at hrl
                    generalize L[r]'hrl = Y at *
                    obtain ⟨⟨y1, y2⟩, q⟩ := Y
                    simp only at s2
                    have cdi : (r : Int) < (L.length : Int) := by omega
                    have hgr : g1 < we.heap.size := by omega
                    have HE0 : Hid (FR = decide (q ≠ p)) := by show _ = _; rw [HFR.out, HQI.out, decide_eq_true c1t, Bool.true_and]
                    clear z2 hr
                    cases kq : ((q : Int) != (p : Int))
                    · have HE : Hid (FR = false) := by show _ = _; rw [HE0.out]; simp at kq; simp; omega
                      go_wp2_with fail
                      go_region
                      all_goals
                        go_wp2_with fail
                        go_meet
                        case rel =>
                          show Bn _ _ _ _ _ _
                          rw [HE.out]
                          exact (HN1.out.set 4 _).drewN 1
                    · have HE : Hid (FR = true) := by show _ = _; rw [HE0.out]; simp at kq; simp; omega
                      go_wp2_with fail
                      go_region
                      all_goals
                        go_wp2_with fail
                        go_meet
                        case rel =>
                          show Bn _ _ _ _ _ _
                          rw [HE.out]
                          exact (HN1.out.set 4 _).drewN 1
                  · have c1i : ¬ (1 : Int) < (t : Int) := by omega
                    have c1d : decide ((1 : Int) < (t : Int)) = false := by simp; omega
                    have HE : Hid (FR = false) := by show _ = _; rw [HFR.out, decide_eq_false c1t]; rfl
                    go_wp2_with fail
                    go_region
                    all_goals
                      go_wp2_with fail
                      go_meet
                      case rel =>
                        show Bn _ _ _ _ _ _
                        rw [HE.out]
                        exact (HN1.out.set 4 _).drewN 1
                case rest =>
                  have HN2 : Hid (Bn w1 w1.heap.size (In.bhA er ⟨p, In.num L sep 0 p, LS, FR, D⟩ (In.psd T k) k (x1, x2) (decide (t < L.length))) nb (.cells #[.string x1, .bool x2, .int .i64 (p : Int)] 65) wc) := by
                    have e : In.num L sep 0 p = 0 := by simp [In.num]
                    show Bn _ _ _ _ _ _
                    rw [e]
                    exact hcut.out
                  have HRB1 : Hid (w1.heap[w.heap.size]? = some (.cells (In.bhA 0 In.st0.ln false 0 (⟨#[]⟩, false) false) 36)) := by
                    show _ = _
                    rw [HB.out.block w.heap.size (by simp)]
                    exact heap_alloc_new w _
                  have HBW1 : Hid (Below w.heap.size w w1) := below_up (alloc_below w _) HB.out (Nat.le_refl _)
                  clear hcut HN1 HWE HRB HBW hrb
                  have htc : t ≤ c1 := by omega
                  have htci : (t : Int) ≤ (c1 : Int) := by omega
                  have hc1 : ¬ c1 = 0 := by omega
                  have htm : t ≤ 1048576 := by omega
                  go_wp2_with fail
                  go_loopw [128] (fun i wr => ∃ j : Nat, j ≤ t ∧ i = .int .i64 j ∧ Hid (Bn w1 w1.heap.size (In.bhA er ⟨p, In.num L sep j p, LS, FR, D⟩ (In.psd T k) k (x1, x2) (decide (t < L.length))) nb (.cells #[.string x1, .bool x2, .int .i64 (p : Int)] 65) wr)) (fun i _ => t - (intOf i).toNat)
                  case atStart => exact ⟨0, Nat.zero_le _, rfl, HN2⟩
                  case round =>
                    obtain ⟨j, hj, rfl, HJ⟩ := hrel
                    have hjr := HJ.out.bw.lt
                    have hnr : nb < wr.heap.size := lt_of_block HJ.out.nw
                    by_cases hjt : j < t
                    · have hjL : j < L.length := by omega
                      obtain ⟨g1', ha1', _, hg1', _, z0, z1, z2⟩ := own_ah HO.out hjL
                      cases ha1'
                      have s0 := (HJ.out.bw.tu.cell hg1' (by omega)).trans z0
                      have s1 := (HJ.out.bw.tu.cell hg1' (by omega)).trans z1
                      have s2 := (HJ.out.bw.tu.cell hg1' (by omega)).trans z2
                      have HNS : Hid (In.num L sep (j + 1) p = In.num L sep j p + if (!sep || (L[j]'hjL).2 == p) = true then 1 else 0) := In.num_step hjL sep p
                      have hnl := In.num_le L sep j p
                      generalize L[j]'hjL = Y at *
                      obtain ⟨⟨y1, y2⟩, q⟩ := Y
                      simp only at s0 s1 s2
                      have v2 : wr.cell? ⟨nb, 2, none⟩ = some (.int .i64 (p : Int)) := by rw [cell_of_row wr _ _ _ _ _ HJ.out.nw]; rfl
                      have u2 := (HJ.out.bw.cell 2).trans (rfl : _ = some (Value.int .i64 (In.num L sep j p : Int)))
                      have m2 := HJ.out.bw.free 2
                      have hji : (j : Int) < (t : Int) := by omega
                      have hgr : g1 < wr.heap.size := by omega
                      have n5 : ¬ nb = wr.heap.size := by omega
                      have n6 : ¬ w1.heap.size = wr.heap.size := by omega
                      have n7 : ¬ wr.heap.size = w1.heap.size := by omega
                      have n8 : ¬ wr.heap.size = nb := by omega
                      obtain ⟨nn, hnn⟩ : ∃ nn, nn = In.num L sep j p := ⟨_, rfl⟩
                      rw [← hnn] at u2 hnl HNS
                      have hw9 : IntKind.i64.wrap ((nn : Int) + 1) = (nn : Int) + 1 := by rw [IntKind.wrap_i64]; omega
                      have HY : Hid (In.num L sep (j + 1) p = nn + 1 → ∀ o', Bn w1 w1.heap.size (In.bhA er ⟨p, In.num L sep (j + 1) p, LS, FR, D⟩ (In.psd T k) k (x1, x2) (decide (t < L.length))) nb (.cells #[.string x1, .bool x2, .int .i64 (p : Int)] 65) ((wr.setCell ⟨w1.heap.size, 2, none⟩ (.int .i64 ((nn : Int) + 1))).alloc o')) := by
                        intro e o'
                        rw [e]
                        exact (HJ.out.set 2 (.int .i64 ((nn : Int) + 1))).alloc o'
                      have HZ : Hid (In.num L sep (j + 1) p = nn → ∀ o', Bn w1 w1.heap.size (In.bhA er ⟨p, In.num L sep (j + 1) p, LS, FR, D⟩ (In.psd T k) k (x1, x2) (decide (t < L.length))) nb (.cells #[.string x1, .bool x2, .int .i64 (p : Int)] 65) (wr.alloc o')) := by
                        intro e o'
                        rw [e, hnn]
                        exact HJ.out.alloc o'
                      clear z0 z1 z2 hnn
                      cases hse : sep
                      · have HE : Hid (In.num L sep (j + 1) p = nn + 1) := by show _ = _; rw [HNS.out, hse]; rfl
                        have HR : Hid _ := HY.out HE.out (.cells #[.string y1, .bool y2, .int .i64 (q : Int)] 65)
                        subst hse
                        go_wp2_with fail
                        go_roundw
                        case rel => exact ⟨j + 1, by omega, by go_num, HR⟩
                        case measure => simp [intOf]; omega
                      · cases kq : ((q : Int) == (p : Int))
                        · have HE : Hid (In.num L sep (j + 1) p = nn) := by
                            show _ = _
                            have : ¬ q = p := by simp at kq; omega
                            rw [HNS.out, hse]
                            simp [this]
                          have HR : Hid _ := HZ.out HE.out (.cells #[.string y1, .bool y2, .int .i64 (q : Int)] 65)
                          subst hse
                          go_wp2_with fail
                          go_roundw
                          case rel => exact ⟨j + 1, by omega, by go_num, HR⟩
                          case measure => simp [intOf]; omega
                        · have HE : Hid (In.num L sep (j + 1) p = nn + 1) := by
                            show _ = _
                            have : q = p := by simp at kq; omega
                            rw [HNS.out, this]
                            simp
                          have HR : Hid _ := HY.out HE.out (.cells #[.string y1, .bool y2, .int .i64 (q : Int)] 65)
                          subst hse
                          go_wp2_with fail
                          go_roundw
                          case rel => exact ⟨j + 1, by omega, by go_num, HR⟩
                          case measure => simp [intOf]; omega
                    · obtain rfl : j = t := by omega
                      have hji : ¬ (j : Int) < (j : Int) := by omega
                      have hrb : wr.heap[w.heap.size]? = some (.cells (In.bhA 0 In.st0.ln false 0 (⟨#[]⟩, false) false) 36) := (HJ.out.bw.tu.block _ (by omega) (by omega)).trans HRB1.out
                      obtain ⟨y0, y1, y2, y3, y4, y5, y6, y7', y8, y9, y10⟩ := bh_cells HJ.out.bw.st
                      obtain ⟨r0, r1, r2, r3, r4, r5, r6, r7, r8, r9, r10⟩ := bh_cells hrb
                      have q0 := free_row hrb 0
                      have q1 := free_row hrb 1
                      have q2 := free_row hrb 2
                      have q3 := free_row hrb 3
                      have q4 := free_row hrb 4
                      have q5 := free_row hrb 5
                      have q6 := free_row hrb 6
                      have q7 := free_row hrb 7
                      have q8 := free_row hrb 8
                      have q9 := free_row hrb 9
                      have q10 := free_row hrb 10
                      have HRB : Hid _ := hrb
                      have hrlt : w.heap.size < wr.heap.size := by omega
                      have HBW : Hid (Below w.heap.size w wr) := below_tr HBW1.out (HJ.out.bw.tu.below HBW1.out.size (fun q e => by omega))
                      have HKK : Hid ((⟨p, In.num L sep j p, LS, FR, D⟩ : In.Tk) = In.lnAt T sep j) := by
                        have e1 := HL.out
                        have e2 := HU.out
                        have e3 : In.inp (In.ls T) (j - 1) = p := by rw [← e1, ← e2]; unfold In.inp; rw [HXL.out]; rfl
                        show _ = _
                        unfold In.lnAt
                        rw [e3, HLS.out, HFR.out, HDT.out, e1]
                        rfl
                      have HLI : Hid ((x1, x2) = (((In.ls T)[j - 1]?).map (·.1)).getD (⟨#[]⟩, false)) := by
                        show _ = _
                        rw [← HL.out, ← HU.out, HXL.out]
                        rfl
                      clear hrb
                      go_wp2_with fail
                      refine bodyPost_ret (results_cell_row rfl _ _ w.heap.size _ (In.bhA er ⟨p, In.num L sep j p, LS, FR, D⟩ (In.psd T k) k (x1, x2) (decide (j < L.length))) _ _ rfl (cpW_row HRB.out _ _ _ _ _ _ _ _ _ _ _) Try.underlying36 rfl (by kernel_rfl)) rfl ?_
                      refine ⟨?_, cpW_below HBW.out _ _ _ _ _ _ _ _ _ _ _⟩
                      unfold In.bh
                      rw [if_neg t0, if_neg t0, ← HER.out, ← HAK.out, ← HL.out, HKK.out, HLI.out, ← HL.out]
end Go.Proofs.Ythmofbcjhfcokaa
