/- What the reference's Or, And and Not answer. -/
import Derived.Test.YtmlpfgfpmbnbeaaSBytes
namespace Go.Proofs.Ytmlpfgfpmbnbeaa
open Go.RowKit

theorem own_bys {w : World} {base : Nat} {v : Value} {n : Nat} {L : List UInt8} (h : w.ownsRow base 5 1 v n (bcells L)) (hn : L.length = n) (hm : n ≤ 256) :
    ∃ a cap, v = .slice a n cap ∧ Bys w a L ∧ (∀ b off, a = some ⟨b, off, none⟩ → base ≤ b) := by
  rcases h.2 with ⟨hv, h0⟩ | ⟨g, cap, cur, hv, hbg, hg, r⟩
  · subst hv
    subst h0
    have : L = [] := List.eq_nil_of_length_eq_zero hn
    subst this
    exact ⟨none, 0, rfl, ⟨by simp, fun i hi => by simp at hi⟩, fun b off e => by cases e⟩
  · subst hv
    refine ⟨some ⟨g, 0, none⟩, cap, rfl, ⟨by omega, fun i hi => ⟨g, 0, rfl, lt_of_block hg, ?_⟩⟩, fun b off e => by cases e; exact hbg⟩
    have h1 := h.cellAt i (by omega)
    rw [Nat.zero_add, h1]
    simp [bcells, List.getElem?_eq_getElem hi]
theorem Bys.put {w : World} {a : Option Addr} {l : List UInt8} {g B : Nat} {q : Nat → Bool} (h : Bys w a l) (ho : ∀ b off, a = some ⟨b, off, none⟩ → B ≤ b) (hg : g < B) : Bys (put4 w g q) a l :=
  ⟨h.len, fun i hi => by
    obtain ⟨b, off, e, hlt, hc⟩ := h.cells i hi
    have hne : b ≠ g := by have := ho b off e; omega
    refine ⟨b, off, e, by simpa [World.setCell] using hlt, ?_⟩
    rw [World.cell?_of_block (w := w) (a := ⟨b, off + i, none⟩)]
    · exact hc
    · show (put4 w g q).heap[b]? = w.heap[b]?
      rw [heap_setCell_other _ _ _ _ hne, heap_setCell_other _ _ _ _ hne, heap_setCell_other _ _ _ _ hne, heap_setCell_other _ _ _ _ hne]⟩

theorem at_new' {w : World} (p : Nat → Bool) {g : Nat} (h : w.heap.size = g) : SetAt (w.alloc (.cells #[.int .u64 (St.wd p 0 : Nat), .int .u64 (St.wd p 1 : Nat), .int .u64 (St.wd p 2 : Nat), .int .u64 (St.wd p 3 : Nat)] 25)) g p := h ▸ at_new w p
theorem at_zero' {w : World} {g : Nat} (h : w.heap.size = g) : SetAt (w.alloc (.cells #[.int .u64 0, .int .u64 0, .int .u64 0, .int .u64 0] 25)) g (St.inL []) := h ▸ atS0 w
theorem SetAt.alloc {w : World} {g : Nat} {p : Nat → Bool} (h : SetAt w g p) (o : Obj) : SetAt (w.alloc o) g p := h.under ((Below.refl _ _).alloc (Nat.le_refl _) _)

namespace St
theorem or_step {p : Nat → Bool} {L : List UInt8} {k : Nat} (hk : k < L.length) (c : Nat) : ((p c || inL (L.take k) c) || c == (L[k]'hk).toNat) = (p c || inL (L.take (k + 1)) c) := by
  rw [← inL_step hk, Bool.or_assoc]
theorem or_done {p q : Nat → Bool} {c : Nat} (h : c < 256) : (p c || inL (lst q 256) c) = (p c || q c) := by
  rw [inL_lst q 256 (Nat.le_refl _), decide_eq_true h, Bool.true_and]
end St

set_option maxRecDepth 100000 in
set_option maxHeartbeats 1000000 in
theorem ror_any (p q : Nat → Bool) (w : World) :
    Calls Try.prog 25 #[St.setV p, St.setV q] w fun e w' => e = .returned (St.setV (fun x => p x || q x)) ∧ Below w.heap.size w w' := by
  have HD : Hid (∀ c, c < 256 → (p c || St.inL (St.lst q 256) c) = (p c || q c)) := fun c hc => St.or_done hc
  have HL : Hid ((St.lst q 256).length = St.cnt q 256) := St.lst_length q 256
  have hcl := St.cnt_le q 256
  have HB : Hid (∀ w1, Calls Try.prog 16 #[St.setV q] w1 fun e w' => ∃ v, e = .returned v ∧ w'.ownsRow w1.heap.size 5 1 v (St.cnt q 256) (bcells (St.lst q 256)) ∧ Below w1.heap.size w1 w') := rbytes_any q
  generalize St.lst q 256 = L at *
  generalize St.cnt q 256 = n at *
  have hn := HL.out
  subst hn
  clear HL
  simp only [St.setV] at HB ⊢
  go_enter Try.func25, Try.ntmps25
  go_wp2_with fail
  refine (HB.out _).mono ?_
  rintro x w1 ⟨v, rfl, hown, hb⟩
  obtain ⟨a, cap, rfl, hB, ho⟩ := own_bys hown rfl hcl
  have S1 : SetAt w1 w.heap.size p := SetAt.under (hb := hb) (h := ((at_new' p rfl).alloc _).alloc _)
  have S2 : SetAt w1 (w.heap.size + 1 + 1) (St.inL []) := SetAt.under (hb := hb) (h := at_zero' (by simp))
  have hnx : Below w.heap.size w w1 := ((((Below.refl _ _).alloc (Nat.le_refl _) _).alloc (by simp) _).alloc (by simp; omega) _).trans (hb.mono (by simp; omega))
  have ho' : ∀ b off, a = some ⟨b, off, none⟩ → w.heap.size + 3 ≤ b := fun b off e => by have := ho b off e; simp at this; omega
  have HO : Hid (∀ b off, a = some ⟨b, off, none⟩ → w.heap.size + 3 ≤ b) := ho'
  clear hb hown ho ho' HB
  go_wp2_with fail
  go_loopw [10] (fun i wr => ∃ k : Nat, k ≤ L.length ∧ i = .int .i64 k ∧ SetAt wr w.heap.size (fun x => p x || St.inL (L.take k) x) ∧ SetAt wr (w.heap.size + 1 + 1) (St.inL []) ∧ Bys wr a L ∧ Below w.heap.size w wr) (fun i _ => L.length - (intOf i).toNat)
  case atStart => exact ⟨0, Nat.zero_le _, rfl, S1.congr (fun c _ => (Bool.or_false _).symm), S2, hB, hnx⟩
  case round =>
    clear S1 S2 hB hnx
    obtain ⟨k, hk, rfl, S1, S2, hB, hnx⟩ := hrel
    obtain ⟨q0, q1, q2, q3⟩ := S1.cells
    have hl1 := S1.lt
    have hl2 := S2.lt
    by_cases hlt : k < L.length
    · obtain ⟨b, off, rfl, hb0, hc⟩ := hB.cells k hlt
      go_wp2_with (go_at_call 35; refine (radd_any _ _ (L[k]'hlt).toNat_lt _).mono ?_; rintro x w1 ⟨rfl, hb⟩; simp only [St.setV]; have f0 := (S1.under hb).frozen 0; have f1 := (S1.under hb).frozen 1; have f2 := (S1.under hb).frozen 2; have f3 := (S1.under hb).frozen 3; obtain ⟨r0, r1, r2, r3⟩ := (S1.under hb).cells)
      have hs := hb.size
      refine ⟨⟨k + 1, by omega, by go_num, (S1.under hb).put.congr (fun c _ => St.or_step hlt c), (S2.under hb).other (by omega), (hB.below hb).put HO.out (by omega), put4_below (Below.more hnx hb (by omega)) (by omega)⟩, ?_⟩
      simp [intOf]; omega
    · obtain ⟨r0, r1, r2, r3⟩ := S2.cells
      have f0 := S2.frozen 0
      have f1 := S2.frozen 1
      have f2 := S2.frozen 2
      have f3 := S2.frozen 3
      have HE : Hid (St.setV (fun x => p x || St.inL (L.take k) x) = St.setV (fun x => p x || q x)) := St.setV_congr (fun c hc => by rw [List.take_of_length_le (by omega)]; exact HD.out c hc)
      go_wp2_with fail
      refine bodyPost_ret (results_cell_row rfl _ _ (w.heap.size + 1 + 1) _ _ _ _ rfl (S2.put (q := fun x => p x || St.inL (L.take k) x)) Try.underlying25 rfl (by kernel_rfl)) rfl ?_
      exact ⟨congrArg _ HE.out, put4_below hnx (by omega)⟩

namespace St
theorem and_step_yes {q : Nat → Bool} {L : List UInt8} {k : Nat} (hk : k < L.length) (hq : q (L[k]'hk).toNat = true) (c : Nat) : ((inL (L.take k) c && q c) || c == (L[k]'hk).toNat) = (inL (L.take (k + 1)) c && q c) := by
  rw [← inL_step hk]
  by_cases h : c = (L[k]'hk).toNat
  · subst h; simp [hq]
  · have : (c == (L[k]'hk).toNat) = false := by simpa using h
    rw [this, Bool.or_false, Bool.or_false]
theorem and_step_no {q : Nat → Bool} {L : List UInt8} {k : Nat} (hk : k < L.length) (hq : q (L[k]'hk).toNat = false) (c : Nat) : (inL (L.take k) c && q c) = (inL (L.take (k + 1)) c && q c) := by
  rw [← inL_step hk]
  by_cases h : c = (L[k]'hk).toNat
  · subst h; simp [hq]
  · have : (c == (L[k]'hk).toNat) = false := by simpa using h
    rw [this, Bool.or_false]
theorem and_done {p q : Nat → Bool} {c : Nat} (h : c < 256) : (inL (lst p 256) c && q c) = (p c && q c) := by
  rw [inL_lst p 256 (Nat.le_refl _), decide_eq_true h, Bool.true_and]
end St

set_option maxRecDepth 100000 in
set_option maxHeartbeats 1000000 in
theorem rand_any (p q : Nat → Bool) (w : World) :
    Calls Try.prog 23 #[St.setV p, St.setV q] w fun e w' => e = .returned (St.setV (fun x => p x && q x)) ∧ Below w.heap.size w w' := by
  have HD : Hid (∀ c, c < 256 → (St.inL (St.lst p 256) c && q c) = (p c && q c)) := fun c hc => St.and_done hc
  have HL : Hid ((St.lst p 256).length = St.cnt p 256) := St.lst_length p 256
  have hcl := St.cnt_le p 256
  have HB : Hid (∀ w1, Calls Try.prog 16 #[St.setV p] w1 fun e w' => ∃ v, e = .returned v ∧ w'.ownsRow w1.heap.size 5 1 v (St.cnt p 256) (bcells (St.lst p 256)) ∧ Below w1.heap.size w1 w') := rbytes_any p
  generalize St.lst p 256 = L at *
  generalize St.cnt p 256 = n at *
  have hn := HL.out
  subst hn
  clear HL
  simp only [St.setV] at HB ⊢
  go_enter Try.func23, Try.ntmps23
  go_wp2_with fail
  refine (HB.out _).mono ?_
  rintro x w1 ⟨v, rfl, hown, hb⟩
  obtain ⟨a, cap, rfl, hB, ho⟩ := own_bys hown rfl hcl
  have S0 : SetAt w1 (w.heap.size + 1) q := SetAt.under (hb := hb) (h := ((at_new' q (by simp)).alloc _).alloc _)
  have S2 : SetAt w1 (w.heap.size + 1 + 1) (St.inL []) := SetAt.under (hb := hb) (h := (at_zero' (by simp)).alloc _)
  have S1 : SetAt w1 (w.heap.size + 1 + 1 + 1) (St.inL []) := SetAt.under (hb := hb) (h := at_zero' (by simp))
  have hnx : Below w.heap.size w w1 := (((((Below.refl _ _).alloc (Nat.le_refl _) _).alloc (by simp) _).alloc (by simp; omega) _).alloc (by simp; omega) _).trans (hb.mono (by simp; omega))
  have ho' : ∀ b off, a = some ⟨b, off, none⟩ → w.heap.size + 4 ≤ b := fun b off e => by have := ho b off e; simp at this; omega
  have HO : Hid (∀ b off, a = some ⟨b, off, none⟩ → w.heap.size + 4 ≤ b) := ho'
  clear hb hown ho ho' HB
  go_wp2_with fail
  go_loopw [11] (fun i wr => ∃ k : Nat, k ≤ L.length ∧ i = .int .i64 k ∧ SetAt wr (w.heap.size + 1 + 1 + 1) (fun x => St.inL (L.take k) x && q x) ∧ SetAt wr (w.heap.size + 1 + 1) (St.inL []) ∧ SetAt wr (w.heap.size + 1) q ∧ Bys wr a L ∧ Below w.heap.size w wr) (fun i _ => L.length - (intOf i).toNat)
  case atStart => exact ⟨0, Nat.zero_le _, rfl, S1.congr (fun c _ => rfl), S2, S0, hB, hnx⟩
  case round =>
    clear S1 S2 S0 hB hnx
    obtain ⟨k, hk, rfl, S1, S2, S0, hB, hnx⟩ := hrel
    obtain ⟨q0, q1, q2, q3⟩ := S1.cells
    obtain ⟨t0, t1, t2, t3⟩ := S0.cells
    have hl1 := S1.lt
    have hl2 := S2.lt
    by_cases hlt : k < L.length
    · obtain ⟨b, off, rfl, hb0, hc⟩ := hB.cells k hlt
      cases hq : q (L[k]'hlt).toNat
      · go_wp2_with fail
        refine (rhas_any q _ (L[k]'hlt).toNat_lt _).mono ?_
        rw [hq]
        rintro x w2 ⟨rfl, hb⟩
        have hs := hb.size
        go_wp2_with fail
        refine ⟨⟨k + 1, by omega, by go_num, (S1.under hb).congr (fun c _ => St.and_step_no hlt hq c), S2.under hb, S0.under hb, hB.below hb, Below.more hnx hb (by omega)⟩, ?_⟩
        simp [intOf]; omega
      · go_wp2_with fail
        refine (rhas_any q _ (L[k]'hlt).toNat_lt _).mono ?_
        rw [hq]
        rintro x w2 ⟨rfl, hb⟩
        have hs := hb.size
        have hnx2 := Below.more hnx hb (by omega)
        have hB2 := hB.below hb
        have S12 := S1.under hb
        have S22 := S2.under hb
        have S02 := S0.under hb
        clear hnx hB S1 S2 S0 hb q0 q1 q2 q3 t0 t1 t2 t3
        obtain ⟨q0, q1, q2, q3⟩ := S12.cells
        go_wp2_with (go_at_call 35; refine (radd_any _ _ (L[k]'hlt).toNat_lt _).mono ?_; rintro x w1 ⟨rfl, hb⟩; simp only [St.setV]; have f0 := (S12.under hb).frozen 0; have f1 := (S12.under hb).frozen 1; have f2 := (S12.under hb).frozen 2; have f3 := (S12.under hb).frozen 3; obtain ⟨r0, r1, r2, r3⟩ := (S12.under hb).cells)
        have hs2 := hb.size
        refine ⟨⟨k + 1, by omega, by go_num, (S12.under hb).put.congr (fun c _ => St.and_step_yes hlt hq c), (S22.under hb).other (by omega), (S02.under hb).other (by omega), (hB2.below hb).put HO.out (by omega), put4_below (Below.more hnx2 hb (by omega)) (by omega)⟩, ?_⟩
        simp [intOf]; omega
    · obtain ⟨r0, r1, r2, r3⟩ := S2.cells
      have f0 := S2.frozen 0
      have f1 := S2.frozen 1
      have f2 := S2.frozen 2
      have f3 := S2.frozen 3
      have HE : Hid (St.setV (fun x => St.inL (L.take k) x && q x) = St.setV (fun x => p x && q x)) := St.setV_congr (fun c hc => by rw [List.take_of_length_le (by omega)]; exact HD.out c hc)
      clear t0 t1 t2 t3
      go_wp2_with fail
      refine bodyPost_ret (results_cell_row rfl _ _ (w.heap.size + 1 + 1) _ _ _ _ rfl (S2.put (q := fun x => St.inL (L.take k) x && q x)) Try.underlying25 rfl (by kernel_rfl)) rfl ?_
      exact ⟨congrArg _ HE.out, put4_below hnx (by omega)⟩

namespace St
def notTo (p : Nat → Bool) (k c : Nat) : Bool := decide (c < k) && !p c
theorem not_yes {p : Nat → Bool} {k : Nat} (h : p k = false) (c : Nat) : (notTo p k c || c == k) = notTo p (k + 1) c := by
  unfold notTo
  by_cases e : c = k
  · subst e; simp [h]
  · have : (c == k) = false := by simpa using e
    rw [this, Bool.or_false]
    congr 1
    rw [decide_eq_decide]
    omega
theorem not_no {p : Nat → Bool} {k : Nat} (h : p k = true) (c : Nat) : notTo p k c = notTo p (k + 1) c := by
  unfold notTo
  by_cases e : c = k
  · subst e; simp [h]
  · congr 1
    rw [decide_eq_decide]
    omega
theorem not_none (p : Nat → Bool) (c : Nat) : inL [] c = notTo p 0 c := by simp [inL, notTo]
theorem not_done {p : Nat → Bool} {k c : Nat} (hk : 256 ≤ k) (hc : c < 256) : notTo p k c = !p c := by
  unfold notTo
  rw [decide_eq_true (by omega), Bool.true_and]
end St

set_option maxRecDepth 100000 in
set_option maxHeartbeats 1000000 in
theorem rnot_any (p : Nat → Bool) (w : World) :
    Calls Try.prog 27 #[St.setV p] w fun e w' => e = .returned (St.setV (fun x => !p x)) ∧ Below w.heap.size w w' := by
  simp only [St.setV]
  go_enter Try.func27, Try.ntmps27
  go_wp2_with fail
  go_loopw [4] (fun i wr => ∃ k : Nat, k ≤ 256 ∧ i = .int .i64 k ∧ SetAt wr w.heap.size p ∧ SetAt wr (w.heap.size + 1) (St.inL []) ∧ SetAt wr (w.heap.size + 1 + 1) (St.notTo p k) ∧ Below w.heap.size w wr) (fun i _ => 256 - (intOf i).toNat)
  case atStart => exact ⟨0, by omega, rfl, ((at_new' p rfl).alloc _).alloc _, (at_zero' (by simp)).alloc _, (at_zero' (by simp)).congr (fun c _ => St.not_none p c), (((Below.refl _ _).alloc (Nat.le_refl _) _).alloc (by simp) _).alloc (by simp; omega) _⟩
  case round =>
    obtain ⟨k, hk, rfl, S0, S2, S1, hnx⟩ := hrel
    obtain ⟨t0, t1, t2, t3⟩ := S0.cells
    have hl1 := S1.lt
    by_cases hlt : k < 256
    · have hw := wrap_byte hlt
      cases hp : p k
      · go_wp2_with fail
        refine (rhas_any p k hlt _).mono ?_
        rw [hp]
        rintro x w2 ⟨rfl, hb⟩
        have hs := hb.size
        have hnx2 := Below.more hnx hb (by omega)
        have S12 := S1.under hb
        have S22 := S2.under hb
        have S02 := S0.under hb
        clear hnx S1 S2 S0 hb t0 t1 t2 t3
        obtain ⟨q0, q1, q2, q3⟩ := S12.cells
        go_wp2_with (go_at_call 35; refine (radd_any _ k hlt _).mono ?_; rintro x w1 ⟨rfl, hb⟩; simp only [St.setV]; have f0 := (S12.under hb).frozen 0; have f1 := (S12.under hb).frozen 1; have f2 := (S12.under hb).frozen 2; have f3 := (S12.under hb).frozen 3; obtain ⟨r0, r1, r2, r3⟩ := (S12.under hb).cells)
        have hs2 := hb.size
        refine ⟨⟨k + 1, by omega, by go_num, (S02.under hb).other (by omega), (S22.under hb).other (by omega), (S12.under hb).put.congr (fun c _ => St.not_yes hp c), put4_below (Below.more hnx2 hb (by omega)) (by omega)⟩, ?_⟩
        simp [intOf]; omega
      · go_wp2_with fail
        refine (rhas_any p k hlt _).mono ?_
        rw [hp]
        rintro x w2 ⟨rfl, hb⟩
        have hs := hb.size
        go_wp2_with fail
        refine ⟨⟨k + 1, by omega, by go_num, S0.under hb, S2.under hb, (S1.under hb).congr (fun c _ => St.not_no hp c), Below.more hnx hb (by omega)⟩, ?_⟩
        simp [intOf]; omega
    · clear t0 t1 t2 t3
      obtain ⟨q0, q1, q2, q3⟩ := S1.cells
      obtain ⟨r0, r1, r2, r3⟩ := S2.cells
      have f0 := S2.frozen 0
      have f1 := S2.frozen 1
      have f2 := S2.frozen 2
      have f3 := S2.frozen 3
      have HE : Hid (St.setV (St.notTo p k) = St.setV (fun x => !p x)) := St.setV_congr (fun c hc => St.not_done (by omega) hc)
      go_wp2_with fail
      refine bodyPost_ret (results_cell_row rfl _ _ (w.heap.size + 1) _ _ _ _ rfl (S2.put (q := St.notTo p k)) Try.underlying25 rfl (by kernel_rfl)) rfl ?_
      exact ⟨congrArg _ HE.out, put4_below hnx (by omega)⟩
end Go.Proofs.Ytmlpfgfpmbnbeaa
