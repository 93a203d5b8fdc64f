/- What the law NfaParts answers: true, of any two trees, text and place. -/
import Derived.Test.YtdiokclbdaojpaaDoorNfM20
import Derived.Test.YtdiokclbdaojpaaDoorNfM18
import Derived.Test.YtdiokclbdaojpaaDoorNfM7
import Derived.Deep.RegionHeld3
namespace Go.Proofs.YtdiokclbdaojpaaDoor
open Go Go.RowKit Go.Shelf

namespace Nt
theorem range_succ_filter (p : Nat → Bool) (i : Nat) : (List.range (i + 1)).filter p = (List.range i).filter p ++ (if p i then [i] else []) := by
  rw [List.range_succ, List.filter_append]
  congr 1
  cases h : p i <;> simp [h]
theorem range_rise (p : Nat → Bool) (i : Nat) : ((List.range i).filter p).Pairwise (fun x y => x < y) := List.Pairwise.filter p List.pairwise_lt_range
theorem range_len (p : Nat → Bool) (i : Nat) : ((List.range i).filter p).length ≤ i := by
  have := List.length_filter_le p (List.range i)
  simpa using this
/-- Two rows that are not one. -/
def Sep (u v : Value) : Prop := ∀ q, u.ownBlock = some q → v.ownBlock ≠ some q
theorem Sep.symm {u v : Value} (h : Sep u v) : Sep v u := fun q h1 h2 => h q h2 h1
theorem Sep.push {u u' v : Value} {m : Nat} (h : Sep u v) (hlt : ∀ q, v.ownBlock = some q → q < m) (hat : u'.ownBlock = u.ownBlock ∨ u'.ownBlock = some m) : Sep u' v := fun q h1 h2 => by
  rcases hat with e | e
  · exact h q (e ▸ h1) h2
  · rw [e] at h1
    injection h1 with h1
    have := hlt q h2
    omega
theorem Sep.kept {u v : Value} {W W' : World} {base e size n : Nat} {xs : List Value} (h : Sep u v) (hv : W.ownsRow base e size v n xs) (hg : W.grownBy W' u.ownBlock) : W'.ownsRow base e size v n xs := by
  refine own_blk hv (fun q e => hg.block q (World.ownsRow.lt hv q e).2 (fun e2 => ?_))
  exact h q e2.symm e
/-- Two trees in a row make a tree. -/
theorem two_nd {w : World} {k : Nat} {A B : NT} {aa ab : Option Addr} {ca cb g : Nat} (hA : Nd w (· < w.heap.size) A aa ca) (hB : Nd w (· < w.heap.size) B ab cb) (hg : g < w.heap.size) (h1 : Nine w g 0 A aa ca) (h2 : Nine w g 9 B ab cb) : Nd w (· < w.heap.size) (.mk k noS 0 0 0 [A, B]) (some ⟨g, 0, none⟩) 2 := by
  refine .mk (fun i => if i = 0 then (aa, ca) else (ab, cb)) (by simp [NT.kids]) (fun e => by cases e) (by simp [NT.kids]) (by unfold maxLen; omega) (fun i hi => ?_) (fun i hi => ?_)
  · have hi2 : i < 2 := by simpa [NT.kids] using hi
    refine ⟨g, 0, rfl, hg, ?_⟩
    match i, hi2 with
    | 0, _ => exact h1
    | 1, _ => exact h2
  · have hi2 : i < 2 := by simpa [NT.kids] using hi
    match i, hi2 with
    | 0, _ => exact hA
    | 1, _ => exact hB
end Nt

set_option maxRecDepth 100000 in
set_option maxHeartbeats 8000000 in
theorem law_parts (A B : Nt.NT) (aa ab : Option Addr) (ca cb : Nat) (s : ByteArray) (f : Int) (w : World) (hA : Nt.Nd w (· < w.heap.size) A aa ca) (hB : Nt.Nd w (· < w.heap.size) B ab cb) (hcA : Nt.cnt A < 4611686018427387904) (hcB : Nt.cnt B < 4611686018427387904) (hT : Nt.Tabs w) (hs : s.size ≤ 1048576) :
    Calls Tryd.prog 7 #[Nt.ndV A aa ca, Nt.ndV B ab cb, .string s, .int .i64 f] w fun e w' => e = .returned (.bool true) ∧ Below w.heap.size w w' := by
  simp only [Nt.ndV, Nt.ndA]
  obtain ⟨W0, hW0⟩ : ∃ W0, W0 = (w.alloc (.cells #[.int .u8 (A.k : Int), .int .u64 (St.wd A.s 0 : Nat), .int .u64 (St.wd A.s 1 : Nat), .int .u64 (St.wd A.s 2 : Nat), .int .u64 (St.wd A.s 3 : Nat), .int .i64 A.mn, .int .i64 A.mx, .int .i64 A.gr, .slice aa A.kids.length ca] 28)).alloc (.cells #[.int .u8 (B.k : Int), .int .u64 (St.wd B.s 0 : Nat), .int .u64 (St.wd B.s 1 : Nat), .int .u64 (St.wd B.s 2 : Nat), .int .u64 (St.wd B.s 3 : Nat), .int .i64 B.mn, .int .i64 B.mx, .int .i64 B.gr, .slice ab B.kids.length cb] 28) := ⟨_, rfl⟩
  have hB0 : Below w.heap.size w W0 := by rw [hW0]; exact ((Below.refl w.heap.size w).alloc (Nat.le_refl _) _).alloc (by simp) _
  have P0 : Nt.NodeAt W0 w.heap.size A aa ca := by unfold Nt.NodeAt; rw [hW0, heap_alloc_old _ _ (by simp)]; exact heap_alloc_new w _
  have Q0 : Nt.NodeAt W0 (w.heap.size + 1) B ab cb := by rw [hW0]; exact heap_alloc2_new w _ _
  have hs0 : W0.heap.size = w.heap.size + 2 := by rw [hW0]; simp
  have HW : Hid (∀ w', Below W0.heap.size W0 w' → Below w.heap.size w w') := fun w' hb => hB0.trans (hb.mono (by omega))
  have HU : Hid (∀ w' w2, Below W0.heap.size W0 w' → Below w'.heap.size w' w2 → Below W0.heap.size W0 w2) := fun w' w2 h1 h2 => h1.trans (h2.mono h1.size)
  have H9 : Hid (∀ w', Below W0.heap.size W0 w' → Nt.Nine w' w.heap.size 0 A aa ca ∧ Nt.Nine w' (w.heap.size + 1) 0 B ab cb) := fun w' hb => ⟨P0.nine.below hb (by omega), Q0.nine.below hb (by omega)⟩
  have HNA : Hid (∀ w', Below W0.heap.size W0 w' → Nt.Nd w' (· < w'.heap.size) A aa ca) := fun w' hb => (hA.under (HW.out w' hb)).mono (fun b (h : b < _) => Nat.lt_of_lt_of_le h (HW.out w' hb).size)
  have HNB : Hid (∀ w', Below W0.heap.size W0 w' → Nt.Nd w' (· < w'.heap.size) B ab cb) := fun w' hb => (hB.under (HW.out w' hb)).mono (fun b (h : b < _) => Nat.lt_of_lt_of_le h (HW.out w' hb).size)
  have HTb : Hid (∀ w', Below W0.heap.size W0 w' → Nt.Tabs w') := fun w' hb => hT.under (HW.out w' hb)
  have r1 : Hid _ := begins_any W0 (HTb.out W0 (Below.refl _ _))
  have r2 : Hid (∀ w', Below W0.heap.size W0 w' → _) := fun w' hb => rgroups9_any A aa ca w' (HNA.out w' hb) hcA
  have r3 : Hid (∀ w', Below W0.heap.size W0 w' → _) := fun w' hb => rgroups9_any B ab cb w' (HNB.out w' hb) hcB
  have r4 : Hid (∀ w', Below W0.heap.size W0 w' → _) := fun w' hb => run_any A aa ca s f w' (HNA.out w' hb) (HTb.out w' hb) hs
  have r5 : Hid (∀ (f : Int) w', Below W0.heap.size W0 w' → _) := fun f w' hb => run_any B ab cb s f w' (HNB.out w' hb) (HTb.out w' hb) hs
  have HK2 : Hid (∀ w', Below W0.heap.size W0 w' → Nt.Nd (w'.alloc (.cells #[.int .u8 (A.k : Int), .int .u64 (St.wd A.s 0 : Nat), .int .u64 (St.wd A.s 1 : Nat), .int .u64 (St.wd A.s 2 : Nat), .int .u64 (St.wd A.s 3 : Nat), .int .i64 A.mn, .int .i64 A.mx, .int .i64 A.gr, .slice aa A.kids.length ca, .int .u8 (B.k : Int), .int .u64 (St.wd B.s 0 : Nat), .int .u64 (St.wd B.s 1 : Nat), .int .u64 (St.wd B.s 2 : Nat), .int .u64 (St.wd B.s 3 : Nat), .int .i64 B.mn, .int .i64 B.mx, .int .i64 B.gr, .slice ab B.kids.length cb] 28)) (· < (w'.alloc (.cells #[.int .u8 (A.k : Int), .int .u64 (St.wd A.s 0 : Nat), .int .u64 (St.wd A.s 1 : Nat), .int .u64 (St.wd A.s 2 : Nat), .int .u64 (St.wd A.s 3 : Nat), .int .i64 A.mn, .int .i64 A.mx, .int .i64 A.gr, .slice aa A.kids.length ca, .int .u8 (B.k : Int), .int .u64 (St.wd B.s 0 : Nat), .int .u64 (St.wd B.s 1 : Nat), .int .u64 (St.wd B.s 2 : Nat), .int .u64 (St.wd B.s 3 : Nat), .int .i64 B.mn, .int .i64 B.mx, .int .i64 B.gr, .slice ab B.kids.length cb] 28)).heap.size) (.mk 3 Nt.noS 0 0 0 [A, B]) (some ⟨w'.heap.size, 0, none⟩) 2 ∧ Nt.Nd (w'.alloc (.cells #[.int .u8 (A.k : Int), .int .u64 (St.wd A.s 0 : Nat), .int .u64 (St.wd A.s 1 : Nat), .int .u64 (St.wd A.s 2 : Nat), .int .u64 (St.wd A.s 3 : Nat), .int .i64 A.mn, .int .i64 A.mx, .int .i64 A.gr, .slice aa A.kids.length ca, .int .u8 (B.k : Int), .int .u64 (St.wd B.s 0 : Nat), .int .u64 (St.wd B.s 1 : Nat), .int .u64 (St.wd B.s 2 : Nat), .int .u64 (St.wd B.s 3 : Nat), .int .i64 B.mn, .int .i64 B.mx, .int .i64 B.gr, .slice ab B.kids.length cb] 28)) (· < (w'.alloc (.cells #[.int .u8 (A.k : Int), .int .u64 (St.wd A.s 0 : Nat), .int .u64 (St.wd A.s 1 : Nat), .int .u64 (St.wd A.s 2 : Nat), .int .u64 (St.wd A.s 3 : Nat), .int .i64 A.mn, .int .i64 A.mx, .int .i64 A.gr, .slice aa A.kids.length ca, .int .u8 (B.k : Int), .int .u64 (St.wd B.s 0 : Nat), .int .u64 (St.wd B.s 1 : Nat), .int .u64 (St.wd B.s 2 : Nat), .int .u64 (St.wd B.s 3 : Nat), .int .i64 B.mn, .int .i64 B.mx, .int .i64 B.gr, .slice ab B.kids.length cb] 28)).heap.size) (.mk 4 Nt.noS 0 0 0 [A, B]) (some ⟨w'.heap.size, 0, none⟩) 2 ∧ Below W0.heap.size W0 (w'.alloc (.cells #[.int .u8 (A.k : Int), .int .u64 (St.wd A.s 0 : Nat), .int .u64 (St.wd A.s 1 : Nat), .int .u64 (St.wd A.s 2 : Nat), .int .u64 (St.wd A.s 3 : Nat), .int .i64 A.mn, .int .i64 A.mx, .int .i64 A.gr, .slice aa A.kids.length ca, .int .u8 (B.k : Int), .int .u64 (St.wd B.s 0 : Nat), .int .u64 (St.wd B.s 1 : Nat), .int .u64 (St.wd B.s 2 : Nat), .int .u64 (St.wd B.s 3 : Nat), .int .i64 B.mn, .int .i64 B.mx, .int .i64 B.gr, .slice ab B.kids.length cb] 28))) := fun w' hb => by
    have hb2 : Below W0.heap.size W0 (w'.alloc (.cells #[.int .u8 (A.k : Int), .int .u64 (St.wd A.s 0 : Nat), .int .u64 (St.wd A.s 1 : Nat), .int .u64 (St.wd A.s 2 : Nat), .int .u64 (St.wd A.s 3 : Nat), .int .i64 A.mn, .int .i64 A.mx, .int .i64 A.gr, .slice aa A.kids.length ca, .int .u8 (B.k : Int), .int .u64 (St.wd B.s 0 : Nat), .int .u64 (St.wd B.s 1 : Nat), .int .u64 (St.wd B.s 2 : Nat), .int .u64 (St.wd B.s 3 : Nat), .int .i64 B.mn, .int .i64 B.mx, .int .i64 B.gr, .slice ab B.kids.length cb] 28)) := hb.alloc hb.size _
    have hn := heap_alloc_new w' (.cells #[.int .u8 (A.k : Int), .int .u64 (St.wd A.s 0 : Nat), .int .u64 (St.wd A.s 1 : Nat), .int .u64 (St.wd A.s 2 : Nat), .int .u64 (St.wd A.s 3 : Nat), .int .i64 A.mn, .int .i64 A.mx, .int .i64 A.gr, .slice aa A.kids.length ca, .int .u8 (B.k : Int), .int .u64 (St.wd B.s 0 : Nat), .int .u64 (St.wd B.s 1 : Nat), .int .u64 (St.wd B.s 2 : Nat), .int .u64 (St.wd B.s 3 : Nat), .int .i64 B.mn, .int .i64 B.mx, .int .i64 B.gr, .slice ab B.kids.length cb] 28)
    have h1 : Nt.Nine (w'.alloc (.cells #[.int .u8 (A.k : Int), .int .u64 (St.wd A.s 0 : Nat), .int .u64 (St.wd A.s 1 : Nat), .int .u64 (St.wd A.s 2 : Nat), .int .u64 (St.wd A.s 3 : Nat), .int .i64 A.mn, .int .i64 A.mx, .int .i64 A.gr, .slice aa A.kids.length ca, .int .u8 (B.k : Int), .int .u64 (St.wd B.s 0 : Nat), .int .u64 (St.wd B.s 1 : Nat), .int .u64 (St.wd B.s 2 : Nat), .int .u64 (St.wd B.s 3 : Nat), .int .i64 B.mn, .int .i64 B.mx, .int .i64 B.gr, .slice ab B.kids.length cb] 28)) w'.heap.size 0 A aa ca := ⟨cell_of_row _ _ _ _ _ _ hn, cell_of_row _ _ _ _ _ _ hn, cell_of_row _ _ _ _ _ _ hn, cell_of_row _ _ _ _ _ _ hn, cell_of_row _ _ _ _ _ _ hn, cell_of_row _ _ _ _ _ _ hn, cell_of_row _ _ _ _ _ _ hn, cell_of_row _ _ _ _ _ _ hn, cell_of_row _ _ _ _ _ _ hn⟩
    have h2 : Nt.Nine (w'.alloc (.cells #[.int .u8 (A.k : Int), .int .u64 (St.wd A.s 0 : Nat), .int .u64 (St.wd A.s 1 : Nat), .int .u64 (St.wd A.s 2 : Nat), .int .u64 (St.wd A.s 3 : Nat), .int .i64 A.mn, .int .i64 A.mx, .int .i64 A.gr, .slice aa A.kids.length ca, .int .u8 (B.k : Int), .int .u64 (St.wd B.s 0 : Nat), .int .u64 (St.wd B.s 1 : Nat), .int .u64 (St.wd B.s 2 : Nat), .int .u64 (St.wd B.s 3 : Nat), .int .i64 B.mn, .int .i64 B.mx, .int .i64 B.gr, .slice ab B.kids.length cb] 28)) w'.heap.size 9 B ab cb := ⟨cell_of_row _ _ _ _ _ _ hn, cell_of_row _ _ _ _ _ _ hn, cell_of_row _ _ _ _ _ _ hn, cell_of_row _ _ _ _ _ _ hn, cell_of_row _ _ _ _ _ _ hn, cell_of_row _ _ _ _ _ _ hn, cell_of_row _ _ _ _ _ _ hn, cell_of_row _ _ _ _ _ _ hn, cell_of_row _ _ _ _ _ _ hn⟩
    exact ⟨Nt.two_nd (HNA.out _ hb2) (HNB.out _ hb2) (by simp) h1 h2, Nt.two_nd (HNA.out _ hb2) (HNB.out _ hb2) (by simp) h1 h2, hb2⟩
  have r6 : Hid (∀ w', Below W0.heap.size W0 w' → _) := fun w' hb => run_any (Nt.catT A B) (some ⟨w'.heap.size, 0, none⟩) 2 s f (w'.alloc (.cells #[.int .u8 (A.k : Int), .int .u64 (St.wd A.s 0 : Nat), .int .u64 (St.wd A.s 1 : Nat), .int .u64 (St.wd A.s 2 : Nat), .int .u64 (St.wd A.s 3 : Nat), .int .i64 A.mn, .int .i64 A.mx, .int .i64 A.gr, .slice aa A.kids.length ca, .int .u8 (B.k : Int), .int .u64 (St.wd B.s 0 : Nat), .int .u64 (St.wd B.s 1 : Nat), .int .u64 (St.wd B.s 2 : Nat), .int .u64 (St.wd B.s 3 : Nat), .int .i64 B.mn, .int .i64 B.mx, .int .i64 B.gr, .slice ab B.kids.length cb] 28)) (HK2.out w' hb).1 (HTb.out _ (HK2.out w' hb).2.2) hs
  have r7 : Hid (∀ w', Below W0.heap.size W0 w' → _) := fun w' hb => run_any (Nt.altT A B) (some ⟨w'.heap.size, 0, none⟩) 2 s f (w'.alloc (.cells #[.int .u8 (A.k : Int), .int .u64 (St.wd A.s 0 : Nat), .int .u64 (St.wd A.s 1 : Nat), .int .u64 (St.wd A.s 2 : Nat), .int .u64 (St.wd A.s 3 : Nat), .int .i64 A.mn, .int .i64 A.mx, .int .i64 A.gr, .slice aa A.kids.length ca, .int .u8 (B.k : Int), .int .u64 (St.wd B.s 0 : Nat), .int .u64 (St.wd B.s 1 : Nat), .int .u64 (St.wd B.s 2 : Nat), .int .u64 (St.wd B.s 3 : Nat), .int .i64 B.mn, .int .i64 B.mx, .int .i64 B.gr, .slice ab B.kids.length cb] 28)) (HK2.out w' hb).2.1 (HTb.out _ (HK2.out w' hb).2.2) hs
  have eC : ∀ g, Nt.ndV (Nt.catT A B) (some ⟨g, 0, none⟩) 2 = .agg #[.int .u8 3, .int .u64 0, .int .u64 0, .int .u64 0, .int .u64 0, .int .i64 0, .int .i64 0, .int .i64 0, .slice (some ⟨g, 0, none⟩) 2 2] := fun g => by simp [Nt.ndV, Nt.ndA, Nt.catT, Nt.NT.k, Nt.NT.s, Nt.NT.mn, Nt.NT.mx, Nt.NT.gr, Nt.NT.kids, Nt.wd_no]
  have eD : ∀ g, Nt.ndV (Nt.altT A B) (some ⟨g, 0, none⟩) 2 = .agg #[.int .u8 4, .int .u64 0, .int .u64 0, .int .u64 0, .int .u64 0, .int .i64 0, .int .i64 0, .int .i64 0, .slice (some ⟨g, 0, none⟩) 2 2] := fun g => by simp [Nt.ndV, Nt.ndA, Nt.altT, Nt.NT.k, Nt.NT.s, Nt.NT.mn, Nt.NT.mx, Nt.NT.gr, Nt.NT.kids, Nt.wd_no]
  simp only [eC] at r6
  simp only [eD] at r7
  clear eC eD
  have HOK : Hid ((Nt.rnR A s f).2 = true → (Nt.rnR B s f).2 = true → (Nt.rnR (Nt.catT A B) s f).2 = true → (Nt.rnR (Nt.altT A B) s f).2 = true → (∀ e ∈ (Nt.rnR A s f).1, e ≤ s.size) ∧ (∀ e ∈ (Nt.rnR B s f).1, e ≤ s.size) ∧ (∀ m : Nat, m ≤ s.size → Nt.rnR B s (m : Int) = (Nt.endsA (Nt.prgC B) s m, true) ∧ ∀ e ∈ Nt.endsA (Nt.prgC B) s m, e ≤ s.size) ∧ ((Nt.rnR (Nt.catT A B) s f).1.Pairwise (fun x y => x < y)) ∧ ((Nt.rnR (Nt.altT A B) s f).1.Pairwise (fun x y => x < y)) ∧ (∀ e, e ∈ (Nt.rnR (Nt.catT A B) s f).1 ↔ ∃ m ∈ (Nt.rnR A s f).1, e ∈ Nt.endsA (Nt.prgC B) s m) ∧ (∀ e, e ∈ (Nt.rnR (Nt.altT A B) s f).1 ↔ (e ∈ (Nt.rnR A s f).1 ∨ e ∈ (Nt.rnR B s f).1))) := fun o1 o2 o3 o4 => by
    obtain ⟨c1, _, n, rfl, hn, e1⟩ := Nt.rnR_ok o1
    obtain ⟨c2, q2, n2, hn2, _, e2⟩ := Nt.rnR_ok o2
    obtain ⟨c3, _, n3, hn3, _, e3⟩ := Nt.rnR_ok o3
    obtain ⟨c4, _, n4, hn4, _, e4⟩ := Nt.rnR_ok o4
    obtain rfl : n2 = n := by omega
    obtain rfl : n3 = n2 := by omega
    obtain rfl : n4 = n3 := by omega
    rw [e1, e2, e3, e4]
    have lt : ∀ (T : Nt.NT), Nt.cmpE T = 0 → ∀ m : Nat, m ≤ s.size → ∀ e ∈ Nt.endsA (Nt.prgC T) s m, e ≤ s.size := fun T hc m hm e he => ((Nt.prg_ends hc s hm e).1 he).lt hm
    refine ⟨lt A c1 _ hn, lt B c2 _ hn, fun m hm => ⟨Nt.rnR_at c2 q2 m hm, lt B c2 m hm⟩, Nt.prg_rise c3 s _, Nt.prg_rise c4 s _, fun e => ?_, fun e => ?_⟩
    · rw [Nt.prg_ends c3 s hn, Nt.prg_cat c1 c2]
      constructor
      · rintro ⟨m, h1, h2⟩
        exact ⟨m, (Nt.prg_ends c1 s hn m).2 h1, (Nt.prg_ends c2 s (h1.lt hn) e).2 h2⟩
      · rintro ⟨m, h1, h2⟩
        have h3 := (Nt.prg_ends c1 s hn m).1 h1
        exact ⟨m, h3, (Nt.prg_ends c2 s (h3.lt hn) e).1 h2⟩
    · rw [Nt.prg_ends c4 s hn, Nt.prg_alt c1 c2, Nt.prg_ends c1 s hn, Nt.prg_ends c2 s hn]
  have hlX := Nt.rnR_len A s f hs
  have hlY := Nt.rnR_len B s f hs
  have hlC := Nt.rnR_len (Nt.catT A B) s f hs
  have hlD := Nt.rnR_len (Nt.altT A B) s f hs
  have r8 : Hid _ := r5.out f
  obtain ⟨X, hX⟩ : ∃ X, X = (Nt.rnR A s f).1 := ⟨_, rfl⟩
  obtain ⟨Y, hY⟩ : ∃ Y, Y = (Nt.rnR B s f).1 := ⟨_, rfl⟩
  obtain ⟨C, hC⟩ : ∃ C, C = (Nt.rnR (Nt.catT A B) s f).1 := ⟨_, rfl⟩
  obtain ⟨D, hD⟩ : ∃ D, D = (Nt.rnR (Nt.altT A B) s f).1 := ⟨_, rfl⟩
  obtain ⟨o1, ho1⟩ : ∃ o, o = (Nt.rnR A s f).2 := ⟨_, rfl⟩
  obtain ⟨o2, ho2⟩ : ∃ o, o = (Nt.rnR B s f).2 := ⟨_, rfl⟩
  obtain ⟨o3, ho3⟩ : ∃ o, o = (Nt.rnR (Nt.catT A B) s f).2 := ⟨_, rfl⟩
  obtain ⟨o4, ho4⟩ : ∃ o, o = (Nt.rnR (Nt.altT A B) s f).2 := ⟨_, rfl⟩
  rw [← hX, ← ho1] at r4
  rw [← hY, ← ho2] at r8
  rw [← hC, ← ho3] at r6
  rw [← hD, ← ho4] at r7
  rw [← hX, ← hY, ← hC, ← hD, ← ho1, ← ho2, ← ho3, ← ho4] at HOK
  rw [← hX] at hlX
  rw [← hY] at hlY
  rw [← hC] at hlC
  rw [← hD] at hlD
  clear hX hY hC hD ho1 ho2 ho3 ho4
  simp only [Nt.ndV, Nt.ndA] at r2 r3 r4 r5 r8
  obtain ⟨i1, hi1, hy0, hy1, hy2⟩ := info_parts Tryd.infoInt
  obtain ⟨ib, hib, hb0', hb1', hb2'⟩ := info_parts Tryd.infoBool
  have HMK : Hid (∀ W : World, (Instr.makeSlice 60 (.int .i64 ((s.size : Int) + 1)) (.int .i64 ((s.size : Int) + 1))).run Tryd.prog W = .ok (.slice (some ⟨W.heap.size, 0, none⟩) (s.size + 1) (s.size + 1)) (W.alloc (.cells (madeCells #[.bool false] (s.size + 1)) 4))) := fun W => by
    have := run_make (P := Tryd.prog) W 60 4 ib _ Tryd.underlying60 hib hb0' .i64 .i64 ((s.size : Int) + 1) ((s.size : Int) + 1) (by omega) (by omega) (by rw [hb2']; omega) (by omega)
    rw [hb1', Nat.mul_one] at this
    exact this
  clear hA hB hcA hcB hT hB0 P0 Q0 HNA HNB HTb HK2
  go_enter Tryd.func7, Tryd.ntmps7
  go_wp2_with fail
  rw [← hW0]
  clear hW0
  refine Calls.mono r1.out ?_
  rintro e w1 ⟨rfl, hb1⟩
  have HB1 : Hid _ := HU.out _ _ (Below.refl _ _) hb1
  clear r1 hb1
  obtain ⟨⟨d0, d1, d2, d3, d4, d5, d6, d7, d8⟩, e0, e1, e2, e3, e4, e5, e6, e7, e8⟩ := H9.out w1 HB1.out
  simp only [Nat.zero_add] at d1 d2 d3 d4 d5 d6 d7 d8 e1 e2 e3 e4 e5 e6 e7 e8
  go_wp2_with fail
  refine Calls.mono (r2.out w1 HB1.out) ?_
  rintro e w2 ⟨⟨c, rfl, hc⟩, hb2⟩
  have HB2 : Hid _ := HU.out _ _ HB1.out hb2
  clear r2 hb2 HB1 d0 d1 d2 d3 d4 d5 d6 d7 d8 e0 e1 e2 e3 e4 e5 e6 e7 e8
  obtain ⟨⟨d0, d1, d2, d3, d4, d5, d6, d7, d8⟩, e0, e1, e2, e3, e4, e5, e6, e7, e8⟩ := H9.out w2 HB2.out
  simp only [Nat.zero_add] at d1 d2 d3 d4 d5 d6 d7 d8 e1 e2 e3 e4 e5 e6 e7 e8
  by_cases hc0 : c = 0
  · subst hc0
    clear hc
    go_wp2_with fail
    refine Calls.mono (r3.out w2 HB2.out) ?_
    rintro e w3 ⟨⟨c, rfl, hc⟩, hb3⟩
    have HB3 : Hid _ := HU.out _ _ HB2.out hb3
    clear r3 hb3 HB2 d0 d1 d2 d3 d4 d5 d6 d7 d8 e0 e1 e2 e3 e4 e5 e6 e7 e8
    obtain ⟨⟨d0, d1, d2, d3, d4, d5, d6, d7, d8⟩, e0, e1, e2, e3, e4, e5, e6, e7, e8⟩ := H9.out w3 HB3.out
    simp only [Nat.zero_add] at d1 d2 d3 d4 d5 d6 d7 d8 e1 e2 e3 e4 e5 e6 e7 e8
    by_cases hc0 : c = 0
    · subst hc0
      clear hc
      go_wp2_with fail
      refine Calls.mono (r4.out w3 HB3.out) ?_
      rintro e w4 ⟨xa, xc, rfl, ho4, hb4⟩
      have HB4 : Hid _ := HU.out _ _ HB3.out hb4
      clear r4 HB3 d0 d1 d2 d3 d4 d5 d6 d7 d8 e0 e1 e2 e3 e4 e5 e6 e7 e8
      obtain ⟨⟨d0, d1, d2, d3, d4, d5, d6, d7, d8⟩, e0, e1, e2, e3, e4, e5, e6, e7, e8⟩ := H9.out w4 HB4.out
      simp only [Nat.zero_add] at d1 d2 d3 d4 d5 d6 d7 d8 e1 e2 e3 e4 e5 e6 e7 e8
      have HO4 : Hid _ := ho4
      clear hb4 ho4
      go_wp2_with fail
      refine Calls.mono (r8.out w4 HB4.out) ?_
      rintro e w5 ⟨ya, yc, rfl, ho5, hb5⟩
      have HB5 : Hid _ := HU.out _ _ HB4.out hb5
      have HX5 : Hid _ := own_below HO4.out hb5
      have HY5 : Hid _ := ho5
      clear HB4 HO4 hb5 ho5 d0 d1 d2 d3 d4 d5 d6 d7 d8 e0 e1 e2 e3 e4 e5 e6 e7 e8
      obtain ⟨⟨d0, d1, d2, d3, d4, d5, d6, d7, d8⟩, e0, e1, e2, e3, e4, e5, e6, e7, e8⟩ := H9.out w5 HB5.out
      simp only [Nat.zero_add] at d1 d2 d3 d4 d5 d6 d7 d8 e1 e2 e3 e4 e5 e6 e7 e8
      have h56 := r6.out w5 HB5.out
      obtain ⟨W6, hW6⟩ : ∃ W6, W6 = w5.alloc (.cells #[.int .u8 (A.k : Int), .int .u64 (St.wd A.s 0 : Nat), .int .u64 (St.wd A.s 1 : Nat), .int .u64 (St.wd A.s 2 : Nat), .int .u64 (St.wd A.s 3 : Nat), .int .i64 A.mn, .int .i64 A.mx, .int .i64 A.gr, .slice aa A.kids.length ca, .int .u8 (B.k : Int), .int .u64 (St.wd B.s 0 : Nat), .int .u64 (St.wd B.s 1 : Nat), .int .u64 (St.wd B.s 2 : Nat), .int .u64 (St.wd B.s 3 : Nat), .int .i64 B.mn, .int .i64 B.mx, .int .i64 B.gr, .slice ab B.kids.length cb] 28) := ⟨_, rfl⟩
      have hb6 : Below w5.heap.size w5 W6 := by rw [hW6]; exact (Below.refl _ _).alloc (Nat.le_refl _) _
      rw [← hW6] at h56
      have HB6 : Hid _ := HU.out _ _ HB5.out hb6
      have H56 : Hid _ := h56
      have HX6 : Hid _ := own_below HX5.out hb6
      have HY6 : Hid _ := own_below HY5.out hb6
      clear r6 h56 hb6 HB5 HX5 HY5 r8
      go_wp2_with fail
      rw [← hW6]
      clear hW6 d0 d1 d2 d3 d4 d5 d6 d7 d8 e0 e1 e2 e3 e4 e5 e6 e7 e8
      refine Calls.mono H56.out ?_
      rintro e w7 ⟨ka, kc, rfl, ho7, hb7⟩
      have HB7 : Hid _ := HU.out _ _ HB6.out hb7
      have HX7 : Hid _ := own_below HX6.out hb7
      have HY7 : Hid _ := own_below HY6.out hb7
      have HC7 : Hid _ := ho7
      clear H56 HB6 HX6 HY6 hb7 ho7
      obtain ⟨⟨d0, d1, d2, d3, d4, d5, d6, d7, d8⟩, e0, e1, e2, e3, e4, e5, e6, e7, e8⟩ := H9.out w7 HB7.out
      simp only [Nat.zero_add] at d1 d2 d3 d4 d5 d6 d7 d8 e1 e2 e3 e4 e5 e6 e7 e8
      have h78 := r7.out w7 HB7.out
      obtain ⟨W8, hW8⟩ : ∃ W8, W8 = w7.alloc (.cells #[.int .u8 (A.k : Int), .int .u64 (St.wd A.s 0 : Nat), .int .u64 (St.wd A.s 1 : Nat), .int .u64 (St.wd A.s 2 : Nat), .int .u64 (St.wd A.s 3 : Nat), .int .i64 A.mn, .int .i64 A.mx, .int .i64 A.gr, .slice aa A.kids.length ca, .int .u8 (B.k : Int), .int .u64 (St.wd B.s 0 : Nat), .int .u64 (St.wd B.s 1 : Nat), .int .u64 (St.wd B.s 2 : Nat), .int .u64 (St.wd B.s 3 : Nat), .int .i64 B.mn, .int .i64 B.mx, .int .i64 B.gr, .slice ab B.kids.length cb] 28) := ⟨_, rfl⟩
      have hb8 : Below w7.heap.size w7 W8 := by rw [hW8]; exact (Below.refl _ _).alloc (Nat.le_refl _) _
      rw [← hW8] at h78
      have HB8 : Hid _ := HU.out _ _ HB7.out hb8
      have H78 : Hid _ := h78
      have HX8 : Hid _ := own_below HX7.out hb8
      have HY8 : Hid _ := own_below HY7.out hb8
      have HC8 : Hid _ := own_below HC7.out hb8
      clear r7 h78 hb8 HB7 HX7 HY7 HC7
      go_wp2_with fail
      rw [← hW8]
      clear hW8 d0 d1 d2 d3 d4 d5 d6 d7 d8 e0 e1 e2 e3 e4 e5 e6 e7 e8
      refine Calls.mono H78.out ?_
      rintro e w9 ⟨la, lc, rfl, ho9, hb9⟩
      have HB9 : Hid _ := HU.out _ _ HB8.out hb9
      have HX9 : Hid _ := own_below HX8.out hb9
      have HY9 : Hid _ := own_below HY8.out hb9
      have HC9 : Hid _ := own_below HC8.out hb9
      have HD9 : Hid _ := ho9
      clear H78 HB8 HX8 HY8 HC8 hb9 ho9
      by_cases hall : o1 = true ∧ o2 = true ∧ o3 = true ∧ o4 = true
      · obtain ⟨rfl, rfl, rfl, rfl⟩ := hall
        have HG : Hid _ := HOK.out rfl rfl rfl rfl
        clear HOK
        go_wp2_with (rw [HMK.out])
        obtain ⟨W10, hW10⟩ : ∃ W10, W10 = (w9.alloc (.cells (madeCells #[.bool false] (s.size + 1)) 4)).alloc (.cells (madeCells #[.bool false] (s.size + 1)) 4) := ⟨_, rfl⟩
        have hb10 : Below w9.heap.size w9 W10 := by rw [hW10]; exact ((Below.refl _ _).alloc (Nat.le_refl _) _).alloc (by simp) _
        have hs10 : W10.heap.size = w9.heap.size + 2 := by rw [hW10]; simp
        have T1 : Nt.Bt W10 w9.heap.size (List.replicate (s.size + 1) false) := by
          unfold Nt.Bt
          rw [hW10, heap_alloc_old _ _ (by simp)]
          exact Nt.made_bt w9 (s.size + 1)
        have T2 : Nt.Bt W10 (w9.heap.size + 1) (List.replicate (s.size + 1) false) := by
          rw [hW10]
          have := Nt.made_bt (w9.alloc (.cells (madeCells #[.bool false] (s.size + 1)) 4)) (s.size + 1)
          rwa [World.size_alloc] at this
        have HT1 : Hid _ := T1
        have HT2 : Hid _ := T2
        have HB10 : Hid _ := HU.out _ _ HB9.out hb10
        have hsW := HB9.out.size
        have HNo : Hid (∀ j, ¬ (List.replicate (s.size + 1) false).getD j false = true) := fun j => by
          rw [List.getD_eq_getElem?_getD, List.getElem?_replicate]
          split <;> simp
        obtain ⟨g1, hg1⟩ : ∃ g1, g1 = w9.heap.size := ⟨_, rfl⟩
        have HKeep : Hid (∀ wr, Nt.Bz g1 (g1 + 1) W10 wr → ∀ (base n : Nat) (v : Value) (xs : List Value), w9.ownsRow base 3 1 v n xs → wr.ownsRow base 3 1 v n xs) := fun wr hz base n v xs ho => Nt.own_blk ho (fun q e => by
          have hq := (World.ownsRow.lt ho q e).2
          exact (hz.block q (by omega) (by omega) (by omega)).trans (hb10.block q hq))
        have HBel : Hid (∀ wr, Nt.Bz g1 (g1 + 1) W10 wr → Below W0.heap.size W0 wr) := fun wr hz => HB10.out.trans (hz.below (by omega) (by omega) HB10.out.size)
        rw [← hW10]
        rw [← hg1] at HT1 HT2 hs10 ⊢
        have Hg : Hid (g1 = w9.heap.size) := hg1
        have hgW : W0.heap.size ≤ g1 := by omega
        clear hW10 hb10 T1 T2 hg1
        go_loopw [19] (fun iv wr => ∃ (i : Nat) (b1 b2 : List Bool), i ≤ X.length ∧ iv = .int .i64 (i : Int) ∧ Nt.Bt wr g1 b1 ∧ Nt.Bt wr (g1 + 1) b2 ∧ b1.length = s.size + 1 ∧ b2.length = s.size + 1 ∧ Nt.Bz g1 (g1 + 1) W10 wr ∧ (∀ e, b2.getD e false = true ↔ e ∈ X.take i) ∧ (∀ e, b1.getD e false = true ↔ ∃ m ∈ X.take i, e ∈ Nt.endsA (Nt.prgC B) s m)) (fun iv _ => X.length - (intOf iv).toNat)
        case atStart => exact ⟨0, _, _, by omega, rfl, HT1.out, HT2.out, by simp, by simp, Nt.Bz.refl _ _ _, fun e => ⟨fun h => absurd h (HNo.out e), fun h => by simp at h⟩, fun e => ⟨fun h => absurd h (HNo.out e), fun h => by simp at h⟩⟩
        case round =>
          clear HT1 HT2 HNo
          obtain ⟨i, b1, b2, hi, rfl, hT1, hT2, hl1, hl2, hz, hm2, hm1⟩ := hrel
          rename World => K
          by_cases hlt : i < X.length
          · have hxs : X[i] ≤ s.size := HG.out.1 _ (List.getElem_mem hlt)
            obtain ⟨gx, rfl, hgx, cX⟩ := Nt.ints_at (HKeep.out K hz _ _ _ _ HX9.out) hlt
            have hgx9 : gx < g1 := by rw [Hg.out]; exact (World.ownsRow.lt HX9.out gx rfl).2
            have hK1 := hT1.lt
            have hK2 := hT2.lt
            have c2 : K.cell? ⟨g1 + 1, X[i], none⟩ = some (.bool (b2.getD (X[i]) false)) := hT2.cell (by omega)
            have f2 : K.frozen? ⟨g1 + 1, X[i], none⟩ = false := hT2.frozen _
            have HBK : Hid _ := HBel.out K hz
            have hm2' : ∀ e, (b2.set (X[i]) true).getD e false = true ↔ e ∈ X.take (i + 1) := fun e => by
              rw [Nt.getB_set b2 _ e (by omega), List.take_succ_eq_append_getElem hlt, List.mem_append, List.mem_singleton]
              split
              · rename_i he; simp [he]
              · rename_i he; rw [hm2 e]; simp [he]
            have HM1 : Hid (∀ e, (b1.getD e false = true ∨ e ∈ Nt.endsA (Nt.prgC B) s (X[i])) ↔ ∃ m ∈ X.take (i + 1), e ∈ Nt.endsA (Nt.prgC B) s m) := fun e => by
              rw [hm1 e, List.take_succ_eq_append_getElem hlt]
              constructor
              · rintro (⟨m, h1, h2⟩ | h)
                · exact ⟨m, List.mem_append_left _ h1, h2⟩
                · exact ⟨_, List.mem_append_right _ (by simp), h⟩
              · rintro ⟨m, h1, h2⟩
                rcases List.mem_append.1 h1 with h1 | h1
                · exact .inl ⟨m, h1, h2⟩
                · obtain rfl : m = X[i] := by simpa using h1
                  exact .inr h2
            have hZl := (HG.out.2.2.1 _ hxs).2
            have hrun := fun w' hb => r5.out ((X[i] : Nat) : Int) w' hb
            rw [(HG.out.2.2.1 _ hxs).1] at hrun
            have hZn := Nt.rnR_len B s ((X[i] : Nat) : Int) hs
            rw [(HG.out.2.2.1 _ hxs).1] at hZn
            obtain ⟨x, hx⟩ : ∃ x, X[i] = x := ⟨_, rfl⟩
            rw [hx] at hxs cX c2 f2 hm2' HM1 hZl hrun hZn
            obtain ⟨Z, hZ⟩ : ∃ Z, Z = Nt.endsA (Nt.prgC B) s x := ⟨_, rfl⟩
            rw [← hZ] at HM1 hZl hrun hZn
            obtain ⟨K1, hK1e⟩ : ∃ K1, K1 = K.setCell ⟨g1 + 1, x, none⟩ (.bool true) := ⟨_, rfl⟩
            have hsK1 : K1.heap.size = K.heap.size := by rw [hK1e]; simp
            have t1 : Nt.Bt K1 g1 b1 := by rw [hK1e]; exact (heap_setCell_other K ⟨g1 + 1, x, none⟩ g1 _ (by simp)).trans hT1
            have t2 : Nt.Bt K1 (g1 + 1) (b2.set x true) := by rw [hK1e]; exact hT2.set x
            have z1 : Nt.Bz g1 (g1 + 1) W10 K1 := by
              rw [hK1e]
              exact hz.trans ⟨rfl, rfl, rfl, by simp, fun q hq h1 h2 => heap_setCell_other K ⟨g1 + 1, x, none⟩ q _ h2⟩
            have hb1 := HBel.out K1 z1
            have cX1 : K1.cell? ⟨gx, i, none⟩ = some (.int .i64 (x : Int)) := by rw [hK1e]; exact (World.cell?_of_block (a := ⟨gx, i, none⟩) (heap_setCell_other K ⟨g1 + 1, x, none⟩ gx _ (by simp only; omega))).trans cX
            obtain ⟨_, e0, e1, e2, e3, e4, e5, e6, e7, e8⟩ := H9.out K1 hb1
            simp only [Nat.zero_add] at e1 e2 e3 e4 e5 e6 e7 e8
            have HT1 : Hid _ := t1
            have HT2 : Hid _ := t2
            have HZ1 : Hid _ := z1
            have Hb1 : Hid _ := hb1
            have HRn : Hid _ := hrun
            have HZl : Hid _ := hZl
            have HM2 : Hid _ := hm2'
            have Hl1 : Hid _ := hl1
            have Hl2 : Hid (List.length (b2.set x true) = s.size + 1) := by show _ = _; simpa using hl2
            have HXi : Hid _ := hx
            clear hT1 hT2 hl1 hl2 hz hm2 hm1 hm2' hZl hrun t1 t2 z1 hb1 hx hZ
            go_wp2_with fail
            rw [← hK1e]
            clear hK1e c2 f2 cX
            refine wp_region_noPanic ?_
            have hS0 : (fun w' : World => w'.cell? ⟨w.heap.size + 1, 0, none⟩ = some (.int .u8 (B.k : Int)) ∧ w'.cell? ⟨w.heap.size + 1, 1, none⟩ = some (.int .u64 (St.wd B.s 0 : Nat)) ∧ w'.cell? ⟨w.heap.size + 1, 2, none⟩ = some (.int .u64 (St.wd B.s 1 : Nat)) ∧ w'.cell? ⟨w.heap.size + 1, 3, none⟩ = some (.int .u64 (St.wd B.s 2 : Nat)) ∧ w'.cell? ⟨w.heap.size + 1, 4, none⟩ = some (.int .u64 (St.wd B.s 3 : Nat)) ∧ w'.cell? ⟨w.heap.size + 1, 5, none⟩ = some (.int .i64 B.mn) ∧ w'.cell? ⟨w.heap.size + 1, 6, none⟩ = some (.int .i64 B.mx) ∧ w'.cell? ⟨w.heap.size + 1, 7, none⟩ = some (.int .i64 B.gr) ∧ w'.cell? ⟨w.heap.size + 1, 8, none⟩ = some (.slice ab B.kids.length cb) ∧ w'.cell? ⟨gx, i, none⟩ = some (.int .i64 (x : Int))) K1 := ⟨e0, e1, e2, e3, e4, e5, e6, e7, e8, cX1⟩
            have HS0 : Hid _ := hS0
            have HSk : Hid (∀ w', Below K1.heap.size K1 w' → (fun w' : World => w'.cell? ⟨w.heap.size + 1, 0, none⟩ = some (.int .u8 (B.k : Int)) ∧ w'.cell? ⟨w.heap.size + 1, 1, none⟩ = some (.int .u64 (St.wd B.s 0 : Nat)) ∧ w'.cell? ⟨w.heap.size + 1, 2, none⟩ = some (.int .u64 (St.wd B.s 1 : Nat)) ∧ w'.cell? ⟨w.heap.size + 1, 3, none⟩ = some (.int .u64 (St.wd B.s 2 : Nat)) ∧ w'.cell? ⟨w.heap.size + 1, 4, none⟩ = some (.int .u64 (St.wd B.s 3 : Nat)) ∧ w'.cell? ⟨w.heap.size + 1, 5, none⟩ = some (.int .i64 B.mn) ∧ w'.cell? ⟨w.heap.size + 1, 6, none⟩ = some (.int .i64 B.mx) ∧ w'.cell? ⟨w.heap.size + 1, 7, none⟩ = some (.int .i64 B.gr) ∧ w'.cell? ⟨w.heap.size + 1, 8, none⟩ = some (.slice ab B.kids.length cb) ∧ w'.cell? ⟨gx, i, none⟩ = some (.int .i64 (x : Int))) w') := fun w' hb' => by
              obtain ⟨_, e0, e1, e2, e3, e4, e5, e6, e7, e8⟩ := H9.out w' (HU.out _ _ Hb1.out hb')
              simp only [Nat.zero_add] at e1 e2 e3 e4 e5 e6 e7 e8
              exact ⟨e0, e1, e2, e3, e4, e5, e6, e7, e8, (hb'.cell (p := ⟨gx, i, none⟩) (show gx < K1.heap.size by omega)).trans cX1⟩
            clear hS0 e0 e1 e2 e3 e4 e5 e6 e7 e8
            go_region_held (fun w' => w'.cell? ⟨w.heap.size + 1, 0, none⟩ = some (.int .u8 (B.k : Int)) ∧ w'.cell? ⟨w.heap.size + 1, 1, none⟩ = some (.int .u64 (St.wd B.s 0 : Nat)) ∧ w'.cell? ⟨w.heap.size + 1, 2, none⟩ = some (.int .u64 (St.wd B.s 1 : Nat)) ∧ w'.cell? ⟨w.heap.size + 1, 3, none⟩ = some (.int .u64 (St.wd B.s 2 : Nat)) ∧ w'.cell? ⟨w.heap.size + 1, 4, none⟩ = some (.int .u64 (St.wd B.s 3 : Nat)) ∧ w'.cell? ⟨w.heap.size + 1, 5, none⟩ = some (.int .i64 B.mn) ∧ w'.cell? ⟨w.heap.size + 1, 6, none⟩ = some (.int .i64 B.mx) ∧ w'.cell? ⟨w.heap.size + 1, 7, none⟩ = some (.int .i64 B.gr) ∧ w'.cell? ⟨w.heap.size + 1, 8, none⟩ = some (.slice ab B.kids.length cb) ∧ w'.cell? ⟨gx, i, none⟩ = some (.int .i64 (x : Int))) (first | exact HS0.out | exact HSk.out _ hb5') (first | (go_at_call 29; refine Calls.mono (HRn.out _ Hb1.out.drew) ?_; rintro e w5' ⟨va, vc, rfl, ho5', hb5⟩; (have hb5' : Below K1.heap.size K1 w5' := ⟨hb5.os, hb5.tape, hb5.output, hb5.size, hb5.block⟩)))
            refine NoPanic.normal ?_
            rename World.cell? _ _ = _ ∧ _ => hHeld
            have HZr : Hid (∀ k (hk : k < Z.length), ∃ gz, va = some ⟨gz, 0, none⟩ ∧ K1.heap.size ≤ gz ∧ gz < w5'.heap.size ∧ w5'.cell? ⟨gz, k, none⟩ = some (.int .i64 (Z[k] : Int))) := fun k hk => by
              obtain ⟨gz, e, h1, h2⟩ := Nt.ints_at ho5' hk
              exact ⟨gz, e, (World.ownsRow.lt ho5' gz (by rw [e]; rfl)).1, h1, h2⟩
            have HT15 : Hid (Nt.Bt w5' g1 b1) := (hb5'.block g1 (by omega)).trans HT1.out
            have HT25 : Hid (Nt.Bt w5' (g1 + 1) (b2.set x true)) := (hb5'.block _ (by omega)).trans HT2.out
            have HZ5 : Hid (Nt.Bz g1 (g1 + 1) W10 w5') := HZ1.out.trans (Nt.Bz.of_below hb5')
            have hs5 := hb5'.size
            clear hHeld ho5' hb5 hb5' HT1 HT2 HZ1 Hb1 HRn HS0 HSk
            go_wp2_with fail
            go_loopw [22] (fun kv wr => ∃ (k : Nat) (b : List Bool), k ≤ Z.length ∧ kv = .int .i64 (k : Int) ∧ Nt.Bt wr g1 b ∧ b.length = s.size + 1 ∧ Bx g1 w5' wr ∧ (∀ e, b.getD e false = true ↔ (b1.getD e false = true ∨ e ∈ Z.take k))) (fun kv _ => Z.length - (intOf kv).toNat)
            case atStart => exact ⟨0, b1, by omega, rfl, HT15.out, Hl1.out, Bx.refl _ _, fun e => ⟨.inl, fun h => h.elim id (fun h => by simp at h)⟩⟩
            case round =>
              obtain ⟨k, b, hk, rfl, hBt, hbl, hBx, hmk⟩ := hrel
              by_cases hkl : k < Z.length
              · have hys : Z[k] ≤ s.size := HZl.out _ (List.getElem_mem hkl)
                obtain ⟨gz, rfl, hgz, hgz2, cZ⟩ := HZr.out k hkl
                have cz : wr.cell? ⟨gz, k, none⟩ = some (.int .i64 (Z[k] : Int)) := (World.cell?_of_block (a := ⟨gz, k, none⟩) (hBx.block gz hgz2 (by omega))).trans cZ
                have c1 : wr.cell? ⟨g1, Z[k], none⟩ = some (.bool (b.getD (Z[k]) false)) := hBt.cell (by omega)
                have f1 : wr.frozen? ⟨g1, Z[k], none⟩ = false := hBt.frozen _
                have HMk : Hid (∀ e, (b.set (Z[k]) true).getD e false = true ↔ (b1.getD e false = true ∨ e ∈ Z.take (k + 1))) := fun e => by
                  rw [Nt.getB_set b _ e (by omega), List.take_succ_eq_append_getElem hkl, List.mem_append, List.mem_singleton]
                  split
                  · rename_i he; simp [he]
                  · rename_i he; rw [hmk e]; simp [he]
                have HBs : Hid (Nt.Bt (wr.setCell ⟨g1, Z[k], none⟩ (.bool true)) g1 (b.set (Z[k]) true)) := hBt.set _
                have HXs : Hid (Bx g1 w5' (wr.setCell ⟨g1, Z[k], none⟩ (.bool true))) := hBx.trans (Bx.set g1 _ wr _)
                obtain ⟨y, hy⟩ : ∃ y, Z[k] = y := ⟨_, rfl⟩
                rw [hy] at hys cz c1 f1 HMk HBs HXs
                have Hbl : Hid (List.length (b.set y true) = s.size + 1) := by show _ = _; simpa using hbl
                clear hBt hbl hBx hmk cZ hy
                go_wp2_with fail
                go_roundw
                case rel => exact ⟨k + 1, b.set y true, by omega, by go_num, HBs.out, Hbl.out, HXs.out, HMk.out⟩
                case measure => simp [intOf]; omega
              · obtain rfl : k = Z.length := by omega
                rw [List.take_of_length_le (Nat.le_refl _)] at hmk
                have HBe : Hid _ := hBt
                have HB2e : Hid (Nt.Bt wr (g1 + 1) (b2.set x true)) := (hBx.block _ (by have := Nt.Bt.lt HT25.out; omega) (by omega)).trans HT25.out
                have HZe : Hid (Nt.Bz g1 (g1 + 1) W10 wr) := HZ5.out.trans ⟨hBx.os, hBx.tape, hBx.output, hBx.size, fun q hq h1 _ => hBx.block q hq h1⟩
                have HMe : Hid (∀ e, b.getD e false = true ↔ ∃ m ∈ X.take (i + 1), e ∈ Nt.endsA (Nt.prgC B) s m) := fun e => (hmk e).trans (HM1.out e)
                have Hbl : Hid _ := hbl
                clear hBt hbl hBx hmk
                go_wp2_with fail
                go_roundw
                case rel => exact ⟨i + 1, b, b2.set x true, by omega, by go_num, HBe.out, HB2e.out, Hbl.out, Hl2.out, HZe.out, HM2.out, HMe.out⟩
                case measure => simp [intOf]; omega
          · obtain rfl : i = X.length := by omega
            rw [List.take_of_length_le (Nat.le_refl _)] at hm2 hm1
            have HYK : Hid _ := HKeep.out K hz _ _ _ _ HY9.out
            have HCK : Hid _ := HKeep.out K hz _ _ _ _ HC9.out
            have HDK : Hid _ := HKeep.out K hz _ _ _ _ HD9.out
            have HBK : Hid _ := HBel.out K hz
            have HYg : Hid (∀ q, (Value.slice ya Y.length yc).ownBlock = some q → q < g1) := fun q e => by rw [Hg.out]; exact (World.ownsRow.lt HY9.out q e).2
            have HCg : Hid (∀ q, (Value.slice ka C.length kc).ownBlock = some q → q < g1) := fun q e => by rw [Hg.out]; exact (World.ownsRow.lt HC9.out q e).2
            have HDg : Hid (∀ q, (Value.slice la D.length lc).ownBlock = some q → q < g1) := fun q e => by rw [Hg.out]; exact (World.ownsRow.lt HD9.out q e).2
            have HT1 : Hid _ := hT1
            have HT2 : Hid _ := hT2
            have Hl1 : Hid _ := hl1
            have Hl2 : Hid _ := hl2
            have HM2 : Hid _ := hm2
            have HM1 : Hid _ := hm1
            clear hT1 hT2 hl1 hl2 hz hm2 hm1 HX9 HY9 HC9 HD9 HKeep HBel HB9 HB10 r5 H9
            go_wp2_with fail
            go_loopw [23] (fun iv wr => ∃ (i : Nat) (b : List Bool), i ≤ Y.length ∧ iv = .int .i64 (i : Int) ∧ Nt.Bt wr (g1 + 1) b ∧ b.length = s.size + 1 ∧ Bx (g1 + 1) K wr ∧ (∀ e, b.getD e false = true ↔ (b2.getD e false = true ∨ e ∈ Y.take i))) (fun iv _ => Y.length - (intOf iv).toNat)
            case atStart => exact ⟨0, b2, by omega, rfl, HT2.out, Hl2.out, Bx.refl _ _, fun e => ⟨.inl, fun h => h.elim id (fun h => by simp at h)⟩⟩
            case round =>
              obtain ⟨i, b, hi, rfl, hBt, hbl, hBx, hmk⟩ := hrel
              by_cases hil : i < Y.length
              · have hys : Y[i] ≤ s.size := HG.out.2.1 _ (List.getElem_mem hil)
                obtain ⟨gy, rfl, hgy, cY⟩ := Nt.ints_at HYK.out hil
                have hgy1 := HYg.out gy rfl
                have cy : wr.cell? ⟨gy, i, none⟩ = some (.int .i64 (Y[i] : Int)) := (World.cell?_of_block (a := ⟨gy, i, none⟩) (hBx.block gy hgy (by omega))).trans cY
                have c1 : wr.cell? ⟨g1 + 1, Y[i], none⟩ = some (.bool (b.getD (Y[i]) false)) := hBt.cell (by omega)
                have f1 : wr.frozen? ⟨g1 + 1, Y[i], none⟩ = false := hBt.frozen _
                have HMk : Hid (∀ e, (b.set (Y[i]) true).getD e false = true ↔ (b2.getD e false = true ∨ e ∈ Y.take (i + 1))) := fun e => by
                  rw [Nt.getB_set b _ e (by omega), List.take_succ_eq_append_getElem hil, List.mem_append, List.mem_singleton]
                  split
                  · rename_i he; simp [he]
                  · rename_i he; rw [hmk e]; simp [he]
                have HBs : Hid (Nt.Bt (wr.setCell ⟨g1 + 1, Y[i], none⟩ (.bool true)) (g1 + 1) (b.set (Y[i]) true)) := hBt.set _
                have HXs : Hid (Bx (g1 + 1) K (wr.setCell ⟨g1 + 1, Y[i], none⟩ (.bool true))) := hBx.trans (Bx.set (g1 + 1) _ wr _)
                obtain ⟨y, hy⟩ : ∃ y, Y[i] = y := ⟨_, rfl⟩
                rw [hy] at hys cy c1 f1 HMk HBs HXs
                have Hbl : Hid (List.length (b.set y true) = s.size + 1) := by show _ = _; simpa using hbl
                clear hBt hbl hBx hmk cY hy
                go_wp2_with fail
                go_roundw
                case rel => exact ⟨i + 1, b.set y true, by omega, by go_num, HBs.out, Hbl.out, HXs.out, HMk.out⟩
                case measure => simp [intOf]; omega
              · obtain rfl : i = Y.length := by omega
                rw [List.take_of_length_le (Nat.le_refl _)] at hmk
                rename World => K4
                have T14 : Nt.Bt K4 g1 b1 := (hBx.block g1 (by have := Nt.Bt.lt HT1.out; omega) (by omega)).trans HT1.out
                have HC4 : Hid _ := Nt.own_blk HCK.out (fun q e => hBx.block q (World.ownsRow.lt HCK.out q e).2 (by have := HCg.out q e; omega))
                have HD4 : Hid _ := Nt.own_blk HDK.out (fun q e => hBx.block q (World.ownsRow.lt HDK.out q e).2 (by have := HDg.out q e; omega))
                have HB4 : Hid (Below W0.heap.size W0 K4) := HBK.out.trans (hBx.below (by omega) HBK.out.size)
                have hg14 := T14.lt
                have hg24 := hBt.lt
                have Hc1 : Hid (∀ i, i < s.size + 1 → K4.cell? ⟨g1, i, none⟩ = some (.bool (b1.getD i false))) := fun i hi => T14.cell (by rw [Hl1.out]; exact hi)
                have Hc2 : Hid (∀ i, i < s.size + 1 → K4.cell? ⟨g1 + 1, i, none⟩ = some (.bool (b.getD i false))) := fun i hi => hBt.cell (by rw [hbl]; exact hi)
                have inB : ∀ (b : List Bool), b.length = s.size + 1 → ∀ e, e ∈ (List.range (s.size + 1)).filter (fun e => b.getD e false) ↔ b.getD e false = true := fun b hb e => by
                  rw [List.mem_filter, List.mem_range]
                  refine ⟨fun h => h.2, fun h => ⟨?_, h⟩⟩
                  rw [List.getD_eq_getElem?_getD] at h
                  by_cases he : e < b.length
                  · omega
                  · rw [List.getElem?_eq_none (by omega)] at h; cases h
                have HeC : Hid (C = (List.range (s.size + 1)).filter (fun e => b1.getD e false)) := Nt.rise_eq HG.out.2.2.2.1 (Nt.range_rise _ _) (fun e => by rw [inB b1 Hl1.out e, HM1.out e, HG.out.2.2.2.2.2.1 e])
                have HeD : Hid (D = (List.range (s.size + 1)).filter (fun e => b.getD e false)) := Nt.rise_eq HG.out.2.2.2.2.1 (Nt.range_rise _ _) (fun e => by rw [inB b hbl e, hmk e, HM2.out e, HG.out.2.2.2.2.2.2 e])
                obtain ⟨p1, hp1⟩ : ∃ p1 : Nat → Bool, p1 = fun e => b1.getD e false := ⟨_, rfl⟩
                obtain ⟨p2, hp2⟩ : ∃ p2 : Nat → Bool, p2 = fun e => b.getD e false := ⟨_, rfl⟩
                have Hd1 : Hid (∀ i, i < s.size + 1 → K4.cell? ⟨g1, i, none⟩ = some (.bool (p1 i))) := by rw [hp1]; exact Hc1.out
                have Hd2 : Hid (∀ i, i < s.size + 1 → K4.cell? ⟨g1 + 1, i, none⟩ = some (.bool (p2 i))) := by rw [hp2]; exact Hc2.out
                rw [← hp1] at HeC
                rw [← hp2] at HeD
                clear hBt hbl hBx hmk T14 HT1 HT2 Hl1 Hl2 HM1 HM2 HCK HDK HYK HBK HYg HCg HDg Hc1 Hc2 inB hp1 hp2 HG Hg
                go_wp2_with fail
                go_loopw [24, 25, 26] (fun wv ev iv wr => ∃ i : Nat, i ≤ s.size + 1 ∧ iv = .int .i64 (i : Int) ∧ Below K4.heap.size K4 wr ∧ wr.ownsRow K4.heap.size 3 1 wv ((List.range i).filter p1).length (Nt.icellsN ((List.range i).filter p1)) ∧ wr.ownsRow K4.heap.size 3 1 ev ((List.range i).filter p2).length (Nt.icellsN ((List.range i).filter p2)) ∧ Nt.Sep wv ev) (fun _ _ iv _ => s.size + 1 - (intOf iv).toNat)
                case atStart => exact ⟨0, by omega, rfl, Below.refl _ _, World.ownsRow_nil _ _ _ _, World.ownsRow_nil _ _ _ _, fun q h => by cases h⟩
                case round =>
                  obtain ⟨i, hi, rfl, hB, hw, he, hsep⟩ := hrel
                  have hsz := hB.size
                  have hl1 := Nt.range_len p1 i
                  have hl2 := Nt.range_len p2 i
                  by_cases hil : i < s.size + 1
                  · have c1 : wr.cell? ⟨g1, i, none⟩ = some (.bool (p1 i)) := (hB.cell (p := ⟨g1, i, none⟩) hg14).trans (Hd1.out i hil)
                    have c2 : wr.cell? ⟨g1 + 1, i, none⟩ = some (.bool (p2 i)) := (hB.cell (p := ⟨g1 + 1, i, none⟩) hg24).trans (Hd2.out i hil)
                    have hr1 := Nt.range_succ_filter p1 i
                    have hr2 := Nt.range_succ_filter p2 i
                    obtain ⟨wa, wc, rfl⟩ := Nt.own_form hw
                    obtain ⟨ea, ec, rfl⟩ := Nt.own_form he
                    obtain ⟨L1, hL1⟩ : ∃ L1, L1 = (List.range i).filter p1 := ⟨_, rfl⟩
                    obtain ⟨L2, hL2⟩ : ∃ L2, L2 = (List.range i).filter p2 := ⟨_, rfl⟩
                    rw [← hL1] at hw hsep hl1 hr1 ⊢
                    rw [← hL2] at he hsep hl2 hr2 ⊢
                    have HB : Hid _ := hB
                    have Hw : Hid _ := hw
                    have He : Hid _ := he
                    have Hs : Hid _ := hsep
                    clear hB hw he hsep hL1 hL2
                    cases h1 : p1 i <;> cases h2 : p2 i
                    · rw [h1] at c1 hr1
                      rw [h2] at c2 hr2
                      simp only [Bool.false_eq_true, if_false, List.append_nil] at hr1 hr2
                      have Hr1 : Hid _ := hr1
                      have Hr2 : Hid _ := hr2
                      clear hr1 hr2 h1 h2
                      go_wp2_with fail
                      go_roundw
                      case rel => exact ⟨i + 1, by omega, by go_num, HB.out, by rw [Hr1.out]; exact Hw.out, by rw [Hr2.out]; exact He.out, Hs.out⟩
                      case measure => simp [intOf]; omega
                    · rw [h1] at c1 hr1
                      rw [h2] at c2 hr2
                      simp only [Bool.false_eq_true, if_false, if_true, List.append_nil] at hr1 hr2
                      have Hr1 : Hid _ := hr1
                      have Hr2 : Hid _ := hr2
                      clear hr1 hr2 h1 h2
                      go_wp2_with (at_builtin; refine Nt.wpList_append_far _ rfl _ _ 45 rfl K4.heap.size 3 i1 (.int .i64 0) 1 8 Tryd.underlying45 hi1 hy0 hy1 hy2 rfl (by decide) (.slice ea L2.length ec) L2.length (Nt.icellsN L2) rfl (World.ownsRow.alloc He.out _) ⟨wr.heap.size, 0, none⟩ 1 1 [.int .i64 (i : Int)] rfl rfl (Nt.one_new _ _ _) (fun u hu => by simp only [List.mem_singleton] at hu; subst hu; rfl) (by unfold maxLen; omega) (by omega) (by simp; omega) ?_)
                      intro v9 w9' ho9 hg9' _ hat9
                      obtain ⟨a9, c9, rfl, _, _⟩ := ho9.form (by omega)
                      have hg9 : wr.grownBy w9' (Value.slice ea L2.length ec).ownBlock := (World.grownBy_alloc wr _ _).trans hg9'
                      have HB9 : Hid (Below K4.heap.size K4 w9') := HB.out.trans ⟨hg9.os, hg9.tape, hg9.output, hg9.size, fun q hq => hg9.block q (by omega) (fun e => by have := (World.ownsRow.lt He.out q e.symm).1; omega)⟩
                      have Hw9 : Hid _ := Nt.Sep.kept (Nt.Sep.symm Hs.out) Hw.out hg9
                      have He9 : Hid (w9'.ownsRow K4.heap.size 3 1 (.slice (some ⟨a9, 0, none⟩) (L2.length + 1) c9) (L2 ++ [i]).length (Nt.icellsN (L2 ++ [i]))) := by
                        show World.ownsRow _ _ _ _ _ _ _
                        have e3 : (L2 ++ [i]).length = L2.length + 1 := by simp
                        have e4 : Nt.icellsN (L2 ++ [i]) = Nt.icellsN L2 ++ [.int .i64 (i : Int)] := by simp [Nt.icellsN]
                        rw [e3, e4]
                        exact ho9
                      have Hs9 : Hid (Nt.Sep (.slice wa L1.length wc) (.slice (some ⟨a9, 0, none⟩) (L2.length + 1) c9)) := Nt.Sep.symm (Nt.Sep.push (Nt.Sep.symm Hs.out) (fun q e => by have := (World.ownsRow.lt Hw.out q e).2; omega) hat9)
                      clear ho9 hg9' hat9 hg9
                      go_wp2_with fail
                      go_roundw
                      case rel => exact ⟨i + 1, by omega, by go_num, HB9.out, by rw [Hr1.out]; exact Hw9.out, by rw [Hr2.out]; exact He9.out, Hs9.out⟩
                      case measure => simp [intOf]; omega
                    · rw [h1] at c1 hr1
                      rw [h2] at c2 hr2
                      simp only [Bool.false_eq_true, if_false, if_true, List.append_nil] at hr1 hr2
                      have Hr1 : Hid _ := hr1
                      have Hr2 : Hid _ := hr2
                      clear hr1 hr2 h1 h2
                      go_wp2_with (at_builtin; refine Nt.wpList_append_far _ rfl _ _ 45 rfl K4.heap.size 3 i1 (.int .i64 0) 1 8 Tryd.underlying45 hi1 hy0 hy1 hy2 rfl (by decide) (.slice wa L1.length wc) L1.length (Nt.icellsN L1) rfl (World.ownsRow.alloc Hw.out _) ⟨wr.heap.size, 0, none⟩ 1 1 [.int .i64 (i : Int)] rfl rfl (Nt.one_new _ _ _) (fun u hu => by simp only [List.mem_singleton] at hu; subst hu; rfl) (by unfold maxLen; omega) (by omega) (by simp; omega) ?_)
                      intro v8 w8 ho8 hg8 _ hat8
                      obtain ⟨a8, c8, rfl, _, _⟩ := ho8.form (by omega)
                      have hg9 : wr.grownBy w8 (Value.slice wa L1.length wc).ownBlock := (World.grownBy_alloc wr _ _).trans hg8
                      have HB8 : Hid (Below K4.heap.size K4 w8) := HB.out.trans ⟨hg9.os, hg9.tape, hg9.output, hg9.size, fun q hq => hg9.block q (by omega) (fun e => by have := (World.ownsRow.lt Hw.out q e.symm).1; omega)⟩
                      have He8 : Hid _ := Nt.Sep.kept Hs.out He.out hg9
                      have Hw8 : Hid (w8.ownsRow K4.heap.size 3 1 (.slice (some ⟨a8, 0, none⟩) (L1.length + 1) c8) (L1 ++ [i]).length (Nt.icellsN (L1 ++ [i]))) := by
                        show World.ownsRow _ _ _ _ _ _ _
                        have e3 : (L1 ++ [i]).length = L1.length + 1 := by simp
                        have e4 : Nt.icellsN (L1 ++ [i]) = Nt.icellsN L1 ++ [.int .i64 (i : Int)] := by simp [Nt.icellsN]
                        rw [e3, e4]
                        exact ho8
                      have Hs8 : Hid (Nt.Sep (.slice (some ⟨a8, 0, none⟩) (L1.length + 1) c8) (.slice ea L2.length ec)) := Nt.Sep.push Hs.out (fun q e => by have := (World.ownsRow.lt He.out q e).2; omega) hat8
                      have c28 : w8.cell? ⟨g1 + 1, i, none⟩ = some (.bool false) := (HB8.out.cell (p := ⟨g1 + 1, i, none⟩) hg24).trans (((HB.out.cell (p := ⟨g1 + 1, i, none⟩) hg24).symm).trans c2)
                      have hsz8 := HB8.out.size
                      clear ho8 hg8 hat8 hg9 c1 c2
                      go_wp2_with fail
                      go_roundw
                      case rel => exact ⟨i + 1, by omega, by go_num, HB8.out, by rw [Hr1.out]; exact Hw8.out, by rw [Hr2.out]; exact He8.out, Hs8.out⟩
                      case measure => simp [intOf]; omega
                    · rw [h1] at c1 hr1
                      rw [h2] at c2 hr2
                      simp only [if_true] at hr1 hr2
                      have Hr1 : Hid _ := hr1
                      have Hr2 : Hid _ := hr2
                      clear hr1 hr2 h1 h2
                      go_wp2_with (at_builtin; refine Nt.wpList_append_far _ rfl _ _ 45 rfl K4.heap.size 3 i1 (.int .i64 0) 1 8 Tryd.underlying45 hi1 hy0 hy1 hy2 rfl (by decide) (.slice wa L1.length wc) L1.length (Nt.icellsN L1) rfl (World.ownsRow.alloc Hw.out _) ⟨wr.heap.size, 0, none⟩ 1 1 [.int .i64 (i : Int)] rfl rfl (Nt.one_new _ _ _) (fun u hu => by simp only [List.mem_singleton] at hu; subst hu; rfl) (by unfold maxLen; omega) (by omega) (by simp; omega) ?_)
                      intro v8 w8 ho8 hg8 _ hat8
                      obtain ⟨a8, c8, rfl, _, _⟩ := ho8.form (by omega)
                      have hg9 : wr.grownBy w8 (Value.slice wa L1.length wc).ownBlock := (World.grownBy_alloc wr _ _).trans hg8
                      have HB8 : Hid (Below K4.heap.size K4 w8) := HB.out.trans ⟨hg9.os, hg9.tape, hg9.output, hg9.size, fun q hq => hg9.block q (by omega) (fun e => by have := (World.ownsRow.lt Hw.out q e.symm).1; omega)⟩
                      have He8 : Hid _ := Nt.Sep.kept Hs.out He.out hg9
                      have Hw8 : Hid (w8.ownsRow K4.heap.size 3 1 (.slice (some ⟨a8, 0, none⟩) (L1.length + 1) c8) (L1 ++ [i]).length (Nt.icellsN (L1 ++ [i]))) := by
                        show World.ownsRow _ _ _ _ _ _ _
                        have e3 : (L1 ++ [i]).length = L1.length + 1 := by simp
                        have e4 : Nt.icellsN (L1 ++ [i]) = Nt.icellsN L1 ++ [.int .i64 (i : Int)] := by simp [Nt.icellsN]
                        rw [e3, e4]
                        exact ho8
                      have Hs8 : Hid (Nt.Sep (.slice (some ⟨a8, 0, none⟩) (L1.length + 1) c8) (.slice ea L2.length ec)) := Nt.Sep.push Hs.out (fun q e => by have := (World.ownsRow.lt He.out q e).2; omega) hat8
                      have c28 : w8.cell? ⟨g1 + 1, i, none⟩ = some (.bool true) := (HB8.out.cell (p := ⟨g1 + 1, i, none⟩) hg24).trans (((HB.out.cell (p := ⟨g1 + 1, i, none⟩) hg24).symm).trans c2)
                      have hsz8 := HB8.out.size
                      clear ho8 hg8 hat8 hg9 c1 c2
                      go_wp2_with (at_builtin; refine Nt.wpList_append_far _ rfl _ _ 45 rfl K4.heap.size 3 i1 (.int .i64 0) 1 8 Tryd.underlying45 hi1 hy0 hy1 hy2 rfl (by decide) (.slice ea L2.length ec) L2.length (Nt.icellsN L2) rfl (World.ownsRow.alloc He8.out _) ⟨w8.heap.size, 0, none⟩ 1 1 [.int .i64 (i : Int)] rfl rfl (Nt.one_new _ _ _) (fun u hu => by simp only [List.mem_singleton] at hu; subst hu; rfl) (by unfold maxLen; omega) (by omega) (by simp; omega) ?_)
                      intro v9 w9' ho9 hg9' _ hat9
                      obtain ⟨a9, c9, rfl, _, _⟩ := ho9.form (by omega)
                      have hg9 : w8.grownBy w9' (Value.slice ea L2.length ec).ownBlock := (World.grownBy_alloc w8 _ _).trans hg9'
                      have HB9 : Hid (Below K4.heap.size K4 w9') := HB8.out.trans ⟨hg9.os, hg9.tape, hg9.output, hg9.size, fun q hq => hg9.block q (by omega) (fun e => by have := (World.ownsRow.lt He8.out q e.symm).1; omega)⟩
                      have Hw9 : Hid _ := Nt.Sep.kept (Nt.Sep.symm Hs8.out) Hw8.out hg9
                      have He9 : Hid (w9'.ownsRow K4.heap.size 3 1 (.slice (some ⟨a9, 0, none⟩) (L2.length + 1) c9) (L2 ++ [i]).length (Nt.icellsN (L2 ++ [i]))) := by
                        show World.ownsRow _ _ _ _ _ _ _
                        have e3 : (L2 ++ [i]).length = L2.length + 1 := by simp
                        have e4 : Nt.icellsN (L2 ++ [i]) = Nt.icellsN L2 ++ [.int .i64 (i : Int)] := by simp [Nt.icellsN]
                        rw [e3, e4]
                        exact ho9
                      have Hs9 : Hid (Nt.Sep (.slice (some ⟨a8, 0, none⟩) (L1.length + 1) c8) (.slice (some ⟨a9, 0, none⟩) (L2.length + 1) c9)) := Nt.Sep.symm (Nt.Sep.push (Nt.Sep.symm Hs8.out) (fun q e => by have := (World.ownsRow.lt Hw8.out q e).2; omega) hat9)
                      clear ho9 hg9' hat9 hg9
                      go_wp2_with fail
                      go_roundw
                      case rel => exact ⟨i + 1, by omega, by go_num, HB9.out, by rw [Hr1.out]; exact Hw9.out, by rw [Hr2.out]; exact He9.out, Hs9.out⟩
                      case measure => simp [intOf]; omega
                  · obtain rfl : i = s.size + 1 := by omega
                    have HCf : Hid _ := own_below HC4.out hB
                    have HDf : Hid _ := own_below HD4.out hB
                    rw [← HeC.out] at hw
                    rw [← HeD.out] at he
                    have hI1 := ints_any C C _ _ _ _ wr HCf.out hw (by omega)
                    have HI2 : Hid (∀ w', Below wr.heap.size wr w' → Calls Tryd.prog 21 _ w' fun e w2 => e = .returned (.bool (D == D)) ∧ Below w'.heap.size w' w2) := fun w' hb => ints_any D D _ _ _ _ w' (own_below HDf.out hb) (own_below he hb) (by omega)
                    obtain ⟨wa, wc, rfl⟩ := Nt.own_form hw
                    obtain ⟨ea, ec, rfl⟩ := Nt.own_form he
                    rw [beq_self_eq_true] at hI1
                    simp only [beq_self_eq_true] at HI2
                    have HBf : Hid (Below W0.heap.size W0 wr) := HB4.out.trans (hB.mono HB4.out.size)
                    clear hB hw he hsep HCf HDf HC4 HD4 HeC HeD
                    go_wp2_with (first | (go_at_call 21; refine Calls.mono hI1 ?_; clear hI1; rintro e w20 ⟨rfl, hb20⟩; have HB20 : Hid _ := hb20; clear hb20) | (go_at_call 21; refine Calls.mono (HI2.out w20 HB20.out) ?_; clear HI2; rintro e w21 ⟨rfl, hb21⟩; have HB21 : Hid _ := hb21; clear hb21))
                    go_ret
                    exact ⟨rfl, HW.out _ (HU.out _ _ (HU.out _ _ HBf.out HB20.out) HB21.out)⟩
      · have hd : (!o1 || !o2 || !o3 || !o4) = true := by
          cases o1 <;> cases o2 <;> cases o3 <;> cases o4 <;> simp_all
        clear HOK
        cases o1 <;> cases o2 <;> cases o3 <;> cases o4 <;> first | (exact absurd ⟨rfl, rfl, rfl, rfl⟩ hall) | skip
        all_goals
          clear hall hd
          go_wp2_with fail
          go_ret
          exact ⟨rfl, HW.out _ HB9.out⟩
    · have d : decide ((0 : Int) < (c : Int)) = true := by simp; omega
      have d' : (0 : Int) < (c : Int) := by omega
      clear hc hc0
      go_wp2_with fail
      go_ret
      exact ⟨rfl, HW.out _ HB3.out⟩
  · have d : decide ((0 : Int) < (c : Int)) = true := by simp; omega
    have d' : (0 : Int) < (c : Int) := by omega
    clear hc hc0
    go_wp2_with fail
    go_ret
    exact ⟨rfl, HW.out _ HB2.out⟩
end Go.Proofs.YtdiokclbdaojpaaDoor
