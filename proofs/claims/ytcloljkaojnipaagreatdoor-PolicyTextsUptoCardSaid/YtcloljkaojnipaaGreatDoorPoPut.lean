/- A path that was read is put down: what lies in memory then. -/
import Derived.Test.YtcloljkaojnipaaGreatDoorPgG
namespace Go.Proofs.YtcloljkaojnipaaGreatDoor
open Go.RowKit

theorem elts_snoc {w w3 : World} {row row' : Option Nat} {xs : List Value} {l : List (List ByteArray)} {p : List ByteArray} {x : Option Addr} {c m : Nat} (hxl : xs.length = l.length) (he : Elts w row xs l) (hO : ∀ (y : Option Addr) (d : Nat) (q : List ByteArray), (∃ i : Nat, xs[i]? = some (Value.slice y q.length d)) → Strs w y d q → Off y q row → Strs w3 y d q) (hs3 : Strs w3 x c p) (hx : Off x p row')
    (hat : row' = row ∨ row' = some m) (hm : w.heap.size ≤ m) : Elts w3 row' (xs ++ [.slice x p.length c]) (l ++ [p]) := fun i hi => by
  by_cases h : i < l.length
  · obtain ⟨y, d, k1, k2, k3⟩ := he i h
    refine ⟨y, d, ?_, ?_, ?_⟩
    · rw [List.getElem?_append_left (by omega), k1, List.getElem_append_left h]
    · rw [List.getElem_append_left h]; exact hO y d _ ⟨i, k1⟩ k2 k3
    · rw [List.getElem_append_left h]
      rcases hat with e | e
      · rw [e]; exact k3
      · rw [e]; exact k2.off hm
  · have hi2 : i = l.length := by simp at hi; omega
    subst hi2
    refine ⟨x, c, ?_, ?_, ?_⟩
    · rw [List.getElem?_append_right (by omega), hxl]; simp
    · simpa using hs3
    · simpa using hx
theorem pg_far {L : Lo} {S : Pl.PSt} {vR vW : Value} {w : World} (hp : w.heap[L.pg]? = some (.cells #[vR, vW, .int .i64 (S.q 0 : Nat), .int .i64 (S.q 1 : Nat), .int .i64 (S.q 2 : Nat), .int .i64 (S.q 3 : Nat)] 24 (0, 0))) (hv : ∀ s, vR ≠ .string s ∧ vW ≠ .string s) (x : Option Addr) (c : Nat) (p : List ByteArray) (hs : Strs w x c p) (hpn : p ≠ []) (ad : Addr) (hx : x = some ad) : ¬ ad.block = L.pg := by
  refine strs_far hp (fun j s q => ?_) hs hpn ad hx
  rcases (show j = 0 ∨ j = 1 ∨ j = 2 ∨ j = 3 ∨ j = 4 ∨ j = 5 ∨ 6 ≤ j by omega) with rfl | rfl | rfl | rfl | rfl | rfl | hj
  · exact (hv s).1 (Option.some.inj q)
  · exact (hv s).2 (Option.some.inj q)
  · cases Option.some.inj q
  · cases Option.some.inj q
  · cases Option.some.inj q
  · cases Option.some.inj q
  · rw [Array.getElem?_eq_none (by simpa using hj)] at q; cases q
/-- A path is put behind those of the lines ahead. -/
theorem Sta.putR {L : Lo} {S : Pl.PSt} {vR vW : Value} {w w3 : World} (h : Sta L S vR vW w) {x : Option Addr} {c m : Nat} {p : List ByteArray} {xs : List Value} {v' : Value} (ox : w.ownsRow L.N 26 1 vR S.R.length xs) (ex : Elts w vR.ownBlock xs S.R) (ex' : Elts w vW.ownBlock xs S.R) (hs : Strs w x c p) (hx1 : Off x p vR.ownBlock) (hx2 : Off x p vW.ownBlock) (hxn : Off x p v'.ownBlock)
    (own3 : w3.ownsRow L.N 26 1 v' (S.R.length + 1) (xs ++ [.slice x p.length c])) (ht : Tu (fun k => vR.ownBlock = some k) w w3) (hat : v'.ownBlock = vR.ownBlock ∨ v'.ownBlock = some m) (hm : w.heap.size ≤ m) (hv : ∀ s, vR ≠ .string s ∧ vW ≠ .string s) :
    Sta L { S with R := S.R ++ [p] } v' vW (w3.setCell ⟨L.pg, 0, none⟩ v') ∧ Tu L.tch w (w3.setCell ⟨L.pg, 0, none⟩ v') := by
  have hxl : xs.length = S.R.length := by simpa using ox.1
  have hrow : ∀ k, vR.ownBlock = some k → L.N ≤ k := fun k hk => (ox.lt k hk).1
  have htt : Tu L.tch w w3 := ht.mono (fun k _ e => .inr (.inr (hrow k e)))
  have hp3 : w3.heap[L.pg]? = w.heap[L.pg]? := ht.block _ (lt_of_block h.p) (fun e => by have := hrow _ e; have := h.bx.pN; omega)
  have hp4 := hp3.trans h.p
  have ht3 : ∀ i, i < 4 → w3.heap[L.tb i]? = w.heap[L.tb i]? := fun i hi => ht.block _ (lt_of_block (h.t i hi)) (fun e => by have := hrow _ e; have := h.bx.tN i hi; omega)
  have hkeep : ∀ (y : Option Addr) (d : Nat) (q : List ByteArray), Strs w y d q → Off y q vR.ownBlock → Strs w3 y d q := fun y d q k1 k2 => k1.tu ht (fun hl ad e q => k2 hl ad e q.symm)
  have hs3 := hkeep x c p hs hx1
  have hne : ∀ b, vW.ownBlock = some b → vR.ownBlock ≠ some b := fun b hb e => h.ne b e hb
  have R3 : PRowO w3 L.N v' vW (S.R ++ [p]) := by
    refine ⟨xs ++ [.slice x p.length c], by rw [List.length_append]; exact own3, elts_snoc hxl ex (fun y d q _ k1 k2 => hkeep y d q k1 k2) hs3 hxn hat hm, elts_snoc (m := m) hxl ex' (fun y d q hq k1 _ => ?_) hs3 hx2 (.inl rfl) hm⟩
    obtain ⟨i, hq⟩ := hq
    have hi : i < S.R.length := by
      rcases Nat.lt_or_ge i xs.length with hlt | hge
      · omega
      · rw [List.getElem?_eq_none hge] at hq; cases hq
    obtain ⟨y', d', k1', k2', k3'⟩ := ex i hi
    rw [hq] at k1'
    obtain ⟨rfl, hlen, rfl⟩ : y = y' ∧ q.length = (S.R[i]'hi).length ∧ d = d' := by simpa using k1'
    refine k1.tu ht (fun hl ad e q2 => k3' (fun e2 => hl (List.eq_nil_of_length_eq_zero (by rw [hlen, e2]; rfl))) ad e q2.symm)
  have W3 : PRowO w3 L.N vW v' S.W := h.W.other ht hne hat hm
  have t4 : Tu (fun k => k = L.pg) w3 (w3.setCell ⟨L.pg, 0, none⟩ v') := (Tu.refl (fun k => k = L.pg) w3).setCell (p := ⟨L.pg, 0, none⟩) (fun _ => rfl) _
  have hfar : ∀ (y : Option Addr) (d : Nat) (q : List ByteArray), Strs w3 y d q → q ≠ [] → ∀ ad, y = some ad → ¬ ad.block = L.pg := fun y d q => pg_far hp4 hv y d q
  have hown : ∀ v l ys, w3.ownsRow L.N 26 1 v l ys → ∀ b, v.ownBlock = some b → ¬ b = L.pg := fun v l ys ho b hb e => by
    have h1 := (ho.lt b hb).1
    have h2 := h.bx.pN
    omega
  have hsz : w.heap.size ≤ w3.heap.size := ht.size
  have htf : Tu L.tch w (w3.setCell ⟨L.pg, 0, none⟩ v') := htt.trans t4 (fun k _ e => .inl e)
  refine ⟨⟨h.bx.tu htf, ?_, fun i hi => ?_, R3.far t4 (by obtain ⟨ys, k, _⟩ := R3; exact hown _ _ ys k) hfar, W3.far t4 (by obtain ⟨ys, k, _⟩ := W3; exact hown _ _ ys k) hfar, ?_, Nat.le_trans h.NN (Nat.le_trans hsz t4.size)⟩, htf⟩
  · rw [heap_setCell_same _ _ _ _ _ _ hp4]; simp
  · rw [heap_setCell_other _ _ _ _ (show L.tb i ≠ L.pg from h.bx.tp i hi), ht3 i hi]; exact h.t i hi
  · intro b hb hw
    rcases hat with e | e
    · rw [e] at hb; exact h.ne b hb hw
    · rw [e] at hb
      obtain ⟨ys, k, _⟩ := h.W
      have := (k.lt b hw).2
      have := Option.some.inj hb
      omega
/-- A path is put behind those of the lines ahead. -/
theorem Sta.putW {L : Lo} {S : Pl.PSt} {vR vW : Value} {w w3 : World} (h : Sta L S vR vW w) {x : Option Addr} {c m : Nat} {p : List ByteArray} {xs : List Value} {v' : Value} (ox : w.ownsRow L.N 26 1 vW S.W.length xs) (ex : Elts w vW.ownBlock xs S.W) (ex' : Elts w vR.ownBlock xs S.W) (hs : Strs w x c p) (hx1 : Off x p vW.ownBlock) (hx2 : Off x p vR.ownBlock) (hxn : Off x p v'.ownBlock)
    (own3 : w3.ownsRow L.N 26 1 v' (S.W.length + 1) (xs ++ [.slice x p.length c])) (ht : Tu (fun k => vW.ownBlock = some k) w w3) (hat : v'.ownBlock = vW.ownBlock ∨ v'.ownBlock = some m) (hm : w.heap.size ≤ m) (hv : ∀ s, vR ≠ .string s ∧ vW ≠ .string s) :
    Sta L { S with W := S.W ++ [p] } vR v' (w3.setCell ⟨L.pg, 1, none⟩ v') ∧ Tu L.tch w (w3.setCell ⟨L.pg, 1, none⟩ v') := by
  have hxl : xs.length = S.W.length := by simpa using ox.1
  have hrow : ∀ k, vW.ownBlock = some k → L.N ≤ k := fun k hk => (ox.lt k hk).1
  have htt : Tu L.tch w w3 := ht.mono (fun k _ e => .inr (.inr (hrow k e)))
  have hp3 : w3.heap[L.pg]? = w.heap[L.pg]? := ht.block _ (lt_of_block h.p) (fun e => by have := hrow _ e; have := h.bx.pN; omega)
  have hp4 := hp3.trans h.p
  have ht3 : ∀ i, i < 4 → w3.heap[L.tb i]? = w.heap[L.tb i]? := fun i hi => ht.block _ (lt_of_block (h.t i hi)) (fun e => by have := hrow _ e; have := h.bx.tN i hi; omega)
  have hkeep : ∀ (y : Option Addr) (d : Nat) (q : List ByteArray), Strs w y d q → Off y q vW.ownBlock → Strs w3 y d q := fun y d q k1 k2 => k1.tu ht (fun hl ad e q => k2 hl ad e q.symm)
  have hs3 := hkeep x c p hs hx1
  have hne : ∀ b, vR.ownBlock = some b → vW.ownBlock ≠ some b := fun b hb => h.ne b hb
  have R3 : PRowO w3 L.N v' vR (S.W ++ [p]) := by
    refine ⟨xs ++ [.slice x p.length c], by rw [List.length_append]; exact own3, elts_snoc hxl ex (fun y d q _ k1 k2 => hkeep y d q k1 k2) hs3 hxn hat hm, elts_snoc (m := m) hxl ex' (fun y d q hq k1 _ => ?_) hs3 hx2 (.inl rfl) hm⟩
    obtain ⟨i, hq⟩ := hq
    have hi : i < S.W.length := by
      rcases Nat.lt_or_ge i xs.length with hlt | hge
      · omega
      · rw [List.getElem?_eq_none hge] at hq; cases hq
    obtain ⟨y', d', k1', k2', k3'⟩ := ex i hi
    rw [hq] at k1'
    obtain ⟨rfl, hlen, rfl⟩ : y = y' ∧ q.length = (S.W[i]'hi).length ∧ d = d' := by simpa using k1'
    refine k1.tu ht (fun hl ad e q2 => k3' (fun e2 => hl (List.eq_nil_of_length_eq_zero (by rw [hlen, e2]; rfl))) ad e q2.symm)
  have W3 : PRowO w3 L.N vR v' S.R := h.R.other ht hne hat hm
  have t4 : Tu (fun k => k = L.pg) w3 (w3.setCell ⟨L.pg, 1, none⟩ v') := (Tu.refl (fun k => k = L.pg) w3).setCell (p := ⟨L.pg, 1, none⟩) (fun _ => rfl) _
  have hfar : ∀ (y : Option Addr) (d : Nat) (q : List ByteArray), Strs w3 y d q → q ≠ [] → ∀ ad, y = some ad → ¬ ad.block = L.pg := fun y d q => pg_far hp4 hv y d q
  have hown : ∀ v l ys, w3.ownsRow L.N 26 1 v l ys → ∀ b, v.ownBlock = some b → ¬ b = L.pg := fun v l ys ho b hb e => by
    have h1 := (ho.lt b hb).1
    have h2 := h.bx.pN
    omega
  have hsz : w.heap.size ≤ w3.heap.size := ht.size
  have htf : Tu L.tch w (w3.setCell ⟨L.pg, 1, none⟩ v') := htt.trans t4 (fun k _ e => .inl e)
  refine ⟨⟨h.bx.tu htf, ?_, fun i hi => ?_, W3.far t4 (by obtain ⟨ys, k, _⟩ := W3; exact hown _ _ ys k) hfar, R3.far t4 (by obtain ⟨ys, k, _⟩ := R3; exact hown _ _ ys k) hfar, ?_, Nat.le_trans h.NN (Nat.le_trans hsz t4.size)⟩, htf⟩
  · rw [heap_setCell_same _ _ _ _ _ _ hp4]; simp
  · rw [heap_setCell_other _ _ _ _ (show L.tb i ≠ L.pg from h.bx.tp i hi), ht3 i hi]; exact h.t i hi
  · intro b hb hw
    rcases hat with e | e
    · rw [e] at hw; exact h.ne b hb hw
    · rw [e] at hw
      obtain ⟨ys, k, _⟩ := h.R
      have := (k.lt b hb).2
      have := Option.some.inj hw
      omega
end Go.Proofs.YtcloljkaojnipaaGreatDoor
