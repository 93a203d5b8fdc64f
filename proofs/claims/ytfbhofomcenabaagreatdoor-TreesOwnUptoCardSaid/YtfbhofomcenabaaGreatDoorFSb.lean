/- The boxes of the trees' laws; codes that are told alike. -/
import Derived.Test.YtfbhofomcenabaaGreatDoorFLives
import Derived.Test.YtfbhofomcenabaaGreatDoorTY
import Derived.Test.YtfbhofomcenabaaGreatDoorTG
import Derived.Test.YtfbhofomcenabaaGreatDoorTT
import Derived.Deep.DeepCutAuto
import Derived.Deep.RegionHeld3
namespace Go.Proofs.YtfbhofomcenabaaGreatDoor
open Go Go.RowKit

namespace Ft
theorem find_code {r : Sum Nat FT} {U : FT} {code : Int} (h : FindIs r U code) : (∃ V, r = .inr V ∧ U = V ∧ code = 0) ∨ ∃ n : Nat, r = .inl n ∧ U = zF ∧ code = n := by
  cases r with
  | inl n => exact .inr ⟨n, rfl, h.1, h.2⟩
  | inr V => exact .inl ⟨V, rfl, h.1, h.2⟩
theorem find_uniq {r : Sum Nat FT} {U U' : FT} {c c' : Int} (h : FindIs r U c) (h' : FindIs r U' c') : U = U' ∧ c = c' := by
  cases r with
  | inl n => exact ⟨h.1.trans h'.1.symm, h.2.trans h'.2.symm⟩
  | inr V => exact ⟨h.1.trans h'.1.symm, h.2.trans h'.2.symm⟩
theorem put_code {T f : FT} {p : List ByteArray} {n : Nat} (h : putR T p f = .inl n) : n ≠ 0 := by
  unfold putR at h
  split at h
  · rename_i e he
    cases h
    exact hold_code he
  · split at h
    · split at h
      · cases h
      · cases h; omega
    · cases h; omega
theorem get_code {T : FT} {p : List ByteArray} {n : Nat} (h : getR T p = .inl n) : n ≠ 0 := by
  unfold getR at h
  split at h
  · exact look_code _ _ _ h
  · cases h; omega
end Ft
theorem bel_dn (w : World) (n : Nat) : Below w.heap.size w (w.drewN n) := ⟨rfl, rfl, rfl, Nat.le_refl _, fun _ _ => rfl⟩
/-- A box of the law's own, with what it holds: a tree that lies between two blocks. -/
structure Sb (w0 V : World) (g lo hi : Nat) (T : Ft.FT) (a : Option Addr) (c : Nat) : Prop where
  at_ : Ft.FileAt V g T a c
  fdb : Ft.Fd V (fun k => lo ≤ k ∧ k < hi) T a c
  le : hi ≤ V.heap.size
  bel : Below w0.heap.size w0 V
  ge : w0.heap.size ≤ g
theorem Sb.under {w0 V V' : World} {g lo hi : Nat} {T : Ft.FT} {a : Option Addr} {c : Nat} (h : Sb w0 V g lo hi T a c) (hb : Below V.heap.size V V') : Sb w0 V' g lo hi T a c :=
  ⟨h.at_.under hb, h.fdb.underP (fun _k hk => Nat.lt_of_lt_of_le hk.2 h.le) hb, Nat.le_trans h.le hb.size, h.bel.trans (hb.mono h.bel.size), h.ge⟩
theorem Sb.fd {w0 V : World} {g lo hi : Nat} {T : Ft.FT} {a : Option Addr} {c : Nat} (h : Sb w0 V g lo hi T a c) : Ft.Fd V (· < V.heap.size) T a c := h.fdb.mono (fun _k hk => Nat.lt_of_lt_of_le hk.2 h.le)
theorem sb_new {w0 V W : World} {U : Ft.FT} {b : Option Addr} {c : Nat} (h : Below w0.heap.size w0 V) (hW : Below V.heap.size V W) (hU : Ft.Fd W (fun k => V.heap.size ≤ k ∧ k < W.heap.size) U b c) : Sb w0 (W.alloc (.cells (Ft.fdA U b c) 25)) W.heap.size V.heap.size W.heap.size U b c :=
  ⟨Ft.file_new W U b c, hU.underP (fun k hk => hk.2) ((Below.refl _ _).alloc (Nat.le_refl _) _), by simp, (h.trans (hW.mono h.size)).alloc (by have := h.size; have := hW.size; omega) _, by have := h.size; have := hW.size; omega⟩
/-- Another box is written. -/
theorem Sb.same {w0 V V' : World} {g lo hi : Nat} {T : Ft.FT} {a : Option Addr} {c k : Nat} (h : Sb w0 V g lo hi T a c) (hs : V.heap.size ≤ V'.heap.size) (hb : Below w0.heap.size w0 V') (hk : ∀ i, i ≠ k → V'.heap[i]? = V.heap[i]?) (hg : g ≠ k) (hi' : k < lo ∨ hi ≤ k) : Sb w0 V' g lo hi T a c :=
  ⟨(hk g hg).trans h.at_, h.fdb.same (fun i hi2 => hk i (by omega)) (fun _ h => h), Nat.le_trans h.le hs, hb, h.ge⟩
end Go.Proofs.YtfbhofomcenabaaGreatDoor
