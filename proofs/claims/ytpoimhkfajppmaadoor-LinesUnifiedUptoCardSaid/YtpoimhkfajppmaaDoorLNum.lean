/- Lines as keys of a map; the numbers that lines.numbered gives them. -/
import Derived.Test.YtpoimhkfajppmaaDoorLApp
import Derived.Test.YtpoimhkfajppmaaDoorLPlainA
import Derived.Maps.OwnSet
import Derived.Maps.Range
import Derived.DeepKeys4
namespace Go.Proofs.YtpoimhkfajppmaaDoor
open Go.RowKit
open Go.Maps (Keyed)

theorem Tryd.laidOut' : laidOutB Tryd.prog = true := by kernel_rfl
theorem rowLine : (38 : TypeId) < Tryd.prog.types.size := of_decide_eq_true (by kernel_rfl)
theorem wideLine : (match Tryd.prog.underlying 38 with | some (.array _ _) | some (.struct _) => true | _ => false) = true := by kernel_rfl
theorem lawLine : Keyed Tryd.prog 38 := Keyed.of_law (deep_law_laid Tryd.laidOut' (m := 2) (by omega) rowLine (by kernel_rfl) wideLine)
def lval (x : ByteArray × Bool) : Value := .agg #[.string x.1, .bool x.2]
theorem keyed_line (x : ByteArray × Bool) (hx : x.1.size ≤ maxLen) : ∃ kl, keyOf Tryd.prog 38 (lval x) = some kl := by
  have hu : Tryd.prog.underlying 38 = some (.struct (Tryd.prog.fieldsOf 38)) := by kernel_rfl
  have hk : Tryd.prog.keyType 38 = true := by kernel_rfl
  have hf : (lval x).formed Tryd.prog 38 = true := by unfold lval; kernel_rfl
  have hc : Tryd.prog.cellsOf 38 = 2 := by kernel_rfl
  have hs : Tryd.prog.cellsOf 9 = 1 := by kernel_rfl
  have hb : Tryd.prog.cellsOf 4 = 1 := by kernel_rfl
  obtain ⟨f, g, hfs, f1, f2, f3, g1, g2, g3⟩ : ∃ f g : Field, (Tryd.prog.fieldsOf 38) = #[f, g] ∧ f.name = "Text" ∧ f.type = 9 ∧ f.offset = 0 ∧ g.name = "Whole" ∧ g.type = 4 ∧ g.offset = 1 :=
    ⟨(Tryd.prog.fieldsOf 38).toList.head!, (Tryd.prog.fieldsOf 38).toList.tail.head!, by kernel_rfl, by kernel_rfl, by kernel_rfl, by kernel_rfl, by kernel_rfl, by kernel_rfl, by kernel_rfl⟩
  obtain ⟨d, hd⟩ : ∃ d, Tryd.prog.types.size + 1 = d + 1 + 1 := ⟨Tryd.prog.types.size - 1, by kernel_rfl⟩
  have k3 : Tryd.prog.keyLits (d + 1 + 1) 38 [.string x.1, .bool x.2] = some [.string x.1.data.toList, .bool x.2] := by
    rw [hfs] at hu
    simp [Program.keyLits, hu, hc, f1, f2, f3, g1, g2, g3, hs, hb, Tryd.underlying9, Tryd.underlying4, hx]
  refine ⟨.string (keyBytes [.string x.1.data.toList, .bool x.2]), ?_⟩
  unfold keyOf
  rw [hu]
  simp only [hk, hf, Bool.and_self, if_true, hd]
  rw [show (lval x).cells.toList = [.string x.1, .bool x.2] from rfl, k3]
  rfl

/-- The map D gives each of the lines Ds its place. -/
structure NumInv (D : DataW Unit) (Ds : List (ByteArray × Bool)) : Prop where
  nodup : Ds.Nodup
  size : Maps.size D = Ds.length
  has : ∀ x kl, keyOf Tryd.prog 38 (lval x) = some kl → (Maps.has D kl = true ↔ x ∈ Ds)
  at' : ∀ x kl, keyOf Tryd.prog 38 (lval x) = some kl → x ∈ Ds → ∃ i : Nat, Ds[i]? = some x ∧ D.atKey kl (.lit (.int .i64 0)) = .lit (.int .i64 (i : Int))
theorem lval_inj {x y : ByteArray × Bool} (h : lval x = lval y) : x = y := by
  unfold lval at h
  simp at h
  exact Prod.ext h.1 h.2
theorem num_start : NumInv (.map []) [] := ⟨List.nodup_nil, rfl, fun x kl _ => by simp [Maps.has], fun x kl _ h => by simp at h⟩
theorem num_step {D : DataW Unit} {Ds : List (ByteArray × Bool)} (h : NumInv D Ds) (ht : Maps.Tidy D) {x : ByteArray × Bool} {kl : Lit} (hk : keyOf Tryd.prog 38 (lval x) = some kl) (hx : x ∉ Ds) :
    NumInv (D.put kl (.lit (.int .i64 (Ds.length : Nat)))) (Ds ++ [x]) := by
  have hkl := lawLine.key hk
  refine ⟨?_, ?_, fun y ky hy => ?_, fun y ky hy hm => ?_⟩
  · rw [List.nodup_append]
    refine ⟨h.nodup, by simp, fun a ha b hb => ?_⟩
    simp at hb
    subst hb
    exact fun e => hx (e ▸ ha)
  · have hf : Maps.has D kl = false := by
      cases hh : Maps.has D kl
      · rfl
      · exact absurd ((h.has x kl hk).1 hh) hx
    rw [Maps.size_put ht, hf, h.size]
    simp
  · by_cases e : y = x
    · subst e
      rw [hk] at hy; cases hy
      rw [Maps.has_put_same ht.isMap hkl]
      simp
    · have hne : ky ≠ kl := fun q => by subst q; exact e (lval_inj (lawLine.inj hy hk))
      rw [Maps.has_put_other hne, h.has y ky hy]
      simp [e]
  · by_cases e : y = x
    · subst e
      rw [hk] at hy; cases hy
      exact ⟨Ds.length, by simp, Maps.atKey_put_same ht.isMap hkl _ _⟩
    · have hne : ky ≠ kl := fun q => by subst q; exact e (lval_inj (lawLine.inj hy hk))
      have hm' : y ∈ Ds := by simpa [e] using hm
      obtain ⟨i, h1, h2⟩ := h.at' y ky hy hm'
      refine ⟨i, ?_, ?_⟩
      · rw [List.getElem?_append_left (List.getElem?_eq_some_iff.1 h1).1]; exact h1
      · rw [Maps.atKey_put_other hne]; exact h2
end Go.Proofs.YtpoimhkfajppmaaDoor
