/- A part of a slice of changes. -/
import Derived.Test.YtpoimhkfajppmaaDoorLPlainU
import Derived.Test.YtpoimhkfajppmaaDoorLApp
namespace Go.Proofs.YtpoimhkfajppmaaDoor
open Go.RowKit

theorem chs_sub {w : World} {b off cap lo hi : Nat} {l : List Ln.Chg} (h : Chs w (some ⟨b, off, none⟩) cap l) (h1 : lo ≤ hi) (h2 : hi ≤ l.length) :
    Chs w (if cap = lo then some ⟨b, off, none⟩ else some ⟨b, off + lo * 3, none⟩) (cap - lo) (Ln.sub l lo hi) := by
  have hr := h.room
  have hm := h.most
  have hl := h.len
  have hs := Ln.sub_length h1 h2
  refine ⟨by omega, fun e => ?_, by omega, by omega, fun x hx => h.size x (List.mem_of_mem_drop (List.mem_of_mem_take hx)), fun x hx => h.kind x (List.mem_of_mem_drop (List.mem_of_mem_take hx)), fun i hi' => ?_⟩
  · split at e <;> cases e
  · obtain ⟨b', off', e, hlt, c1, c2, c3⟩ := h.cells (lo + i) (by omega)
    cases e
    have hne : ¬ cap = lo := by omega
    rw [if_neg hne]
    have hg : (Ln.sub l lo hi)[i]'hi' = l[lo + i]'(by omega) := by simp [Ln.sub]
    rw [hg]
    refine ⟨b, off + lo * 3, rfl, hlt, ?_, ?_, ?_⟩
    · rw [show off + lo * 3 + i * 3 = off + (lo + i) * 3 by omega]; exact c1
    · rw [show off + lo * 3 + i * 3 + 1 = off + (lo + i) * 3 + 1 by omega]; exact c2
    · rw [show off + lo * 3 + i * 3 + 2 = off + (lo + i) * 3 + 2 by omega]; exact c3
end Go.Proofs.YtpoimhkfajppmaaDoor
