/- Plain facts on the reference's own ways: no byte 0 and no part too long is just what may stand. -/
import Derived.Test.YtjmfgffihkbnlabPlainRel
namespace Go.Proofs.Ytjmfgffihkbnlab
namespace Pl

theorem spl_sub : ∀ (l : List UInt8), ∀ p ∈ spl l, ∀ c ∈ p, c ∈ l ∧ (c == 47) = false
  | [], p, hp, c, hc => by simp [spl] at hp; subst hp; cases hc
  | d :: r, p, hp, c, hc => by
    have ih := spl_sub r
    cases hd : (d == 47)
    · rw [spl_other hd] at hp
      cases hs : spl r with
      | nil => exact absurd hs (spl_ne r)
      | cons h t =>
        rw [hs] at hp ih
        simp only [glue, List.mem_cons] at hp
        rcases hp with rfl | hp
        · rcases List.mem_append.1 hc with hc | hc
          · simp at hc; subst hc; exact ⟨by simp, hd⟩
          · have := ih h (by simp) c hc; exact ⟨by simp [this.1], this.2⟩
        · have := ih p (by simp [hp]) c hc; exact ⟨by simp [this.1], this.2⟩
    · have : d = 47 := by simpa using hd
      subst this
      rw [spl_slash] at hp
      rcases List.mem_cons.1 hp with rfl | hp
      · cases hc
      · have := ih p hp c hc; exact ⟨by simp [this.1], this.2⟩
theorem spl_sup : ∀ (l : List UInt8) (c : UInt8), c ∈ l → (c == 47) = false → ∃ p ∈ spl l, c ∈ p
  | [], c, h, _ => by cases h
  | d :: r, c, h, hc => by
    cases hd : (d == 47)
    · rw [spl_other hd]
      rcases List.mem_cons.1 h with rfl | h
      · cases hs : spl r with
        | nil => exact absurd hs (spl_ne r)
        | cons x t => exact ⟨[c] ++ x, by simp [glue], by simp⟩
      · obtain ⟨p, hp, hcp⟩ := spl_sup r c h hc
        cases hs : spl r with
        | nil => exact absurd hs (spl_ne r)
        | cons x t =>
          rw [hs] at hp
          rcases List.mem_cons.1 hp with rfl | hp
          · exact ⟨[d] ++ p, by simp [glue], by simp [hcp]⟩
          · exact ⟨p, by simp [glue, hp], hcp⟩
    · have e : d = 47 := by simpa using hd
      subst e
      rw [spl_slash]
      rcases List.mem_cons.1 h with rfl | h
      · simp at hc
      · obtain ⟨p, hp, hcp⟩ := spl_sup r c h hc
        exact ⟨p, by simp [hp], hcp⟩
theorem may_clean {x : ByteArray} (h : mayB x = true) : (∀ c ∈ x.data.toList, (c == 0) = false) ∧ x.size ≤ 255 := by
  simp only [mayB, Bool.or_eq_true, toL, beq_iff_eq] at h
  rcases h with ((h | h) | h) | h
  · rw [h]; refine ⟨by simp, ?_⟩; have := szL x; rw [h] at this; simp at this; omega
  · rw [h]; refine ⟨by simp, ?_⟩; have := szL x; rw [h] at this; simp at this; omega
  · rw [h]; refine ⟨by simp, ?_⟩; have := szL x; rw [h] at this; simp at this; omega
  · refine ⟨fun c hc => ?_, name_size h⟩
    simp only [nameB, nameL, Bool.and_eq_true] at h
    have h2 := List.all_eq_true.1 h.2 c hc
    simp only [okc, Bool.not_eq_true', Bool.or_eq_false_iff] at h2
    exact h2.2
theorem clean_may {x : ByteArray} (h1 : ∀ c ∈ x.data.toList, (c == 47) = false ∧ (c == 0) = false) (h2 : x.size ≤ 255) : mayB x = true := by
  by_cases e1 : x.toList = []
  · exact may_empty e1
  by_cases e2 : x.toList = [46]
  · exact may_dot e2
  by_cases e3 : x.toList = [46, 46]
  · exact may_dots e3
  rw [may_name e1 e2 e3, name_head e1 (by omega) e2 e3, List.all_eq_true]
  intro c hc
  simp [okc, h1 c hc]
theorem parts_bytes {s x : ByteArray} (hx : x ∈ partsB s) : ∀ c ∈ x.data.toList, c ∈ s.data.toList ∧ (c == 47) = false := by
  obtain ⟨p, hp, rfl⟩ := List.mem_map.1 hx
  intro c hc
  rw [data_bs] at hc
  exact spl_sub _ p hp c hc
theorem nul_bad {s : ByteArray} {k : Nat} (h : k < s.size) (hc : ((s[k].toNat : Int) == 0) = true) : (partsB s).all mayB = false := by
  have h0 : s[k] = 0 := by rw [← UInt8.toNat_inj]; simp at hc; simp; omega
  have hm : (0 : UInt8) ∈ s.data.toList := by
    have : s[k] ∈ s.data.toList := List.mem_of_mem_drop (i := k) (by rw [drop_cons s k h]; simp)
    rw [h0] at this; exact this
  obtain ⟨p, hp, hcp⟩ := spl_sup s.data.toList 0 hm rfl
  cases hq : (partsB s).all mayB
  · rfl
  · have := (may_clean (List.all_eq_true.1 hq (bs p) (List.mem_map.2 ⟨p, hp, rfl⟩))).1 0 (by rw [data_bs]; exact hcp)
    simp at this
theorem long_bad {ps : List ByteArray} {k : Nat} (h : k < ps.length) (hc : 255 < (ps[k]'h).size) : ps.all mayB = false := by
  cases hq : ps.all mayB
  · rfl
  · have := (may_clean (List.all_eq_true.1 hq (ps[k]'h) (List.getElem_mem h))).2
    omega
theorem nul_step {s : ByteArray} {k : Nat} (h : k < s.size) (ha : (s.data.toList.take k).all (fun c => !(c == 0)) = true) (h0 : ((s[k].toNat : Int) == 0) = false) : (s.data.toList.take (k + 1)).all (fun c => !(c == 0)) = true := by
  rw [take_snoc s k h, List.all_append, ha]
  have : (s[k] == 0) = false := by rw [beq_eq_false_iff_ne]; intro e; rw [e] at h0; simp at h0
  simp [this]
theorem short_step {ps : List ByteArray} {k : Nat} (h : k < ps.length) (ha : (ps.take k).all (fun x => decide (x.size ≤ 255)) = true) (h0 : (ps[k]'h).size ≤ 255) : (ps.take (k + 1)).all (fun x => decide (x.size ≤ 255)) = true := by
  rw [List.take_succ_eq_append_getElem h, List.all_append, ha]; simp [h0]
theorem clean_all {s : ByteArray} (h1 : s.data.toList.all (fun c => !(c == 0)) = true) (h2 : (partsB s).all (fun x => decide (x.size ≤ 255)) = true) : (partsB s).all mayB = true := by
  rw [List.all_eq_true] at h1 h2 ⊢
  intro x hx
  refine clean_may (fun c hc => ?_) (by simpa using h2 x hx)
  have h3 := parts_bytes hx c hc
  exact ⟨h3.2, by simpa using h1 c h3.1⟩
theorem last_of {ps : List ByteArray} (h : ps ≠ []) : lastDir ps = dirB (ps[ps.length - 1]'(by have := List.length_pos_iff.2 h; omega)) := by
  have hl := List.length_pos_iff.2 h
  have := @lastDir_take ps (ps.length - 1) (by omega)
  rwa [List.take_of_length_le (by omega)] at this

end Pl
end Go.Proofs.Ytjmfgffihkbnlab
