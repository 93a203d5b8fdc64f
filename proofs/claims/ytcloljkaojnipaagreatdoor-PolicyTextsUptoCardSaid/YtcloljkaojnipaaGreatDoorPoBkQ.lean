/- What policy.Print answers of any policy, as one relation; two texts are one just if each policy lies within the other. -/
import Derived.Test.YtcloljkaojnipaaGreatDoorPgR
import Derived.Test.YtcloljkaojnipaaGreatDoorPoPry
import Derived.Test.YtcloljkaojnipaaGreatDoorPgO
namespace Go.Proofs.YtcloljkaojnipaaGreatDoor
open Go.RowKit

namespace Pl
theorem sub_len : ∀ {c l : List (List ByteArray)}, c.Pairwise (fun a b => cmpP a b < 0) → (∀ x ∈ c, x ∈ l) → c.length ≤ l.length
  | [], l, _, _ => by simp
  | x :: c, l, hp, hs => by
    obtain ⟨a, b, rfl⟩ := List.append_of_mem (hs x (by simp))
    have h1 := List.pairwise_cons.1 hp
    have h2 : ∀ y ∈ c, y ∈ a ++ b := fun y hy => by
      have hy2 := hs y (by simp [hy])
      have hne : y ≠ x := fun e => by
        have h3 := h1.1 y hy
        rw [e, (cmpP_cmp.eq x x).2 rfl] at h3
        omega
      simp only [List.mem_append, List.mem_cons] at hy2 ⊢
      rcases hy2 with k | k | k
      · exact .inl k
      · exact absurd k hne
      · exact .inr k
    have h3 := sub_len h1.2 h2
    simp only [List.length_append, List.length_cons] at h3 ⊢
    omega
theorem cov_len {l c : List (List ByteArray)} (h : Cov l c) : c.length ≤ l.length := sub_len h.up fun x hx => ((h.mem x).1 hx).1
theorem cov_right {l c : List (List ByteArray)} (h : Cov l c) (hl : l.all rightP = true) : c.all rightP = true := by
  rw [List.all_eq_true] at *
  exact fun x hx => hl x ((h.mem x).1 hx).1
/-- Two lists within one another have one cover. -/
theorem cov_both {l m c d : List (List ByteArray)} (h1 : Cov l c) (h2 : Cov m d) (hl : innP l m = true) (hm : innP m l = true) : c = d := by
  rw [inn_iff] at hl hm
  have go : ∀ {l m c d : List (List ByteArray)}, Cov l c → Cov m d → (∀ p ∈ l, insideB m p = true) → (∀ p ∈ m, insideB l p = true) → ∀ x, x ∈ c → x ∈ d := by
    intro l m c d h1 h2 hl hm x hx
    obtain ⟨k1, k2⟩ := (h1.mem x).1 hx
    have back : ∀ y ∈ m, In x y → y = x := fun y hy hi => by
      obtain ⟨z, hz, hi2⟩ := (inside_iff l y).1 (hm y hy)
      have e := k2 z hz (hi.trans hi2)
      subst e
      exact hi2.eq (hi.len)
    obtain ⟨y, hy, hi⟩ := (inside_iff m x).1 (hl x k1)
    have e := back y hy hi
    subst e
    exact (h2.mem y).2 ⟨hy, back⟩
  exact up_unique h1.up h2.up fun x => ⟨go h1 h2 hl hm x, go h2 h1 hm hl x⟩
theorem cov_inn {l m c : List (List ByteArray)} (h1 : Cov l c) (h2 : Cov m c) : innP l m = true := (inn_iff l m).2 fun p hp => by
  rw [← cov_inside h2, cov_inside h1]
  exact (inside_iff l p).2 ⟨p, hp, In.refl p⟩
theorem text_room {a b c x y : Nat} (h1 : a ≤ x * (readL.length + 4100)) (h2 : b ≤ y * (writeL.length + 4100)) (h3 : c ≤ 4 * 30) (hx : x ≤ 1024) (hy : y ≤ 1024) : a + b + c ≤ 16777216 := by
  have k1 : readL.length + 4100 ≤ 5000 := by decide
  have k2 : writeL.length + 4100 ≤ 5000 := by decide
  generalize readL.length + 4100 = u at *
  generalize writeL.length + 4100 = v at *
  have l1 : x * u ≤ 1024 * 5000 := Nat.mul_le_mul hx k1
  have l2 : y * v ≤ 1024 * 5000 := Nat.mul_le_mul hy k2
  generalize x * u = xu at *
  generalize y * v = yv at *
  omega
/-- What Print writes of a policy. -/
def PrintIs (R W : List (List ByteArray)) (f m o e : Int) (s : ByteArray) : Prop :=
  polC R W f m o e = 0 ∧ (∃ cR cW, Cov R cR ∧ Cov W cW ∧ s = Ln.bs (polB cR cW (q4 f.toNat m.toNat o.toNat e.toNat))) ∨ polC R W f m o e = 50 ∧ s = ⟨#[]⟩
theorem print_back {R W : List (List ByteArray)} {f m o e : Int} {s : ByteArray} (h : PrintIs R W f m o e s) (hc : polC R W f m o e = 0) :
    s.size ≤ 16777216 ∧ ∃ S cR cW, parF S0 0 (Ln.splB s) = .inr S ∧ Cov R cR ∧ Cov W cW ∧ S.R = cR ∧ S.W = cW ∧ (S.q 0 : Int) = f ∧ (S.q 1 : Int) = m ∧ (S.q 2 : Int) = o ∧ (S.q 3 : Int) = e := by
  rcases h with ⟨_, cR, cW, h1, h2, rfl⟩ | ⟨k, _⟩
  · obtain ⟨a1, a2, a3, a4, a5, a6⟩ := polC_ok.1 hc
    obtain ⟨lR, lW⟩ := polC_len hc
    have c1 := cov_len h1
    have c2 := cov_len h2
    unfold rightsP at a1 a2
    simp only [Bool.and_eq_true] at a1 a2
    unfold okN at a3 a4 a5 a6
    have hq : ∀ i, i < 4 → q4 f.toNat m.toNat o.toNat e.toNat i ≤ mostN i := fun i hi => by
      match i, hi with
      | 0, _ => show f.toNat ≤ 1073741824; omega
      | 1, _ => show m.toNat ≤ 1073741824; omega
      | 2, _ => show o.toNat ≤ 4294967296; omega
      | 3, _ => show e.toNat ≤ 4294967296; omega
    obtain ⟨S, k0, k1, k2, k3, k4, k5, k6⟩ := par_back (cov_right h1 a1.2) (cov_right h2 a2.2) (by omega) (by omega) hq
    refine ⟨?_, S, cR, cW, k0, h1, h2, k1, k2, ?_, ?_, ?_, ?_⟩
    · rw [Ln.bs_size]
      unfold polB
      have e1 := pathsB_len readL cR
      have e2 := pathsB_len writeL cW
      have e3 := numK_len (q4 f.toNat m.toNat o.toNat e.toNat) (q4_le (M := 4294967296) (by omega) (by omega) (by omega) (by omega)) 4 (by omega)
      have e8 : cR.length ≤ 1024 := by omega
      have e9 : cW.length ≤ 1024 := by omega
      rw [List.length_append, List.length_append]
      exact text_room e1 e2 e3 e8 e9
    · rw [k3]; show ((f.toNat : Nat) : Int) = f; omega
    · rw [k4]; show ((m.toNat : Nat) : Int) = m; omega
    · rw [k5]; show ((o.toNat : Nat) : Int) = o; omega
    · rw [k6]; show ((e.toNat : Nat) : Int) = e; omega
  · rw [hc] at k; cases k
/-- Two right policies have one text just if each lies within the other. -/
theorem print_same {R1 W1 : List (List ByteArray)} {f1 m1 o1 e1 : Int} {R2 W2 : List (List ByteArray)} {f2 m2 o2 e2 : Int} {s t : ByteArray} (h1 : PrintIs R1 W1 f1 m1 o1 e1 s) (h2 : PrintIs R2 W2 f2 m2 o2 e2 t) (c1 : polC R1 W1 f1 m1 o1 e1 = 0) (c2 : polC R2 W2 f2 m2 o2 e2 = 0) : (s.toList == t.toList) = (wthB R1 W1 f1 m1 o1 e1 R2 W2 f2 m2 o2 e2 && wthB R2 W2 f2 m2 o2 e2 R1 W1 f1 m1 o1 e1) := bool_ext (by
  rw [beq_iff_eq, Ln.toL, Ln.toL]
  unfold wthB
  simp only [Bool.and_eq_true, decide_eq_true_eq]
  constructor
  · intro he
    have he := Ln.data_inj _ _ he
    subst he
    obtain ⟨_, S, cR, cW, k0, k1, k2, k3, k4, k5, k6, k7, k8⟩ := print_back h1 c1
    obtain ⟨_, S', dR, dW, l0, l1, l2, l3, l4, l5, l6, l7, l8⟩ := print_back h2 c2
    rw [k0] at l0
    injection l0 with l0
    subst l0
    rw [k3] at l3
    rw [k4] at l4
    subst l3 l4
    exact ⟨⟨cov_inn k1 l1, cov_inn k2 l2, by omega, by omega, by omega, by omega⟩, cov_inn l1 k1, cov_inn l2 k2, by omega, by omega, by omega, by omega⟩
  · rintro ⟨⟨a1, a2, a3, a4, a5, a6⟩, b1, b2, b3, b4, b5, b6⟩
    rcases h1 with ⟨_, cR, cW, k1, k2, rfl⟩ | ⟨k, _⟩
    · rcases h2 with ⟨_, dR, dW, l1, l2, rfl⟩ | ⟨k, _⟩
      · rw [cov_both k1 l1 a1 b1, cov_both k2 l2 a2 b2, show f1 = f2 by omega, show m1 = m2 by omega, show o1 = o2 by omega, show e1 = e2 by omega]
      · rw [c2] at k; cases k
    · rw [c1] at k; cases k)
/-- A policy's normal form allows what it does. -/
theorem may_normal {R W cR cW : List (List ByteArray)} {f m o e : Int} (b : Bool) (p : List ByteArray) (hc : polC R W f m o e = 0) (h1 : Cov R cR) (h2 : Cov W cW) : mayP cR cW f m o e b p = mayP R W f m o e b p := by
  have hk : polC cR cW f m o e = 0 := by
    obtain ⟨a1, a2, a3⟩ := polC_ok.1 hc
    obtain ⟨lR, lW⟩ := polC_len hc
    have c1 := cov_len h1
    have c2 := cov_len h2
    refine polC_ok.2 ⟨?_, ?_, a3⟩
    · unfold rightsP at *
      simp only [Bool.and_eq_true, decide_eq_true_eq] at *
      exact ⟨by omega, cov_right h1 a1.2⟩
    · unfold rightsP at *
      simp only [Bool.and_eq_true, decide_eq_true_eq] at *
      exact ⟨by omega, cov_right h2 a2.2⟩
  unfold mayP
  rw [hk, hc, cov_inside h1, cov_inside h2]
end Pl
theorem pprint_g (ar aw : Option Addr) (cr cw : Nat) (R W : List (List ByteArray)) (f m o e : Int) (w : World) (T : PT w) (hr : Pts w ar cr R) (hw : Pts w aw cw W) : Calls Tryz.prog 25 #[.agg #[.slice ar R.length cr, .slice aw W.length cw, .int .i64 f, .int .i64 m, .int .i64 o, .int .i64 e]] w fun x w' => ∃ s, x = .returned (.tuple #[.string s, .int .i64 (Pl.polC R W f m o e : Nat)]) ∧ Hid (Pl.PrintIs R W f m o e s ∧ Below w.heap.size w w') := by
  rcases Pl.polC_two R W f m o e with hc | hc
  · obtain ⟨lR, lW⟩ := Pl.polC_len hc
    have hk := (Pl.polC_ok.1 hc).2.2
    unfold Pl.okN at hk
    obtain ⟨f', rfl⟩ := Int.eq_ofNat_of_zero_le hk.1.1
    obtain ⟨m', rfl⟩ := Int.eq_ofNat_of_zero_le hk.2.1.1
    obtain ⟨o', rfl⟩ := Int.eq_ofNat_of_zero_le hk.2.2.1.1
    obtain ⟨e', rfl⟩ := Int.eq_ofNat_of_zero_le hk.2.2.2.1
    refine (pprint_yes ar aw cr cw R W f' m' o' e' w T hr hw hc lR lW (by omega)).mono ?_
    rintro x w' ⟨cR, cW, h1, h2, rfl, hb⟩
    exact ⟨_, by rw [hc]; rfl, ⟨.inl ⟨hc, cR, cW, h1, h2, rfl⟩, hb⟩⟩
  · refine (pprint_no ar aw cr cw R W f m o e w hr hw hc).mono ?_
    rintro x w' ⟨rfl, hb⟩
    exact ⟨_, by rw [hc]; rfl, ⟨.inr ⟨hc, rfl⟩, hb⟩⟩
end Go.Proofs.YtcloljkaojnipaaGreatDoor
