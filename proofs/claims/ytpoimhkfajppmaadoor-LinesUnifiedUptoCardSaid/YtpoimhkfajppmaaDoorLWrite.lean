/- What lines.writeChange answers. -/
import Derived.Test.YtpoimhkfajppmaaDoorLOwnB
import Derived.Test.YtpoimhkfajppmaaDoorLPlainU
namespace Go.Proofs.YtpoimhkfajppmaaDoor
open Go.RowKit

set_option maxRecDepth 100000 in
set_option maxHeartbeats 4000000 in
theorem write_any (base : Nat) (v : Value) (O : List UInt8) (kd : Nat) (x1 : ByteArray) (x2 : Bool) (w : World) (ho : OwnB w base v O) (hbase : base ≤ w.heap.size) (hO : O.length + x1.size ≤ 900000000000) (hkd : kd < 256) :
    Calls Tryd.prog 29 #[v, .agg #[.int .u8 (kd : Int), .string x1, .bool x2]] w fun e w' => ∃ v', e = .returned v' ∧ OwnB w' base v' (O ++ Ln.chB (kd, (x1, x2))) ∧ Below base w w' ∧ Oth w w' := by
  have main : ∀ sg : UInt8, sg = Ln.signP kd → ((kd = 2 ∧ sg = 45) ∨ (kd = 3 ∧ sg = 43) ∨ (kd ≠ 2 ∧ kd ≠ 3 ∧ sg = 32)) → Calls Tryd.prog 29 #[v, .agg #[.int .u8 (kd : Int), .string x1, .bool x2]] w fun e w' => ∃ v', e = .returned v' ∧ OwnB w' base v' (O ++ Ln.chB (kd, (x1, x2))) ∧ Below base w w' ∧ Oth w w' := by
    intro sg hsg hcase
    have HC : Hid (Ln.chB (kd, (x1, x2)) = [sg] ++ x1.data.toList ++ [10] ++ (if x2 then [] else Ln.noNl)) := by show _ = _; unfold Ln.chB; rw [hsg]; simp
    have hbx : (w.alloc (.cells #[.int .u8 (kd : Int), .string x1, .bool x2] 40)).heap[w.heap.size]? = some (.cells #[.int .u8 (kd : Int), .string x1, .bool x2] 40) := heap_alloc_new w _
    have hb0 : Below base w (w.alloc (.cells #[.int .u8 (kd : Int), .string x1, .bool x2] 40)) := (Below.refl _ _).alloc hbase _
    have ho0 : Oth w (w.alloc (.cells #[.int .u8 (kd : Int), .string x1, .bool x2] 40)) := Oth.of (alloc_below _ _)
    have HBX : Hid ((w.alloc (.cells #[.int .u8 (kd : Int), .string x1, .bool x2] 40)).heap[w.heap.size]? = some (.cells #[.int .u8 (kd : Int), .string x1, .bool x2] 40)) := hbx
    clear hbx hsg
    have hx1s := Ln.szL x1
    rcases hcase with ⟨rfl, rfl⟩ | ⟨rfl, rfl⟩ | ⟨k2, k3, rfl⟩
    · go_enter Tryd.func29, Tryd.ntmps29
      go_wp2_with (at_builtin; refine appB_byte _ rfl (.tmp 12) (.tmp 14) rfl base _ O rfl ((ho.alloc _).alloc _) _ _ 45 rfl ?aa ?ab ?ac ?_)
      case aa => exact cell_at_new _ _ _ _ _ _ (by simp) rfl
      case ab => omega
      case ac => first | omega | (simp; omega)
      intro v1 w1 o1 b1 t1
      have T1 := (Oth.of (alloc_below (w.alloc (.cells #[.int .u8 (2 : Int), .string x1, .bool x2] 40)) (.cells #[.int .u8 45] 5))).trans t1
      have B1 := ((hb0.alloc (by simp; omega) (.cells #[.int .u8 45] 5))).trans b1
      obtain ⟨hx1, c1⟩ := cell_oth (j := 1) HBX.out (by decide) T1 rfl
      have c2 := (cell_oth (j := 2) HBX.out (by decide) T1 rfl).2
      have HX1 : Hid (w1.heap[w.heap.size]? = some (.cells #[.int .u8 (2 : Int), .string x1, .bool x2] 40)) := hx1
      have s1 := B1.size
      have hl1 : (O ++ [45]).length ≤ O.length + 1 := by simp
      clear hx1 b1 t1
      generalize hO1 : O ++ [(45 : UInt8)] = O1 at *
      have HO1 : Hid (O ++ [(45 : UInt8)] = O1) := hO1
      clear hO1
      go_wp2_with (at_builtin; refine appB_str _ rfl (.tmp 16) (.tmp 19) rfl base _ O1 rfl o1 x1 rfl ?ad ?ae ?_)
      case ad => omega
      case ae => omega
      intro v2 w2 o2 b2 t2
      have c3 := (cell_oth (j := 2) HX1.out (by decide) t2 rfl).2
      have T2 := T1.trans t2
      have B2 := B1.trans b2
      have s2 := B2.size
      have hl2 : (O1 ++ x1.data.toList).length ≤ O1.length + x1.size := by rw [List.length_append, Ln.szL]; exact Nat.le_refl _
      clear c1 c2 b2 t2 o1
      generalize hO2 : O1 ++ x1.data.toList = O2 at *
      have HO2 : Hid (O1 ++ x1.data.toList = O2) := hO2
      clear hO2
      go_wp2_with (at_builtin; refine appB_byte _ rfl (.tmp 21) (.tmp 22) rfl base _ O2 rfl (o2.alloc _) _ _ 10 rfl ?af ?ag ?ah ?_)
      case af => exact cell_at_new _ _ _ _ _ _ (by simp) rfl
      case ag => omega
      case ah => first | omega | (simp; omega)
      intro v3 w3 o3 b3 t3
      have tt := (Oth.of (alloc_below w2 (.cells #[.int .u8 10] 5))).trans t3
      have hx2 := (cell_oth (j := 2) HX1.out (by decide) (show Oth w1 w1 from ⟨Nat.le_refl _, fun _ _ _ => rfl⟩) rfl).1
      have c4 : w3.cell? ⟨w.heap.size, 2, none⟩ = some (.bool x2) := (cell_oth (j := 2) HBX.out (by decide) (T2.trans tt) rfl).2
      have T3 := ho0.trans (T2.trans tt)
      have B3 := (B2.alloc (by omega) (.cells #[.int .u8 10] 5)).trans b3
      have s3 := B3.size
      have hl3 : (O2 ++ [10]).length ≤ O2.length + 1 := by simp
      clear c3 b3 t3 o2 tt hx2
      generalize hO3 : O2 ++ [(10 : UInt8)] = O3 at *
      have HO3 : Hid (O2 ++ [(10 : UInt8)] = O3) := hO3
      clear hO3
      cases x2
      · have HE : Hid (O ++ Ln.chB (2, (x1, false)) = O3 ++ Ln.noNl) := by show _ = _; rw [HC.out, ← HO3.out, ← HO2.out, ← HO1.out]; simp
        go_wp2_with (at_builtin; refine appB_str _ rfl (.tmp 28) _ rfl base _ O3 rfl o3 ⟨Ln.noNl.toArray⟩ rfl ?ai ?aj ?_)
        case ai => simp [ByteArray.size, Ln.noNl]; omega
        case aj => omega
        intro v4 w4 o4 b4 t4
        go_wp2_with fail
        go_ret
        exact ⟨v4, rfl, by rw [HE.out]; exact o4, B3.trans b4, T3.trans t4⟩
      · have HE : Hid (O ++ Ln.chB (2, (x1, true)) = O3) := by show _ = _; rw [HC.out, ← HO3.out, ← HO2.out, ← HO1.out]; simp
        go_wp2_with fail
        go_ret
        exact ⟨v3, rfl, by rw [HE.out]; exact o3, B3, T3⟩
    · go_enter Tryd.func29, Tryd.ntmps29
      go_wp2_with (at_builtin; refine appB_byte _ rfl (.tmp 12) (.tmp 14) rfl base _ O rfl ((ho.alloc _).alloc _) _ _ 43 rfl ?ba ?bb ?bc ?_)
      case ba => exact cell_at_new _ _ _ _ _ _ (by simp) rfl
      case bb => omega
      case bc => first | omega | (simp; omega)
      intro v1 w1 o1 b1 t1
      have T1 := (Oth.of (alloc_below (w.alloc (.cells #[.int .u8 (3 : Int), .string x1, .bool x2] 40)) (.cells #[.int .u8 43] 5))).trans t1
      have B1 := ((hb0.alloc (by simp; omega) (.cells #[.int .u8 43] 5))).trans b1
      obtain ⟨hx1, c1⟩ := cell_oth (j := 1) HBX.out (by decide) T1 rfl
      have c2 := (cell_oth (j := 2) HBX.out (by decide) T1 rfl).2
      have HX1 : Hid (w1.heap[w.heap.size]? = some (.cells #[.int .u8 (3 : Int), .string x1, .bool x2] 40)) := hx1
      have s1 := B1.size
      have hl1 : (O ++ [43]).length ≤ O.length + 1 := by simp
      clear hx1 b1 t1
      generalize hO1 : O ++ [(43 : UInt8)] = O1 at *
      have HO1 : Hid (O ++ [(43 : UInt8)] = O1) := hO1
      clear hO1
      go_wp2_with (at_builtin; refine appB_str _ rfl (.tmp 16) (.tmp 19) rfl base _ O1 rfl o1 x1 rfl ?bd ?be ?_)
      case bd => omega
      case be => omega
      intro v2 w2 o2 b2 t2
      have c3 := (cell_oth (j := 2) HX1.out (by decide) t2 rfl).2
      have T2 := T1.trans t2
      have B2 := B1.trans b2
      have s2 := B2.size
      have hl2 : (O1 ++ x1.data.toList).length ≤ O1.length + x1.size := by rw [List.length_append, Ln.szL]; exact Nat.le_refl _
      clear c1 c2 b2 t2 o1
      generalize hO2 : O1 ++ x1.data.toList = O2 at *
      have HO2 : Hid (O1 ++ x1.data.toList = O2) := hO2
      clear hO2
      go_wp2_with (at_builtin; refine appB_byte _ rfl (.tmp 21) (.tmp 22) rfl base _ O2 rfl (o2.alloc _) _ _ 10 rfl ?bf ?bg ?bh ?_)
      case bf => exact cell_at_new _ _ _ _ _ _ (by simp) rfl
      case bg => omega
      case bh => first | omega | (simp; omega)
      intro v3 w3 o3 b3 t3
      have tt := (Oth.of (alloc_below w2 (.cells #[.int .u8 10] 5))).trans t3
      have hx2 := (cell_oth (j := 2) HX1.out (by decide) (show Oth w1 w1 from ⟨Nat.le_refl _, fun _ _ _ => rfl⟩) rfl).1
      have c4 : w3.cell? ⟨w.heap.size, 2, none⟩ = some (.bool x2) := (cell_oth (j := 2) HBX.out (by decide) (T2.trans tt) rfl).2
      have T3 := ho0.trans (T2.trans tt)
      have B3 := (B2.alloc (by omega) (.cells #[.int .u8 10] 5)).trans b3
      have s3 := B3.size
      have hl3 : (O2 ++ [10]).length ≤ O2.length + 1 := by simp
      clear c3 b3 t3 o2 tt hx2
      generalize hO3 : O2 ++ [(10 : UInt8)] = O3 at *
      have HO3 : Hid (O2 ++ [(10 : UInt8)] = O3) := hO3
      clear hO3
      cases x2
      · have HE : Hid (O ++ Ln.chB (3, (x1, false)) = O3 ++ Ln.noNl) := by show _ = _; rw [HC.out, ← HO3.out, ← HO2.out, ← HO1.out]; simp
        go_wp2_with (at_builtin; refine appB_str _ rfl (.tmp 28) _ rfl base _ O3 rfl o3 ⟨Ln.noNl.toArray⟩ rfl ?bi ?bj ?_)
        case bi => simp [ByteArray.size, Ln.noNl]; omega
        case bj => omega
        intro v4 w4 o4 b4 t4
        go_wp2_with fail
        go_ret
        exact ⟨v4, rfl, by rw [HE.out]; exact o4, B3.trans b4, T3.trans t4⟩
      · have HE : Hid (O ++ Ln.chB (3, (x1, true)) = O3) := by show _ = _; rw [HC.out, ← HO3.out, ← HO2.out, ← HO1.out]; simp
        go_wp2_with fail
        go_ret
        exact ⟨v3, rfl, by rw [HE.out]; exact o3, B3, T3⟩
    · have g2 : ((kd : Int) == 2) = false := by simp; omega
      have g3 : ((kd : Int) == 3) = false := by simp; omega
      go_enter Tryd.func29, Tryd.ntmps29
      go_wp2_with (at_builtin; refine appB_byte _ rfl (.tmp 12) (.tmp 14) rfl base _ O rfl ((ho.alloc _).alloc _) _ _ 32 rfl ?ca ?cb ?cc ?_)
      case ca => exact cell_at_new _ _ _ _ _ _ (by simp) rfl
      case cb => omega
      case cc => first | omega | (simp; omega)
      intro v1 w1 o1 b1 t1
      have T1 := (Oth.of (alloc_below (w.alloc (.cells #[.int .u8 (kd : Int), .string x1, .bool x2] 40)) (.cells #[.int .u8 32] 5))).trans t1
      have B1 := ((hb0.alloc (by simp; omega) (.cells #[.int .u8 32] 5))).trans b1
      obtain ⟨hx1, c1⟩ := cell_oth (j := 1) HBX.out (by decide) T1 rfl
      have c2 := (cell_oth (j := 2) HBX.out (by decide) T1 rfl).2
      have HX1 : Hid (w1.heap[w.heap.size]? = some (.cells #[.int .u8 (kd : Int), .string x1, .bool x2] 40)) := hx1
      have s1 := B1.size
      have hl1 : (O ++ [32]).length ≤ O.length + 1 := by simp
      clear hx1 b1 t1
      generalize hO1 : O ++ [(32 : UInt8)] = O1 at *
      have HO1 : Hid (O ++ [(32 : UInt8)] = O1) := hO1
      clear hO1
      go_wp2_with (at_builtin; refine appB_str _ rfl (.tmp 16) (.tmp 19) rfl base _ O1 rfl o1 x1 rfl ?cd ?ce ?_)
      case cd => omega
      case ce => omega
      intro v2 w2 o2 b2 t2
      have c3 := (cell_oth (j := 2) HX1.out (by decide) t2 rfl).2
      have T2 := T1.trans t2
      have B2 := B1.trans b2
      have s2 := B2.size
      have hl2 : (O1 ++ x1.data.toList).length ≤ O1.length + x1.size := by rw [List.length_append, Ln.szL]; exact Nat.le_refl _
      clear c1 c2 b2 t2 o1
      generalize hO2 : O1 ++ x1.data.toList = O2 at *
      have HO2 : Hid (O1 ++ x1.data.toList = O2) := hO2
      clear hO2
      go_wp2_with (at_builtin; refine appB_byte _ rfl (.tmp 21) (.tmp 22) rfl base _ O2 rfl (o2.alloc _) _ _ 10 rfl ?cf ?cg ?ch ?_)
      case cf => exact cell_at_new _ _ _ _ _ _ (by simp) rfl
      case cg => omega
      case ch => first | omega | (simp; omega)
      intro v3 w3 o3 b3 t3
      have tt := (Oth.of (alloc_below w2 (.cells #[.int .u8 10] 5))).trans t3
      have hx2 := (cell_oth (j := 2) HX1.out (by decide) (show Oth w1 w1 from ⟨Nat.le_refl _, fun _ _ _ => rfl⟩) rfl).1
      have c4 : w3.cell? ⟨w.heap.size, 2, none⟩ = some (.bool x2) := (cell_oth (j := 2) HBX.out (by decide) (T2.trans tt) rfl).2
      have T3 := ho0.trans (T2.trans tt)
      have B3 := (B2.alloc (by omega) (.cells #[.int .u8 10] 5)).trans b3
      have s3 := B3.size
      have hl3 : (O2 ++ [10]).length ≤ O2.length + 1 := by simp
      clear c3 b3 t3 o2 tt hx2
      generalize hO3 : O2 ++ [(10 : UInt8)] = O3 at *
      have HO3 : Hid (O2 ++ [(10 : UInt8)] = O3) := hO3
      clear hO3
      cases x2
      · have HE : Hid (O ++ Ln.chB (kd, (x1, false)) = O3 ++ Ln.noNl) := by show _ = _; rw [HC.out, ← HO3.out, ← HO2.out, ← HO1.out]; simp
        go_wp2_with (at_builtin; refine appB_str _ rfl (.tmp 28) _ rfl base _ O3 rfl o3 ⟨Ln.noNl.toArray⟩ rfl ?ci ?cj ?_)
        case ci => simp [ByteArray.size, Ln.noNl]; omega
        case cj => omega
        intro v4 w4 o4 b4 t4
        go_wp2_with fail
        go_ret
        exact ⟨v4, rfl, by rw [HE.out]; exact o4, B3.trans b4, T3.trans t4⟩
      · have HE : Hid (O ++ Ln.chB (kd, (x1, true)) = O3) := by show _ = _; rw [HC.out, ← HO3.out, ← HO2.out, ← HO1.out]; simp
        go_wp2_with fail
        go_ret
        exact ⟨v3, rfl, by rw [HE.out]; exact o3, B3, T3⟩
  by_cases k2 : kd = 2
  · exact main 45 (by subst k2; rfl) (.inl ⟨k2, rfl⟩)
  by_cases k3 : kd = 3
  · exact main 43 (by subst k3; rfl) (.inr (.inl ⟨k3, rfl⟩))
  exact main 32 (by unfold Ln.signP; rw [if_neg k2, if_neg k3]) (.inr (.inr ⟨k2, k3, rfl⟩))
end Go.Proofs.YtpoimhkfajppmaaDoor
