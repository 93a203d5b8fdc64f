/- The first statement of what (*run).states hands back: what is left is the first instruction alone. -/
import Derived.Test.YtdiokclbdaojpaaDoorNfM7
namespace Go.Proofs.YtdiokclbdaojpaaDoor
open Go Go.RowKit Go.Shelf

attribute [local go_sem] Oper.semAt_some

namespace Nt
noncomputable def st0 : Code := match Tryd.f82.body with | some (.seq a _) => a | _ => .skip
end Nt
set_option maxRecDepth 100000 in
set_option maxHeartbeats 8000000 in
theorem st0_in (n yl rb g B0 B1 B2 : Nat) (ca : Option Addr) (cc : Nat) (L : List Nt.Ins) (s : ByteArray) (i0 at' : Nat) (lv : Value) (l m : List Nat) (W : World) (hS : Nt.Sx W rb g B0 B1 B2 ca cc L s i0 at' lv l m) (_hi0 : i0 ≤ 1048576) (K : Act → World → Prop) (fn : Func) (R : Ending → World → Prop)
    (hK : ∀ (u7 u8 u9 u10 u11 u12 u13 u14 u15 u16 u17 lv' : Value) (wx : World), Nt.Sx wx rb g B0 B1 B2 ca cc L s i0 at' lv' [i0] m → Nt.Rz rb lv lv' W wx → K ⟨#[.func (.yield yl) #[] #[], .pointer (some ⟨B0, 0, none⟩), .pointer (some ⟨B1, 0, none⟩), .pointer (some ⟨B2, 0, none⟩), undef, undef, undef, u7, u8, u9, u10, u11, u12, u13, u14, u15, u16, u17, undef, undef, undef, undef, undef, undef, undef, undef, undef, undef, undef, undef, undef, undef, undef, undef, undef, undef, undef, undef, undef, undef, undef, undef, undef, undef, undef, undef, undef, undef, undef, undef, undef, undef, undef, undef, undef, undef, undef, undef, undef, undef, undef, undef, undef, undef, undef, undef, undef, undef, undef, undef, undef, undef, undef, undef, undef, undef, undef, undef, undef, undef, undef, undef, undef, undef, undef, undef, undef, undef, undef, undef], []⟩ wx) :
    Nt.st0.wpIn Fence.wide n Tryd.prog (Exit.then K (bodyPost Tryd.prog fn R)) ⟨#[.func (.yield yl) #[] #[], .pointer (some ⟨B0, 0, none⟩), .pointer (some ⟨B1, 0, none⟩), .pointer (some ⟨B2, 0, none⟩), undef, undef, undef, undef, undef, undef, undef, undef, undef, undef, undef, undef, undef, undef, undef, undef, undef, undef, undef, undef, undef, undef, undef, undef, undef, undef, undef, undef, undef, undef, undef, undef, undef, undef, undef, undef, undef, undef, undef, undef, undef, undef, undef, undef, undef, undef, undef, undef, undef, undef, undef, undef, undef, undef, undef, undef, undef, undef, undef, undef, undef, undef, undef, undef, undef, undef, undef, undef, undef, undef, undef, undef, undef, undef, undef, undef, undef, undef, undef, undef, undef, undef, undef, undef, undef, undef], []⟩ W := by
  conv => arg 4; whnf
  obtain ⟨i1, hi1, hy0, hy1, hy2⟩ := info_parts Tryd.infoInt
  obtain ⟨l0, l1, l2, l3⟩ := hS.rn.cells
  have c0 := hS.b0
  have c1 := hS.b1
  have c2 := hS.b2
  have HS : Hid _ := hS
  have f3 := hS.rn.frozen 3
  have hBs := hS.rn.lt
  have HK : Hid _ := hK
  clear hK
  have HBd : Hid (∀ o : Obj, Below W.heap.size W (W.alloc o).drew) := fun o => ((Below.refl W.heap.size W).alloc (Nat.le_refl _) o).drew
  have q0 : (W.alloc (.cells #[.int .i64 (i0 : Int)] 3)).cell? ⟨B0, 0, none⟩ = _ := cell_alloc_k _ c0
  have q3 : (W.alloc (.cells #[.int .i64 (i0 : Int)] 3)).cell? ⟨rb, 3, none⟩ = _ := cell_alloc_k _ l3
  have HQ : Hid _ := q0
  rcases Go.Joins.ownsRow_forms hS.lf with ⟨rfl, h0⟩ | ⟨gl, cl, rfl⟩
  · clear hS
    refine wpIn_wide.2 ?_
    go_region_law (refine step_append_lies _ rfl (.tmp 12) (.tmp 14) 45 rfl (rb + 1) 3 i1 _ 1 8 Tryd.underlying45 hi1 hy0 hy1 hy2 rfl (by decide) (.slice none 0 0) 0 [] (by first | rfl | simp [Act.eval, Act.put]) (World.ownsRow_nil _ _ _ _) ⟨W.heap.size, 0, none⟩ 1 1 [.int .i64 (i0 : Int)] (by first | rfl | simp [Act.eval, Act.put]) rfl (Nt.one_new W _ _) (fun u hu => by simp only [List.mem_singleton] at hu; subst hu; rfl) (by decide) (by unfold maxLen; omega) (by omega) (by simp; omega) _ rfl ?_; intro g3 c3 w3 ho hg hat hlt3; have b3 := Nt.left_blk HS.out.rn HS.out.lf (HBd.out _) hg; have d3 := b3.cells.2.2.2; have k3 := b3.frozen 3; have e3 : w3.cell? ⟨B0, 0, none⟩ = _ := hg.cell HQ.out (fun h => HS.out.off.1 h.symm); have HP : Hid _ := Nt.left_put2 (l := []) (news := [i0]) HS.out.rn HS.out.lf rfl (HBd.out _) hg ho (hat.imp id (fun h => Nat.le_of_eq h.symm)); clear ho hg hat b3)
    all_goals
      go_wp2_with fail
      obtain ⟨h1, h2, h3⟩ := HP.out
      exact HK.out _ _ _ _ _ _ _ _ _ _ _ _ _ (HS.out.turn h1 h2 h3) h3
  · have HO : Hid (W.ownsRow (rb + 1) 3 1 (.slice (some ⟨gl, 0, none⟩) 0 cl) 0 []) := Nt.own_pre hS.lf 0 (Nat.zero_le _)
    have hcl : cl ≤ maxLen := by
      obtain ⟨_, h | ⟨g', cap', cur, hv, _, _, h3, h4, _⟩⟩ := hS.lf
      · cases h.1
      · injection hv with _ _ e3
        omega
    clear hS
    refine wpIn_wide.2 ?_
    go_region_law (refine step_append_lies _ rfl (.tmp 12) (.tmp 14) 45 rfl (rb + 1) 3 i1 _ 1 8 Tryd.underlying45 hi1 hy0 hy1 hy2 rfl (by decide) (.slice (some ⟨gl, 0, none⟩) 0 cl) 0 [] (by first | rfl | simp [Act.eval, Act.put]) (World.ownsRow.drew (World.ownsRow.alloc HO.out _)) ⟨W.heap.size, 0, none⟩ 1 1 [.int .i64 (i0 : Int)] (by first | rfl | simp [Act.eval, Act.put]) rfl (Nt.one_new W _ _) (fun u hu => by simp only [List.mem_singleton] at hu; subst hu; rfl) (by decide) (by unfold maxLen; omega) (by omega) (by simp; omega) _ rfl ?_; intro g3 c3 w3 ho hg hat hlt3; have b3 := Nt.left_blk HS.out.rn HS.out.lf (HBd.out _) hg; have d3 := b3.cells.2.2.2; have k3 := b3.frozen 3; have e3 : w3.cell? ⟨B0, 0, none⟩ = _ := hg.cell HQ.out (fun h => HS.out.off.1 h.symm); have HP : Hid _ := Nt.left_put2 (l := []) (news := [i0]) HS.out.rn HS.out.lf rfl (HBd.out _) hg ho (hat.imp id (fun h => Nat.le_of_eq h.symm)); clear ho hg hat b3)
    all_goals
      go_wp2_with fail
      obtain ⟨h1, h2, h3⟩ := HP.out
      exact HK.out _ _ _ _ _ _ _ _ _ _ _ _ _ (HS.out.turn h1 h2 h3) h3
end Go.Proofs.YtdiokclbdaojpaaDoor
