/- Letters as one argument: flags. -/
import Derived.Test.YtfkdnojoammlcaaArSh
import Derived.Test.YtfkdnojoammlcaaArA
namespace Go.Proofs.Ytfkdnojoammlcaa
open Go.RowKit

/-- The slice at address a, of capacity cap, reads in w as the bytes l. -/
structure Bys (w : World) (a : Option Addr) (cap : Nat) (l : List UInt8) : Prop where
  len : l.length ≤ 1048576
  nil : a = none → cap = 0
  room : l.length ≤ cap
  most : cap ≤ maxLen
  cells : ∀ i (h : i < l.length), ∃ b off, a = some ⟨b, off, none⟩ ∧ b < w.heap.size ∧ w.cell? ⟨b, off + i, none⟩ = some (.int .u8 ((l[i]'h).toNat : Int))
theorem Bys.below {w w' : World} {a : Option Addr} {cap : Nat} {l : List UInt8} (h : Bys w a cap l) (hb : Below w.heap.size w w') : Bys w' a cap l := by
  refine ⟨h.len, h.nil, h.room, h.most, fun i hi => ?_⟩
  obtain ⟨b, off, e, hlt, h1⟩ := h.cells i hi
  exact ⟨b, off, e, Nat.lt_of_lt_of_le hlt hb.size, (hb.cell (p := ⟨b, off + i, none⟩) hlt).trans h1⟩
namespace Ar
/-- The letter of a byte. -/
def fb (b : UInt8) : UInt8 := match b.toNat % 4 with
  | 0 => 110 | 1 => 69 | 2 => 114 | _ => 115
/-- Letters as one argument. -/
def flB (l : List UInt8) : ByteArray := bs (45 :: l.map fb)
theorem flB_take (l : List UInt8) (k : Nat) (h : k < l.length) : flB (l.take k) ++ bs [fb (l[k]'h)] = flB (l.take (k + 1)) := by
  apply ba_ext
  rw [ByteArray.data_append, Array.toList_append, flB, flB, data_bs, data_bs, data_bs, List.take_succ_eq_append_getElem h, List.map_append]
  rfl
def fbm (m : Nat) : UInt8 := match m with
  | 0 => 110 | 1 => 69 | 2 => 114 | _ => 115
theorem fb_of {b : UInt8} {m : Nat} (h : b.toNat % 4 = m) : fb b = fbm m := by subst h; rfl
end Ar

set_option maxRecDepth 100000 in
set_option maxHeartbeats 1000000 in
theorem flags_any (l : List UInt8) (a : Option Addr) (c : Nat) (w : World) (h : Bys w a c l) :
    Calls Try.prog 23 #[.slice a l.length c] w fun e w' => e = .returned (.string (Ar.flB l)) ∧ w = w' := by
  have hlen := h.len
  have HH : Hid _ := h
  clear h
  go_enter Try.func23, Try.ntmps23
  go_wp2_with fail
  go_loopw [3, 4] (fun sv iv wr => ∃ (k : Nat) (S : ByteArray), iv = .int .i64 (k : Int) ∧ sv = .string S ∧ k ≤ l.length ∧ S.size = k + 1 ∧ Hid (S = Ar.flB (l.take k)) ∧ w = wr) (fun _ iv _ => l.length - (intOf iv).toNat)
  case atStart => exact ⟨0, ⟨#[45]⟩, rfl, rfl, Nat.zero_le _, rfl, rfl, rfl⟩
  case round =>
    obtain ⟨k, S, rfl, rfl, hk, hS, HS, rfl⟩ := hrel
    by_cases hlt : k < l.length
    · have hd : (k : Int) < (l.length : Int) := by omega
      have hw : IntKind.i64.wrap ((k : Int) + 1) = (k : Int) + 1 := by rw [IntKind.wrap_i64]; omega
      obtain ⟨bb, off, rfl, hbb, d0⟩ := HH.out.cells k hlt
      have HT := Ar.flB_take l k hlt
      generalize l[k]'hlt = b at *
      have hb := b.toNat_lt
      obtain ⟨m, hm⟩ : ∃ m, b.toNat % 4 = m := ⟨_, rfl⟩
      have hmi : ((b.toNat : Int).tmod 4) = (m : Int) := by rw [← hm, Int.tmod_eq_emod_of_nonneg (by omega)]; omega
      have hm4 : m < 4 := by omega
      have HT2 : Hid _ := HT
      rw [Ar.fb_of hm] at HT2
      have HSS : Hid (Ar.flB (l.take k) = S) := HS.out.symm
      clear HT HS
      match m, hm4 with
      | 0, _ =>
        have HN : Hid (S ++ (({ data := #[110, 69, 114, 115] } : ByteArray).extract 0 4).extract 0 1 = Ar.flB (l.take (k + 1))) := by
          show _ = _
          rw [← HSS.out]
          exact HT2.out
        clear HT2 HSS
        go_wp2_with fail
        go_roundw
        case rel => exact ⟨k + 1, _, by simp, rfl, by omega, by rw [ByteArray.size_append, hS]; rfl, HN, trivial⟩
        case measure => simp only [intOf]; omega
      | 1, _ =>
        have HN : Hid (S ++ (({ data := #[110, 69, 114, 115] } : ByteArray).extract 1 4).extract 0 1 = Ar.flB (l.take (k + 1))) := by
          show _ = _
          rw [← HSS.out]
          exact HT2.out
        clear HT2 HSS
        go_wp2_with fail
        go_roundw
        case rel => exact ⟨k + 1, _, by simp, rfl, by omega, by rw [ByteArray.size_append, hS]; rfl, HN, trivial⟩
        case measure => simp only [intOf]; omega
      | 2, _ =>
        have HN : Hid (S ++ (({ data := #[110, 69, 114, 115] } : ByteArray).extract 2 4).extract 0 1 = Ar.flB (l.take (k + 1))) := by
          show _ = _
          rw [← HSS.out]
          exact HT2.out
        clear HT2 HSS
        go_wp2_with fail
        go_roundw
        case rel => exact ⟨k + 1, _, by simp, rfl, by omega, by rw [ByteArray.size_append, hS]; rfl, HN, trivial⟩
        case measure => simp only [intOf]; omega
      | 3, _ =>
        have HN : Hid (S ++ (({ data := #[110, 69, 114, 115] } : ByteArray).extract 3 4).extract 0 1 = Ar.flB (l.take (k + 1))) := by
          show _ = _
          rw [← HSS.out]
          exact HT2.out
        clear HT2 HSS
        go_wp2_with fail
        go_roundw
        case rel => exact ⟨k + 1, _, by simp, rfl, by omega, by rw [ByteArray.size_append, hS]; rfl, HN, trivial⟩
        case measure => simp only [intOf]; omega
    · have hd : ¬ (k : Int) < (l.length : Int) := by omega
      obtain rfl : k = l.length := by omega
      have HS2 : Hid (S = Ar.flB l) := by have := HS.out; rw [List.take_length] at this; exact this
      clear HS
      go_wp2_with fail
      go_ret
      exact ⟨congrArg (fun s => Ending.returned (Value.string s)) HS2.out, rfl⟩
end Go.Proofs.Ytfkdnojoammlcaa
