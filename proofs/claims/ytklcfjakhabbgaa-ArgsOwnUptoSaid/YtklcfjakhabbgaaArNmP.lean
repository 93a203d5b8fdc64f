/- Plain: what Read makes of a piece and of names behind two dashes, and of the lists of begins(). -/
import Derived.Test.YtklcfjakhabbgaaArRd
namespace Go.Proofs.Ytklcfjakhabbgaa
namespace Ar
def dashE : ByteArray := ⟨#[45, 101]⟩
def dash2 : ByteArray := ⟨#[45, 45]⟩
def nmAv (p : ByteArray) (l : List ByteArray) : Av := { av0' with sc := [(false, p)], nm := l }
theorem optE (p : ByteArray) (l : List ByteArray) : optionF (dashE :: p :: dash2 :: l) [101] 0 av0' = (true, 1, { av0' with sc := [(false, p)] }) := by
  unfold optionF
  rw [if_neg (by decide), lettersF, if_neg (by decide), if_neg (by decide), if_pos ⟨by decide, rfl⟩, if_pos (by simp)]
  rfl
theorem read_e (p : ByteArray) (l : List ByteArray) (h : l.length + 3 ≤ 65536) : readF (dashE :: p :: dash2 :: l) = (nmAv p l, 0, 0) := by
  have e : optsF (dashE :: p :: dash2 :: l) (l.length + 3) 0 av0' = (true, 3, { av0' with sc := [(false, p)] }) := by
    rw [optsF, if_neg (by simp)]
    dsimp only
    rw [show ((dashE :: p :: dash2 :: l).getD 0 (bs [])).data.toList = [45, 101] from rfl, if_neg (by decide), if_neg (by decide), show List.drop 1 ([45, 101] : List UInt8) = [101] from rfl, optE]
    dsimp only
    rw [if_pos rfl, optsF, if_neg (by simp)]
    dsimp only
    rw [show ((dashE :: p :: dash2 :: l).getD (1 + 1) (bs [])).data.toList = [45, 45] from rfl, if_pos rfl]
  have hl : (dashE :: p :: dash2 :: l).length = l.length + 3 := rfl
  have ho : operF (dashE :: p :: dash2 :: l) 3 { av0' with sc := [(false, p)] } = (true, 3, nmAv p l) := by
    rw [operF, if_neg (by simp)]
    rfl
  unfold readF
  rw [if_neg (by simp; omega), hl, e]
  dsimp only
  rw [ho]
  rfl
theorem read_2 (p : ByteArray) (l : List ByteArray) (h : l.length + 2 ≤ 65536) : readF (dash2 :: p :: l) = (nmAv p l, 0, 0) := by
  have e : optsF (dash2 :: p :: l) (l.length + 2) 0 av0' = (true, 1, av0') := by
    rw [optsF, if_neg (by simp)]
    dsimp only
    rw [show ((dash2 :: p :: l).getD 0 (bs [])).data.toList = [45, 45] from rfl, if_pos rfl]
  have hl : (dash2 :: p :: l).length = l.length + 2 := rfl
  have ho : operF (dash2 :: p :: l) 1 av0' = (true, 2, nmAv p l) := by
    rw [operF, if_pos (show av0'.sc = [] from rfl), if_pos (by simp)]
    rfl
  unfold readF
  rw [if_neg (by simp; omega), hl, e]
  dsimp only
  rw [ho]
  rfl
/-- The list that begins() reads. -/
def begL : List ByteArray := [⟨#[45, 110, 101]⟩, ⟨#[112]⟩, ⟨#[102]⟩]
theorem read_beg : readF begL = ({ av0' with q := true, sc := [(false, ⟨#[112]⟩)], nm := [⟨#[102]⟩] }, 0, 0) := by rfl
end Ar
end Go.Proofs.Ytklcfjakhabbgaa
