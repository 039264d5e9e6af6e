/- lexer: the reference's letter, digit, integer. -/
import Derived.Test.YtjbkepjkmihojaaDoorLd
import Derived.Test.YtjbkepjkmihojaaDoorNr
namespace Go.Proofs.YtjbkepjkmihojaaDoor
open Go.RowKit
set_option linter.unusedVariables false

theorem rletter_c (w : World) (c : UInt8) : Calls Tryd.prog 68 #[.int .u8 (c.toNat : Int)] w fun e w' => e = .returned (.bool (letB c)) ∧ w = w' := by
  have h := c.toNat_lt
  rcases (by omega : c.toNat < 65 ∨ (65 ≤ c.toNat ∧ c.toNat ≤ 90) ∨ (91 ≤ c.toNat ∧ c.toNat ≤ 94) ∨ c.toNat = 95 ∨ c.toNat = 96 ∨ (97 ≤ c.toNat ∧ c.toNat ≤ 122) ∨ 122 < c.toNat) with g | g | g | g | g | g | g
  · have HE := Lib.hid (show letB c = false from by unfold letB; simp; omega)
    have t95 : ((c.toNat : Int) == 95) = false := by simp; omega
    go_enter Tryd.func68, Tryd.ntmps68
    go_wp2
    go_ret
    exact ⟨by rw [HE.out]; first | rfl | (simp; omega), rfl⟩
  · have HE := Lib.hid (show letB c = true from by unfold letB; simp; omega)
    have t95 : ((c.toNat : Int) == 95) = false := by simp; omega
    obtain ⟨g1, g2⟩ := g
    go_enter Tryd.func68, Tryd.ntmps68
    go_wp2
    go_ret
    exact ⟨by rw [HE.out]; first | rfl | (simp; omega), rfl⟩
  · have HE := Lib.hid (show letB c = false from by unfold letB; simp; omega)
    have t95 : ((c.toNat : Int) == 95) = false := by simp; omega
    obtain ⟨g1, g2⟩ := g
    go_enter Tryd.func68, Tryd.ntmps68
    go_wp2
    go_ret
    exact ⟨by rw [HE.out]; first | rfl | (simp; omega), rfl⟩
  · have HE := Lib.hid (show letB c = true from by unfold letB; simp; omega)
    have t95 : ((c.toNat : Int) == 95) = true := by simp; omega
    go_enter Tryd.func68, Tryd.ntmps68
    go_wp2
    go_ret
    exact ⟨by rw [HE.out]; first | rfl | (simp; omega), rfl⟩
  · have HE := Lib.hid (show letB c = false from by unfold letB; simp; omega)
    have t95 : ((c.toNat : Int) == 95) = false := by simp; omega
    go_enter Tryd.func68, Tryd.ntmps68
    go_wp2
    go_ret
    exact ⟨by rw [HE.out]; first | rfl | (simp; omega), rfl⟩
  · have HE := Lib.hid (show letB c = true from by unfold letB; simp; omega)
    have t95 : ((c.toNat : Int) == 95) = false := by simp; omega
    obtain ⟨g1, g2⟩ := g
    go_enter Tryd.func68, Tryd.ntmps68
    go_wp2
    go_ret
    exact ⟨by rw [HE.out]; first | rfl | (simp; omega), rfl⟩
  · have HE := Lib.hid (show letB c = false from by unfold letB; simp; omega)
    have t95 : ((c.toNat : Int) == 95) = false := by simp; omega
    go_enter Tryd.func68, Tryd.ntmps68
    go_wp2
    go_ret
    exact ⟨by rw [HE.out]; first | rfl | (simp; omega), rfl⟩
theorem rdigit8_c (w : World) (c : UInt8) : Calls Tryd.prog 69 #[.int .u8 (c.toNat : Int)] w fun e w' => e = .returned (.bool (isDig c)) ∧ w = w' := by
  have h := c.toNat_lt
  rcases (by omega : c.toNat < 48 ∨ (48 ≤ c.toNat ∧ c.toNat ≤ 57) ∨ 57 < c.toNat) with g | g | g
  · have HE := Lib.hid (show isDig c = false from by unfold isDig; simp; omega)
    go_enter Tryd.func69, Tryd.ntmps69
    go_wp2
    go_ret
    exact ⟨by rw [HE.out]; first | rfl | (simp; omega), rfl⟩
  · have HE := Lib.hid (show isDig c = true from by unfold isDig; simp; omega)
    obtain ⟨g1, g2⟩ := g
    go_enter Tryd.func69, Tryd.ntmps69
    go_wp2
    go_ret
    exact ⟨by rw [HE.out]; first | rfl | (simp; omega), rfl⟩
  · have HE := Lib.hid (show isDig c = false from by unfold isDig; simp; omega)
    go_enter Tryd.func69, Tryd.ntmps69
    go_wp2
    go_ret
    exact ⟨by rw [HE.out]; first | rfl | (simp; omega), rfl⟩

def tripV (x : Wd) (n : Nat) (ok : Bool) : Value := .tuple #[x.val, .int .i64 n, .bool ok]
theorem tb_take (s : ByteArray) (k : Nat) : tb (s.extract 0 k) = s.data.toList.take k := by unfold tb; rw [take_cut]

end Go.Proofs.YtjbkepjkmihojaaDoor
