/- The reference's Text: it calls itself. -/
import Derived.Test.YthkkoippagocpaaGreatDoorNt
namespace Go.Proofs.YthkkoippagocpaaGreatDoor
open Go.RowKit
set_option linter.unusedVariables false

theorem txt_size (k : Nat) : ∀ (n : Int), -9223372036854775808 ≤ n → n ≤ 9223372036854775807 → (txt n).length ≤ 25 := by
  intro n h1 h2
  have hd : ∀ f u, (dg f u).length ≤ f + 1 := by
    intro f
    induction f with
    | zero => intro u; simp [dg]
    | succ f ih => intro u; unfold dg; split; · simp
                   · have := ih (u / 10); simp; omega
  unfold txt
  split
  · have := hd 20 (-n).toNat
    unfold ds
    simp only [List.length_cons]
    omega
  · have := hd 20 n.toNat
    unfold ds
    omega

theorem cat (a b : List UInt8) : ((⟨a.toArray⟩ : ByteArray) ++ ⟨b.toArray⟩) = ⟨(a ++ b).toArray⟩ := by
  apply ByteArray.ext
  simp [ByteArray.data_append]

theorem digit_cut : ∀ m : Fin 10, ((⟨#[48, 49, 50, 51, 52, 53, 54, 55, 56, 57]⟩ : ByteArray).extract m.val (m.val + 1)) = ⟨[UInt8.ofNat (48 + m.val)].toArray⟩ := by decide +kernel

end Go.Proofs.YthkkoippagocpaaGreatDoor
