/- lexer: the law's awake. -/
import Derived.Test.YtejffaidbnodhaaDoorLl
namespace Go.Proofs.YtejffaidbnodhaaDoor
open Go.RowKit
set_option linter.unusedVariables false

theorem words_awake : wordsOf [97, 60, 61, 49] = ([⟨1, [97], 0⟩, ⟨4, [60, 61], 0⟩, ⟨2, [], 1⟩, noW], 0, 0) := by kernel_rfl

set_option maxRecDepth 100000 in
theorem awake_c (w : World) (hT : Tabs w) : Calls Tryd.prog 11 #[] w fun e w' => e = .returned (.bool true) ∧ Below w.heap.size w w' := by
  have HQ := words_c w hT ⟨#[97, 60, 61, 49]⟩ (by decide)
  rw [show (⟨#[97, 60, 61, 49]⟩ : ByteArray).data.toList = [97, 60, 61, 49] from rfl, words_awake] at HQ
  have HQ' := Lib.hid HQ
  have HT2 := Lib.hid (show ∀ X : ByteArray, X = ⟨[60, 61].toArray⟩ → (X.toList == [60, 61]) = true from by intro X h; subst h; rw [toList_data]; rfl)
  clear HQ hT
  go_enter Tryd.func11, Tryd.ntmps11
  go_wp2_with fail
  refine (HQ'.out).mono ?_
  rintro e w2 ⟨v, rfl, ho, hb⟩
  have HB := Lib.hid hb
  obtain ⟨g, off, c, rfl, n1, n2, n3⟩ := ho.word (k := 1) (by simp)
  simp only [List.getElem_cons_succ, List.getElem_cons_zero, Nat.one_mul] at n1 n2 n3
  obtain ⟨X, hX⟩ : ∃ X : ByteArray, X = ⟨[60, 61].toArray⟩ := ⟨_, rfl⟩
  rw [← hX] at n2
  have hx2 := HT2.out X hX
  have hl : ([⟨1, [97], 0⟩, ⟨4, [60, 61], 0⟩, ⟨2, [], 1⟩, noW] : List Wd).length = 4 := rfl
  rw [hl]
  clear ho hb hX n1 n3 hl
  go_wp2_with fail
  go_ret
  exact ⟨by first | rfl | (rw [hx2]) | simp [*], HB.out⟩
end Go.Proofs.YtejffaidbnodhaaDoor
