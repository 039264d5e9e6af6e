/- slices.Equal of two lists that read alike. -/
import Derived.Test.YtkapelpbepejfaaGv
namespace Go.Proofs.Ytkapelpbepejfaa
open Go Go.RowKit Go.Deep Go.Shelf
set_option linter.unusedVariables false
set_option linter.unusedSimpArgs false

theorem RdF.cellF {w : World} {a : Option Addr} {n c : Nat} {l : List ByteArray} (h : RdF w (.slice a n c) (tcellsF l)) (k : Nat) (hk : k < l.length) : ∃ b o, a = some ⟨b, o, none⟩ ∧ w.cell? ⟨b, o + k, none⟩ = some (.string l[k]) := by
  obtain ⟨a', c', e, h1, h2, h3, h4⟩ := h
  simp only [Value.slice.injEq] at e
  obtain ⟨rfl, _, rfl⟩ := e
  have hl : (tcellsF l).length = l.length := by simp [tcellsF]
  obtain ⟨b, o, ha, hc⟩ := h4 (by omega)
  exact ⟨b, o, ha, (hc k (by omega)).trans (by simp [tcellsF, List.getElem?_eq_getElem hk])⟩
set_option maxRecDepth 100000 in
set_option maxHeartbeats 2000000 in
theorem eqsame_c (w : World) (v1 v2 : Value) (l : List ByteArray) (h1 : RdF w v1 (tcellsF l)) (h2 : RdF w v2 (tcellsF l)) : Calls Try.prog 12 #[v1, v2] w fun e w' => e = .returned (.bool true) ∧ ∃ d, w' = w.drewN d := by
  have hl : (tcellsF l).length = l.length := by simp [tcellsF]
  obtain ⟨p, cp, hv1, _, hm1, _⟩ := id h1
  obtain ⟨p2, cp2, hv2, _⟩ := id h2
  rw [hl] at hv1 hv2
  subst hv1 hv2
  have hn1 : l.length ≤ 9223372036854775807 := by
    obtain ⟨_, _, e, g1, g2, _⟩ := h1
    unfold maxLen at g2
    omega
  have HC1 := Lib.hid (fun k (hk : k < l.length) => h1.cellF k hk)
  have HC2 := Lib.hid (fun k (hk : k < l.length) => h2.cellF k hk)
  clear h1 h2 hl hm1
  go_enter Try.func12, Try.ntmps12
  go_wp2_with fail
  go_loopw [13] (fun i wr => ∃ k d : Nat, k ≤ l.length ∧ i = .int .i64 k ∧ wr = w.drewN d) (fun i _ => l.length - (intOf i).toNat)
  case atStart => exact ⟨0, 0, by omega, rfl, rfl⟩
  case round =>
    obtain ⟨k, d, hk, rfl, rfl⟩ := hrel
    by_cases hlt : k < l.length
    · have hd : decide ((k : Int) < (l.length : Int)) = true := decide_eq_true (by omega)
      obtain ⟨b1, o1, rfl, hc1⟩ := HC1.out k hlt
      obtain ⟨b2, o2, rfl, hc2⟩ := HC2.out k hlt
      obtain ⟨a1, ha1⟩ : ∃ a, l[k] = a := ⟨_, rfl⟩
      rw [ha1] at hc1 hc2
      have hq : (a1.toList == a1.toList) = true := by simp
      clear ha1
      go_wp2_with fail
      go_quiet (fail)
      go_wp2_with fail
      go_roundw
      case rel => exact ⟨k + 1, _, by omega, by go_num, rfl⟩
      case measure => simp [intOf]; omega
    · have hd : decide ((k : Int) < (l.length : Int)) = false := decide_eq_false (by omega)
      go_wp2_with fail
      go_ret
      exact ⟨by rfl, _, rfl⟩
end Go.Proofs.Ytkapelpbepejfaa
