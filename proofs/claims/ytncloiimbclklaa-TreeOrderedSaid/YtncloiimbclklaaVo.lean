/- tree: the program's Order. -/
import Derived.Test.YtncloiimbclklaaVc
import Derived.Deep.DeepFit
namespace Go.Proofs.Ytncloiimbclklaa
open Go Go.RowKit Go.Shelf
set_option linter.unusedVariables false

def strLen : Value → Nat
  | .string s => s.size
  | _ => 0

theorem toList_bytes (s : ByteArray) : s.toList = s.data.toList := by simp [ByteArray.toList_eq]

set_option maxRecDepth 100000 in
set_option maxHeartbeats 2000000 in
theorem order_c (w : World) (a b : ByteArray) (ha : a.size ≤ 140737488355328) (hb : b.size ≤ 140737488355328) :
    Calls Try.prog 26 #[.string a, .string b] w fun e w' => e = .returned (.int .i64 (ordF a.data.toList b.data.toList)) ∧ Below w.heap.size w w' := by
  obtain ⟨R, hR⟩ : ∃ R, ordF a.data.toList b.data.toList = R := ⟨_, rfl⟩
  rw [hR]
  have HR0 := Lib.hid hR
  clear hR
  have HA := Lib.hid ha
  have HB := Lib.hid hb
  clear ha hb
  go_enter Try.func26, Try.ntmps26
  go_wp2_with fail
  go_loopw [0, 1] (fun va vb wr => ∃ A B : ByteArray, va = .string A ∧ vb = .string B ∧ A.size ≤ 140737488355328 ∧ B.size ≤ 140737488355328 ∧ ordF A.data.toList B.data.toList = R ∧ Below w.heap.size w wr) (fun va _ _ => strLen va)
  case atStart => exact ⟨a, b, rfl, rfl, HA.out, HB.out, HR0.out, Below.refl _ _⟩
  case round =>
    obtain ⟨X, Y, rfl, rfl, hX, hY, hr, hbr⟩ := hrel
    have HB1 := Lib.hid hbr
    have HR := Lib.hid hr
    clear hbr hr HA HB HR0
    have HC1 := fun w => cut_c X hX w
    have HC2 := fun w => cut_c Y hY w
    have l1 := cutS_le X.data.toList
    have l2 := cutS_le Y.data.toList
    have hxl : X.data.toList.length = X.size := Array.length_toList
    have hyl : Y.data.toList.length = Y.size := Array.length_toList
    rw [hxl] at l1
    rw [hyl] at l2
    obtain ⟨P, hP⟩ : ∃ P : ByteArray, P = ⟨(cutS X.data.toList).1.toArray⟩ := ⟨_, rfl⟩
    obtain ⟨P2, hP2⟩ : ∃ P : ByteArray, P = ⟨(cutS X.data.toList).2.toArray⟩ := ⟨_, rfl⟩
    obtain ⟨Q, hQ⟩ : ∃ P : ByteArray, P = ⟨(cutS Y.data.toList).1.toArray⟩ := ⟨_, rfl⟩
    obtain ⟨Q2, hQ2⟩ : ∃ P : ByteArray, P = ⟨(cutS Y.data.toList).2.toArray⟩ := ⟨_, rfl⟩
    have eP : (cutS X.data.toList).1 = P.data.toList := by rw [hP]
    have eP2 : (cutS X.data.toList).2 = P2.data.toList := by rw [hP2]
    have eQ : (cutS Y.data.toList).1 = Q.data.toList := by rw [hQ]
    have eQ2 : (cutS Y.data.toList).2 = Q2.data.toList := by rw [hQ2]
    have sP : P.data.toList.length = P.size := Array.length_toList
    have sP2 : P2.data.toList.length = P2.size := Array.length_toList
    have sQ : Q.data.toList.length = Q.size := Array.length_toList
    have sQ2 : Q2.data.toList.length = Q2.size := Array.length_toList
    have HN := Lib.hid (ordF_ne X.data.toList Y.data.toList)
    have HE := Lib.hid (ordF_eq X.data.toList Y.data.toList)
    have nP := cutS_no X.data.toList
    have nQ := cutS_no Y.data.toList
    rw [eP] at nP
    rw [eQ] at nQ
    rw [eP, eQ] at HN
    rw [eP, eQ, eP2, eQ2] at HE
    rw [eP, eP2, sP, sP2] at l1
    rw [eQ, eQ2, sQ, sQ2] at l2
    rw [← hP, ← hP2] at HC1
    rw [← hQ, ← hQ2] at HC2
    have HL1 := Lib.hid l1
    have HL2 := Lib.hid l2
    have hPs : P.size ≤ 140737488355328 := by omega
    have hQs : Q.size ≤ 140737488355328 := by omega
    have HPO := Lib.hid (fun w => partOrder_c w P Q hPs hQs nP nQ)
    have HX := Lib.hid hX
    have HY := Lib.hid hY
    clear hX hY hxl hyl hP hP2 hQ hQ2 eP eP2 eQ eQ2 sP sP2 sQ sQ2 nP nQ l1 l2 hPs hQs
    rw [HR.out] at HN HE
    by_cases hpq : P.data.toList = Q.data.toList
    · have hq : (P.toList == Q.toList) = true := by rw [toList_bytes, toList_bytes, hpq]; simp
      by_cases h1 : (47 : UInt8) ∈ X.data.toList
      · by_cases h2 : (47 : UInt8) ∈ Y.data.toList
        · skip
          have HZ := Lib.hid (show R = ordF P2.data.toList Q2.data.toList from by rw [HE.out hpq]; simp [h1, h2])
          have HC1' := Lib.hid HC1
          have HC2' := Lib.hid HC2
          rw [show decide ((47 : UInt8) ∈ X.data.toList) = true from by simp [h1]] at HC1'
          rw [show decide ((47 : UInt8) ∈ Y.data.toList) = true from by simp [h2]] at HC2'
          have HM := Lib.hid (HL1.out.2.2 h1)
          clear HC1 HC2 h1 h2 HE HN HPO hpq
          go_wp2_with (first
        | (go_at_call 50; with_reducible refine (HC2'.out _).mono ?_; rintro e w' ⟨rfl, q2, rfl⟩)
        | (go_at_call 50; with_reducible refine (HC1'.out _).mono ?_; rintro e w' ⟨rfl, q1, rfl⟩))
          exact ⟨⟨P2, Q2, rfl, rfl, by have := HL1.out.2.1; have := HX.out; omega, by have := HL2.out.2.1; have := HY.out; omega, HZ.out.symm, below_drewN HB1.out _⟩, HM.out⟩
        · skip
          have HZ := Lib.hid (show R = 1 from by rw [HE.out hpq]; simp [h1, h2])
          have HC1' := Lib.hid HC1
          have HC2' := Lib.hid HC2
          rw [show decide ((47 : UInt8) ∈ X.data.toList) = true from by simp [h1]] at HC1'
          rw [show decide ((47 : UInt8) ∈ Y.data.toList) = false from by simp [h2]] at HC2'
          clear HC1 HC2 h1 h2 HE HN HPO hpq
          go_wp2_with (first
        | (go_at_call 50; with_reducible refine (HC2'.out _).mono ?_; rintro e w' ⟨rfl, q2, rfl⟩)
        | (go_at_call 50; with_reducible refine (HC1'.out _).mono ?_; rintro e w' ⟨rfl, q1, rfl⟩))
          go_ret
          exact ⟨by rw [HZ.out]; rfl, below_drewN HB1.out _⟩
      · by_cases h2 : (47 : UInt8) ∈ Y.data.toList
        · skip
          have HZ := Lib.hid (show R = -1 from by rw [HE.out hpq]; simp [h1, h2])
          have HC1' := Lib.hid HC1
          have HC2' := Lib.hid HC2
          rw [show decide ((47 : UInt8) ∈ X.data.toList) = false from by simp [h1]] at HC1'
          rw [show decide ((47 : UInt8) ∈ Y.data.toList) = true from by simp [h2]] at HC2'
          clear HC1 HC2 h1 h2 HE HN HPO hpq
          go_wp2_with (first
        | (go_at_call 50; with_reducible refine (HC2'.out _).mono ?_; rintro e w' ⟨rfl, q2, rfl⟩)
        | (go_at_call 50; with_reducible refine (HC1'.out _).mono ?_; rintro e w' ⟨rfl, q1, rfl⟩))
          go_ret
          exact ⟨by rw [HZ.out]; rfl, below_drewN HB1.out _⟩
        · skip
          have HZ := Lib.hid (show R = 0 from by rw [HE.out hpq]; simp [h1, h2])
          have HC1' := Lib.hid HC1
          have HC2' := Lib.hid HC2
          rw [show decide ((47 : UInt8) ∈ X.data.toList) = false from by simp [h1]] at HC1'
          rw [show decide ((47 : UInt8) ∈ Y.data.toList) = false from by simp [h2]] at HC2'
          clear HC1 HC2 h1 h2 HE HN HPO hpq
          go_wp2_with (first
        | (go_at_call 50; with_reducible refine (HC2'.out _).mono ?_; rintro e w' ⟨rfl, q2, rfl⟩)
        | (go_at_call 50; with_reducible refine (HC1'.out _).mono ?_; rintro e w' ⟨rfl, q1, rfl⟩))
          go_ret
          exact ⟨by rw [HZ.out]; rfl, below_drewN HB1.out _⟩
    · have hq : (P.toList == Q.toList) = false := by rw [toList_bytes, toList_bytes]; simpa using hpq
      have HZ := Lib.hid (show R = cmpX P.data.toList Q.data.toList from HN.out hpq)
      rw [← HZ.out] at HPO
      have HC1' := Lib.hid HC1
      have HC2' := Lib.hid HC2
      generalize decide ((47 : UInt8) ∈ X.data.toList) = m1 at HC1'
      generalize decide ((47 : UInt8) ∈ Y.data.toList) = m2 at HC2'
      clear HC1 HC2 HE HN hpq
      go_wp2_with (first
        | (go_at_call 51; refine (HPO.out _).mono ?_; rintro e w' ⟨rfl, hb⟩; have HB2 := Lib.hid (bel_tr (below_drewN HB1.out _) hb); clear hb)
        | (go_at_call 50; with_reducible refine (HC2'.out _).mono ?_; rintro e w' ⟨rfl, q2, rfl⟩)
        | (go_at_call 50; with_reducible refine (HC1'.out _).mono ?_; rintro e w' ⟨rfl, q1, rfl⟩))
      go_ret
      exact ⟨rfl, HB2.out⟩
end Go.Proofs.Ytncloiimbclklaa
