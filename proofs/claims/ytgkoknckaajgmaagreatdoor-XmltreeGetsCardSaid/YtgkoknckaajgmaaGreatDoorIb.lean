/- xmllex: the model's errors are not 0; each token stands behind the one ahead. -/
import Derived.Test.YtgkoknckaajgmaaGreatDoorHz
namespace Go.Proofs.YtgkoknckaajgmaaGreatDoor
open Go.RowKit
set_option linter.unusedVariables false

theorem NZ.err {α : Type} {n : Nat} (h : n ≠ 0) : NZ (.error n : Except Nat α) := fun z e => by cases e; exact h
theorem NZ.ok {α : Type} (x : α) : NZ (.ok x : Except Nat α) := fun z e => by cases e
theorem nz_valQ (q : UInt8) (t : List UInt8) : NZ (valQ q t) := by
  unfold valQ
  split
  · exact NZ.err (by decide)
  split
  · exact NZ.err (by decide)
  split
  · exact NZ.err (by decide)
  · exact NZ.ok _
theorem nz_valP (r : List UInt8) : NZ (valP r) := by
  unfold valP
  split
  · exact nz_valQ _ _
  split
  · exact nz_valQ _ _
  · exact NZ.err (by decide)
theorem nz_attrP (r : List UInt8) : NZ (attrP r) := by
  unfold attrP
  split
  · exact NZ.err (by decide)
  split
  · split
    · rename_i h
      exact NZ.err (nz_valP _ _ h)
    · exact NZ.ok _
  · exact NZ.err (by decide)
theorem nz_opnF (g : Nat) : ∀ (r : List UInt8) (k : Nat) (l : List (List UInt8 × List UInt8)), NZ (opnF attrP g r k l) := by
  induction g with
  | zero => exact fun r k l => NZ.err (by decide)
  | succ g ih =>
    intro r k l
    rw [opnF]
    split
    · exact NZ.ok _
    split
    · exact NZ.ok _
    split
    · exact NZ.err (by decide)
    split
    · rename_i h
      exact NZ.err (nz_attrP _ _ h)
    · exact ih _ _ _
theorem nz_opnP (r : List UInt8) : NZ (opnP r) := by
  unfold opnP
  split
  · exact NZ.err (by decide)
  split
  · rename_i h
    exact NZ.err (nz_opnF _ _ _ _ _ h)
  · exact NZ.ok _
theorem nz_cloP (r : List UInt8) : NZ (cloP r) := by
  unfold cloP
  split
  · exact NZ.err (by decide)
  split
  · exact NZ.ok _
  · exact NZ.err (by decide)
theorem dat_eq (r : List UInt8) : ∃ n, n = (if Lib.index r [60] < 0 then r.length else (Lib.index r [60]).toNat) ∧ datP r = if 0 ≤ Lib.index (r.take n) [93, 93, 62] then .error 11 else match rsT false (r.take n) with
    | .error _ => .error 13
    | .ok s => .ok (⟨3, [], [], false, s⟩, n) := ⟨_, rfl, rfl⟩
theorem nz_datP (r : List UInt8) : NZ (datP r) := by
  obtain ⟨n, _, h⟩ := dat_eq r
  rw [h]
  split
  · exact NZ.err (by decide)
  split
  · exact NZ.err (by decide)
  · exact NZ.ok _
theorem nz_up {n : Nat} {x : Except Nat (Tk × Nat)} (h : NZ x) : NZ (upT n x) := by
  cases x with
  | error e => exact h
  | ok q => exact NZ.ok _
theorem nz_tokA (r : List UInt8) : NZ (tokA r) := by
  unfold tokA
  split
  · exact NZ.ok _
  cases h1 : Lib.hasPrefix r [60, 33, 91, 67, 68, 65, 84, 65, 91] with
  | true =>
    rw [tok_cd h1]
    split
    · exact NZ.err (by decide)
    · exact NZ.ok _
  | false =>
    cases h2 : Lib.hasPrefix r [60, 33, 68, 79, 67, 84, 89, 80, 69] with
    | true => rw [tok_dt h1 h2]; exact NZ.err (by decide)
    | false =>
      cases h3 : Lib.hasPrefix r [60, 47] with
      | true => rw [tok_cl h1 h2 h3]; exact nz_up (nz_cloP _)
      | false =>
        cases h4 : Lib.hasPrefix r [60] with
        | true => rw [tok_op h1 h2 h3 h4]; exact nz_up (nz_opnP _)
        | false => rw [tok_da h1 h2 h3 h4]; exact nz_datP _

/-- A token that is not the end takes a byte. -/
theorem tok_some {r : List UInt8} {t : Tk} {n : Nat} (h : tokA r = .ok (t, n)) : (r = [] ∧ t.kind = 0 ∧ n = 0) ∨ (t.kind ≠ 0 ∧ 1 ≤ n) := by
  unfold tokA at h
  split at h
  · rename_i h0
    cases h
    exact .inl ⟨h0, rfl, rfl⟩
  rename_i h0
  refine .inr ?_
  cases h1 : Lib.hasPrefix r [60, 33, 91, 67, 68, 65, 84, 65, 91] with
  | true =>
    rw [tok_cd h1] at h
    split at h
    · cases h
    · cases h
      exact ⟨by simp, by omega⟩
  | false =>
    cases h2 : Lib.hasPrefix r [60, 33, 68, 79, 67, 84, 89, 80, 69] with
    | true => rw [tok_dt h1 h2] at h; cases h
    | false =>
      cases h3 : Lib.hasPrefix r [60, 47] with
      | true =>
        rw [tok_cl h1 h2 h3] at h
        cases hz : cloP (r.drop 2) with
        | error e => rw [hz] at h; cases h
        | ok q =>
          rw [hz] at h
          obtain ⟨t', m⟩ := q
          cases h
          unfold cloP at hz
          split at hz
          · cases hz
          split at hz
          · cases hz
            exact ⟨by simp, by omega⟩
          · cases hz
      | false =>
        cases h4 : Lib.hasPrefix r [60] with
        | true =>
          rw [tok_op h1 h2 h3 h4] at h
          cases hz : opnP (r.drop 1) with
          | error e => rw [hz] at h; cases h
          | ok q =>
            rw [hz] at h
            obtain ⟨t', m⟩ := q
            cases h
            unfold opnP at hz
            split at hz
            · cases hz
            split at hz
            · cases hz
            · cases hz
              exact ⟨by simp, by omega⟩
        | false =>
          rw [tok_da h1 h2 h3 h4] at h
          obtain ⟨n', hn', hd⟩ := dat_eq r
          rw [hd] at h
          split at h
          · cases h
          split at h
          · cases h
          · cases h
            rw [hn']
            clear hn' hd
            refine ⟨by simp, ?_⟩
            split
            · cases r with
              | nil => exact absurd rfl h0
              | cons x y => simp
            · rename_i hi
              obtain ⟨i, hi'⟩ : ∃ i : Nat, Lib.index r [60] = i := ⟨(Lib.index r [60]).toNat, by omega⟩
              rw [hi', Int.toNat_natCast]
              cases i with
              | succ i => omega
              | zero =>
                have hd := drop_at hi'
                rw [List.drop_zero] at hd
                rw [hd] at h4
                simp [Lib.hasPrefix] at h4
theorem skp_le (g : Nat) : ∀ (r : List UInt8) (a k : Nat), skpF insP g r a = (k, true) → a ≤ k := by
  induction g with
  | zero =>
    intro r a k h
    rw [skpF] at h
    cases h
    omega
  | succ g ih =>
    intro r a k h
    rw [skpF] at h
    split at h
    · split at h
      · cases h
      · have := ih _ _ _ h
        omega
    split at h
    · split at h
      · cases h
      · have := ih _ _ _ h
        omega
    · cases h
      omega
/-- Each token stands behind the one ahead, and takes a byte, unless it is the end. -/
theorem nxt_goes {xs : List UInt8} {at_ : Int} {t : Tk} {k : Nat} (h : nxt insP opnP cloP xs at_ = (t, k, 0)) : at_ ≤ k ∧ ((at_ < k ∧ t.kind ≠ 0) ∨ (t.kind = 0 ∧ xs.length ≤ k)) := by
  by_cases ho : at_ < 0 ∨ (xs.length : Int) < at_
  · rw [nxt_out ho] at h
    cases h
  obtain ⟨a, rfl⟩ : ∃ a : Nat, at_ = (a : Int) := ⟨at_.toNat, by omega⟩
  rw [nxt_in (by omega)] at h
  unfold nxtA at h
  rcases hq : skpF insP (xs.length + 1) (xs.drop a) a with ⟨k', _ | _⟩
  · rw [hq] at h
    cases h
  · rw [hq] at h
    dsimp only at h
    have hle := skp_le _ _ _ _ hq
    cases hz : tokA (xs.drop k') with
    | error y =>
      rw [hz] at h
      simp only [Prod.mk.injEq] at h
      exact absurd h.2.2 (nz_tokA _ _ hz)
    | ok y =>
      obtain ⟨t', n⟩ := y
      rw [hz] at h
      simp only [Prod.mk.injEq] at h
      obtain ⟨rfl, rfl, _⟩ := h
      rcases tok_some hz with ⟨h1, h2, h3⟩ | ⟨h1, h2⟩
      · have := congrArg List.length h1
        rw [List.length_drop, List.length_nil] at this
        exact ⟨by omega, .inr ⟨h2, by omega⟩⟩
      · exact ⟨by omega, .inl ⟨by omega, h1⟩⟩
end Go.Proofs.YtgkoknckaajgmaaGreatDoor
