/- vdisk, the plain side of VdiskStays: what was synced stays. -/
import Derived.Test.YtcpldjaoacihlaaVc
namespace Go.Proofs.Ytcpldjaoacihlaa
set_option linter.unusedVariables false

/-- File "a" begins with b, which is synced; at most 2j + 1 files. -/
def SInv (b : List UInt8) (j : Nat) (s : DS) : Prop :=
  s.dead = false ∧ s.fuse = -1 ∧ s.Ok ∧ s.fs.length ≤ 2 * j + 1 ∧ ∃ f, getA [97] s.fs = some f ∧ (∃ r, f.data = b ++ r) ∧ f.sy = b.length

theorem stays_first (b : List UInt8) (h : b.length ≤ 300) : ((newS 10000).append [97] b).1 = 0 := by
  unfold DS.append
  rw [if_neg (by simp [DS.rdy, newS, namok]), if_neg (by simp [newS, total]; omega), if_neg (by simp [newS])]
def staysS (b : List UInt8) : DS := ⟨10000, -1, false, [([97], ⟨b, 0⟩)]⟩
theorem stays_second (b : List UInt8) (h : b.length ≤ 300) : ((newS 10000).append [97] b).2 = staysS b := by
  unfold DS.append
  rw [if_neg (by simp [DS.rdy, newS, namok]), if_neg (by simp [newS, total]; omega), if_neg (by simp [newS])]
  simp [newS, DS.burn, staysS, putA, delA, insA, fileA, getA, Fl.none]
theorem stays_third (b : List UInt8) : (staysS b).sync [97] = (0, ⟨10000, -1, false, [([97], ⟨b, b.length⟩)]⟩) := by
  simp [DS.sync, DS.change, DS.beg, DS.fnd, DS.rdy, staysS, DS.burn, putA, delA, insA, fileA, getA]
theorem stays_init (b : List UInt8) (h : b.length ≤ 300) : SInv b 0 ⟨10000, -1, false, [([97], ⟨b, b.length⟩)]⟩ :=
  ⟨rfl, rfl, ⟨by simp, by simp, by simp, by simp, by simp [Ris], by simp [total]; omega, by simp, by simp⟩, by simp, _, rfl, ⟨[], by simp⟩, rfl⟩

theorem stays_step {b : List UInt8} {j : Nat} {s : DS} (h : SInv b j s) (n x : List UInt8) : ∀ {i : Nat}, s.fs.length + 1 ≤ 2 * i + 1 → SInv b i (s.append n x).2 := by
  intro i hi
  obtain ⟨h1, h2, h3, h4, f, h5, ⟨r, h6⟩, h7⟩ := h
  have hok := h3.append n x
  have base : SInv b i s := ⟨h1, h2, h3, by omega, f, h5, ⟨r, h6⟩, h7⟩
  unfold DS.append at hok ⊢
  split at hok
  · rename_i hc
    rw [if_pos hc]
    exact base
  · rename_i hc
    rw [if_neg hc]
    split at hok
    · rename_i hc2
      rw [if_pos hc2]
      exact base
    · rename_i hc2
      rw [if_neg hc2, if_neg (by rw [h2]; decide)] at *
      have hb : s.burn = s := by unfold DS.burn; rw [if_neg (by rw [h2]; decide), if_pos h2]
      simp only [hb] at hok ⊢
      refine ⟨h1, h2, hok, Nat.le_trans (length_putA _ _ _) (by omega), ?_⟩
      by_cases hn : n = [97]
      · subst hn
        refine ⟨_, getA_putA_same _ _ _, ⟨r ++ x, ?_⟩, ?_⟩
        · simp [fileA, h5, h6]
        · simp [fileA, h5, h7]
      · exact ⟨f, by rw [getA_putA_other _ h3.ris (fun e => hn e.symm)]; exact h5, ⟨r, h6⟩, h7⟩

theorem get_crash (keeps : List Int) (n : List UInt8) : ∀ (l : Fs) (k : Nat), ∃ j, getA n (crashFs keeps k l) = (getA n l).map (crashF keeps j)
  | [], k => ⟨0, rfl⟩
  | p :: r, k => by
    by_cases hp : p.1 = n
    · exact ⟨k, by simp [getA, crashFs, hp]⟩
    · obtain ⟨j, hj⟩ := get_crash keeps n r (k + 1)
      refine ⟨j, ?_⟩
      simpa [getA, crashFs, hp] using hj

theorem stays_end {b : List UInt8} {j : Nat} {s : DS} (h : SInv b j s) (keeps : List Int) : ∃ r, (s.crash keeps).read [97] = (b ++ r, 0) := by
  obtain ⟨h1, h2, h3, h4, f, h5, ⟨r, h6⟩, h7⟩ := h
  obtain ⟨i, hi⟩ := get_crash keeps [97] s.fs 0
  rw [h5] at hi
  have hg : getA [97] (s.crash keeps).fs = some (crashF keeps i f) := hi
  refine ⟨r.take (keepN keeps i f - b.length), ?_⟩
  unfold DS.read
  have hf : (s.crash keeps).fnd [97] true = 0 := by
    unfold DS.fnd DS.rdy
    rw [hg]
    simp [DS.crash]
  rw [if_pos hf]
  have hk : b.length ≤ keepN keeps i f := by unfold keepN; omega
  simp only [fileA, hg, Option.getD_some, crashF, h6, Prod.mk.injEq, and_true]
  rw [List.take_append, List.take_of_length_le hk]
end Go.Proofs.Ytcpldjaoacihlaa
