/- vdisk: the small functions of the program's disk. -/
import Derived.Test.YtfljpnfjndjhpaaVd
import Derived.Deep.RegionHeld3
import Derived.StillTailTactics
namespace Go.Proofs.Ytfljpnfjndjhpaa
open Go.RowKit
set_option linter.unusedVariables false

def possB (n : Int) : Bool := decide (0 ≤ n) && decide (n ≤ 4194304)

theorem possible_c (w : World) (n : Int) : Calls Try.prog 15 #[.int .i64 n] w fun e w' => e = .returned (.bool (possB n)) ∧ w = w' := by
  by_cases h0 : 0 ≤ n
  · by_cases h1 : n ≤ 4194304
    · have HX := Lib.hid (show possB n = true from by simp [possB, h0, h1])
      have t : decide (n ≤ 4194304) = true := by simpa using h1
      go_enter Try.func15, Try.ntmps15
      go_wp2
      go_ret
      exact ⟨by rw [HX.out]; rfl, rfl⟩
    · have HX := Lib.hid (show possB n = false from by simp [possB, h0, h1])
      have t : decide (n ≤ 4194304) = false := by simp; omega
      clear h1
      go_enter Try.func15, Try.ntmps15
      go_wp2
      go_ret
      exact ⟨by rw [HX.out]; rfl, rfl⟩
  · have HX := Lib.hid (show possB n = false from by simp [possB, h0])
    have h2 : n < 0 := by omega
    clear h0
    go_enter Try.func15, Try.ntmps15
    go_wp2
    go_ret
    exact ⟨by rw [HX.out]; rfl, rfl⟩

theorem nameable_c (w : World) (s : ByteArray) (hs : s.size ≤ 9223372036854775807) : Calls Try.prog 38 #[.string s] w fun e w' => e = .returned (.bool (namok s.data.toList)) ∧ w = w' := by
  have e : s.data.toList.length = s.size := by simp
  by_cases h0 : 1 ≤ s.size
  · by_cases h1 : s.size ≤ 64
    · have HX := Lib.hid (show namok s.data.toList = true from by unfold namok; rw [e]; simp [h0, h1])
      have t : decide ((s.size : Int) ≤ 64) = true := by simp; omega
      clear e
      go_enter Try.func38, Try.ntmps38
      go_wp2
      go_ret
      exact ⟨by rw [HX.out]; rfl, rfl⟩
    · have HX := Lib.hid (show namok s.data.toList = false from by unfold namok; rw [e]; simp [h1])
      have t : decide ((s.size : Int) ≤ 64) = false := by simp; omega
      clear h1 e
      go_enter Try.func38, Try.ntmps38
      go_wp2
      go_ret
      exact ⟨by rw [HX.out]; rfl, rfl⟩
  · have HX := Lib.hid (show namok s.data.toList = false from by unfold namok; rw [e]; simp [h0])
    have h2 : s.size < 1 := by omega
    clear h0 e
    go_enter Try.func38, Try.ntmps38
    go_wp2
    go_ret
    exact ⟨by rw [HX.out]; rfl, rfl⟩

section
variable {w : World} {pb mb : Nat} {s : DS} {E : Ents}

theorem made_c (h : Core w pb mb s E) : Calls Try.prog 27 #[.pointer (some ⟨pb, 0, none⟩)] w fun e w' => e = .returned (.bool true) ∧ w = w' := by
  obtain ⟨c0, c1, c2, c3, c4, cf⟩ := cells5 h.blk
  clear h c0 c1 c3 c4 cf
  have hmn := fun (w : World) (r : Option Nat) => run_neq_map_nil (P := Try.prog) w 43 _ _ r Try.underlying43
  go_enter Try.func27, Try.ntmps27
  go_wp2
  go_ret
  exact ⟨rfl, rfl⟩

theorem ready_c (h : Core w pb mb s E) (v : Bool) : Calls Try.prog 37 #[.pointer (some ⟨pb, 0, none⟩), .bool v] w fun e w' => e = .returned (.int .i64 (s.rdy v)) ∧ w = w' := by
  obtain ⟨c0, c1, c2, c3, c4, cf⟩ := cells5 h.blk
  have HC := Lib.hid h
  clear h c0 c1 c2 c3 cf
  cases v with
  | false =>
    go_enter Try.func37, Try.ntmps37
    go_wp2_with (go_at_call 27; refine (made_c HC.out).mono ?_; rintro e w' ⟨rfl, rfl⟩)
    go_ret
    exact ⟨rfl, rfl⟩
  | true =>
    cases hd : s.dead with
    | false =>
      have HX := Lib.hid (show s.rdy true = 0 from by simp [DS.rdy, hd])
      rw [hd] at c4
      clear hd
      go_enter Try.func37, Try.ntmps37
      go_wp2_with (go_at_call 27; refine (made_c HC.out).mono ?_; rintro e w' ⟨rfl, rfl⟩)
      go_ret
      exact ⟨by rw [HX.out]; rfl, rfl⟩
    | true =>
      have HX := Lib.hid (show s.rdy true = 70 from by simp [DS.rdy, hd])
      rw [hd] at c4
      clear hd
      go_enter Try.func37, Try.ntmps37
      go_wp2_with (go_at_call 27; refine (made_c HC.out).mono ?_; rintro e w' ⟨rfl, rfl⟩)
      go_ret
      exact ⟨by rw [HX.out]; rfl, rfl⟩

/-- Behind a store into a field of the struct. -/
theorem Core.mk' {w' : World} (h : Core w pb mb s E) (s' : DS) (hb : w'.heap[pb]? = some (.cells #[.int .i64 s'.room, .int .i64 (total s'.fs), .map (some mb), .int .i64 s'.fuse, .bool s'.dead] 45 (0, 0))) (hm : w'.heap[mb]? = w.heap[mb]?) (hf : s'.fs = s.fs) (ho : s'.Ok) :
    Core w' pb mb s' E := ⟨hb, h.map.keep hm, hf.trans h.fs, h.shape, ho⟩

theorem stops_c (h : Core w pb mb s E) (hd : s.dead = false) : Calls Try.prog 39 #[.pointer (some ⟨pb, 0, none⟩)] w fun e w' => e = .returned (.bool (decide (s.fuse = 0))) ∧ Core w' pb mb s.burn E ∧ Chg [pb] w w' := by
  obtain ⟨c0, c1, c2, c3, c4, cf⟩ := cells5 h.blk
  have cf3 := cf 3
  have cf4 := cf 4
  rw [hd] at c4
  have HC := Lib.hid h
  have f0 := h.ok.fuse0
  have f1 := h.ok.fuse1
  have hne := h.ne
  have HB := Lib.hid (h.ok.burn)
  clear h c0 c1 c2 cf
  by_cases h0 : s.fuse = 0
  · have HX := Lib.hid (show s.burn = { s with dead := true } from by simp [DS.burn, h0])
    have HF := Lib.hid h0
    have t : (s.fuse == 0) = true := by simp [h0]
    clear h0 hd
    go_enter Try.func39, Try.ntmps39
    go_wp2
    go_ret
    refine ⟨by rw [HF.out]; rfl, ?_, (Chg.refl _ _).set' _ _ _ (by simp)⟩
    rw [HX.out]
    refine HC.out.mk' _ ?_ (Below.heap_setCell _ _ _ _ hne.symm) rfl (by have := HB.out; rwa [HX.out] at this)
    rw [heap_mod HC.out.blk]
    rfl
  · by_cases h1 : s.fuse = -1
    · have HX := Lib.hid (show s.burn = s from by simp [DS.burn, h1])
      have HF := Lib.hid h1
      have t : (s.fuse == 0) = false := by simp [h1]
      have t2 : (s.fuse != -1) = false := by simp [h1]
      clear h0 h1 hd
      go_enter Try.func39, Try.ntmps39
      go_wp2
      go_ret
      refine ⟨by rw [HF.out]; rfl, ?_, Chg.refl _ _⟩
      rw [HX.out]
      exact HC.out
    · have HX := Lib.hid (show s.burn = { s with fuse := s.fuse - 1 } from by simp [DS.burn, h0, h1])
      have HF := Lib.hid h0
      have t : (s.fuse == 0) = false := by simp [h0]
      have t2 : (s.fuse != -1) = true := by simp [h1]
      have f2 : 1 ≤ s.fuse := by omega
      have f3 : 0 ≤ s.fuse - 1 := by omega
      clear h0 h1 hd
      go_enter Try.func39, Try.ntmps39
      go_wp2
      go_ret
      refine ⟨by simp [HF.out], ?_, (Chg.refl _ _).set' _ _ _ (by simp)⟩
      rw [HX.out]
      refine HC.out.mk' _ ?_ (Below.heap_setCell _ _ _ _ hne.symm) rfl (by have := HB.out; rwa [HX.out] at this)
      rw [heap_mod HC.out.blk]
      rfl

end
end Go.Proofs.Ytfljpnfjndjhpaa
