/- chars.Text. -/
import Derived.Test.YtncloiimbclklaaCa
import Derived.Test.YtncloiimbclklaaNm
namespace Go.Proofs.Ytncloiimbclklaa
open Go.RowKit
set_option linter.unusedVariables false

theorem u64w (n : Int) : IntKind.u64.wrap n = n % 18446744073709551616 := by simp [IntKind.wrap, IntKind.signed, IntKind.bits]

theorem heap_modc {w : World} {b o : Nat} {cs : Array Value} {u : Value} {T : TypeId} (h : w.heap[b]? = some (.cells cs T (0, 0))) :
    (w.setCell ⟨b, o, none⟩ u).heap[b]? = some (.cells (cs.setIfInBounds o u) T (0, 0)) := by
  have hlt := lt_of_block h
  have h' : w.heap[b] = .cells cs T (0, 0) := by simpa [Array.getElem?_eq_getElem hlt] using h
  show (w.heap.modify b _)[b]? = _
  rw [Array.getElem?_eq_getElem (by simpa using hlt), Array.getElem_modify_self, h']
  rfl

/-- The twenty cells: from a on the digits. -/
def Dig (w : World) (B a : Nat) (dl : List UInt8) : Prop := ∃ cs, w.heap[B]? = some (.cells cs 81 (0, 0)) ∧ cs.size = 20 ∧ cs.toList.drop a = bcells dl

theorem Dig.set {w : World} {B a : Nat} {dl : List UInt8} (h : Dig w B (a + 1) dl) (ha : a < 20) (x : UInt8) : Dig (w.setCell ⟨B, a, none⟩ (.int .u8 (x.toNat : Int))) B a (x :: dl) := by
  obtain ⟨cs, h1, h2, h3⟩ := h
  refine ⟨_, heap_modc h1, by simpa using h2, ?_⟩
  rw [Array.toList_setIfInBounds, List.drop_eq_getElem_cons (by simp; omega), List.drop_set_of_lt (by omega), h3]
  simp [bcells]

theorem Dig.cell {w : World} {B a : Nat} {dl : List UInt8} (h : Dig w B a dl) (i : Nat) (hi : i < 20) : (∃ u, w.cell? ⟨B, i, none⟩ = some u) ∧ w.frozen? ⟨B, i, none⟩ = false := by
  obtain ⟨cs, h1, h2, h3⟩ := h
  refine ⟨⟨cs[i]'(by omega), ?_⟩, ?_⟩
  · simp [World.cell?, h1]
  · simp [World.frozen?, h1]

theorem Dig.rd {w : World} {B a : Nat} {dl : List UInt8} (h : Dig w B a dl) (ha : a ≤ 20) : Rd w (.slice (some ⟨B, a, none⟩) (20 - a) (20 - a)) dl := by
  obtain ⟨cs, h1, h2, h3⟩ := h
  have hl : dl.length = 20 - a := by
    have := congrArg List.length h3
    simp [bcells_length, h2] at this
    omega
  refine ⟨_, 20 - a, by rw [hl], by omega, by unfold maxLen; omega, by simp, fun hp => ⟨B, a, rfl, fun i hi => ?_⟩⟩
  have hc : cs[a + i]? = some (.int .u8 (dl[i].toNat : Int)) := by
    rw [← Array.getElem?_toList, ← List.getElem?_drop, h3]
    simp [bcells, hi]
  simp [World.cell?, h1, hc]

/-- digits[k:]. -/
theorem cut20 (W : World) (B k : Nat) (hk : k < 20) : (Instr.sliceAt 81 (.pointer (some ⟨B, 0, none⟩)) (some (.int .i64 (k : Int))) none none).run Try.prog W = .ok (.slice (some ⟨B, k, none⟩) (20 - k) (20 - k)) W := by
  have hal : Try.prog.arrayLen 81 = 20 := by kernel_rfl
  have hel : Try.prog.elem 81 = 5 := by kernel_rfl
  rw [run_sliceAt_array_l W 81 ⟨B, 0, none⟩ (by rw [hal, hel]; exact Try.underlying81) .i64 k (by omega) (by rw [hal]; omega), hel, Try.sizeOf5 W]
  simp only [Result.andThen, slicedAt, hal, Int.toNat_natCast, Nat.mul_one, Addr.add_lit, Nat.zero_add]
  rw [if_neg (by omega)]

/-- One digit more. -/
theorem dig_step {u N a : Nat} {dl : List UInt8} (hd : ds u ++ dl = ds N) (hu : u < 10 ^ (a - 1)) (ha : 1 ≤ a) (h20 : a ≤ 20) (h10 : ¬ u < 10) : ds (u / 10) ++ (UInt8.ofNat (48 + u % 10) :: dl) = ds N ∧ u / 10 < 10 ^ (a - 1 - 1) ∧ 2 ≤ a := by
  have h2 : 2 ≤ a := by
    rcases Nat.lt_or_ge a 2 with h | h
    · obtain rfl : a = 1 := by omega
      simp at hu
      omega
    · exact h
  obtain ⟨k, rfl⟩ : ∃ k, a = k + 2 := ⟨a - 2, by omega⟩
  have hk : (10 : Nat) ^ (k + 1) ≤ 10 ^ 19 := Nat.pow_le_pow_right (by omega) (by omega)
  have hu' : u < 10 ^ (k + 1) := hu
  refine ⟨?_, ?_, h2⟩
  · rw [← hd, ds_great u h10 (by omega), List.append_assoc]
    rfl
  · show u / 10 < 10 ^ k
    rw [Nat.pow_succ] at hu'
    omega

set_option maxRecDepth 100000 in
set_option maxHeartbeats 2000000 in
theorem text_c (w : World) (n : Int) (hlo : -9223372036854775808 ≤ n) (hhi : n ≤ 9223372036854775807) :
    Calls Try.prog 52 #[.int .i64 n] w fun e w' => e = .returned (.string ⟨(txt n).toArray⟩) ∧ Below w.heap.size w w' := by
  obtain ⟨N, hN⟩ : ∃ N : Nat, N = n.natAbs := ⟨_, rfl⟩
  have hN19 : N < 10 ^ 19 := by omega
  have HN := Lib.hid hN19
  clear hN19
  by_cases hneg : n < 0
  · have HW := Lib.hid (show IntKind.u64.wrap (-IntKind.u64.wrap n) = ((N : Nat) : Int) from by rw [u64w, u64w]; omega)
    have HT := Lib.hid (show txt n = 45 :: ds N from by unfold txt; rw [if_pos hneg, hN, show (-n).toNat = n.natAbs from by omega])
    clear hN hlo hhi
    go_enter Try.func52, Try.ntmps52
    go_wp2_with fail
    rw [HW.out]
    go_loopw [4, 5] (fun s i wr => ∃ (a u : Nat) (dl : List UInt8), i = .int .i64 a ∧ s = .int .u64 u ∧ 1 ≤ a ∧ a ≤ 20 ∧ (a = 20 ∨ 0 < u) ∧ u < 10 ^ (a - 1) ∧ ds u ++ dl = ds N ∧ Dig wr w.heap.size a dl ∧ Below w.heap.size w wr) (fun s i _ => (intOf i).toNat)
    case atStart => exact ⟨20, N, [], rfl, rfl, by omega, by omega, .inl rfl, HN.out, by simp, ⟨_, heap_alloc_new w _, rfl, rfl⟩, (Below.refl _ _).alloc (Nat.le_refl _) _⟩
    case round =>
      obtain ⟨a, u, dl, rfl, rfl, ha1, ha2, hau, hu, hd, hdig, hb⟩ := hrel
      have HU := Lib.hid hu
      have HD := Lib.hid hd
      have HG := Lib.hid hdig
      have HB := Lib.hid hb
      have hu64 : u < 18446744073709551616 := by
        have : 10 ^ (a - 1) ≤ 10 ^ 19 := Nat.pow_le_pow_right (by omega) (by omega)
        omega
      obtain ⟨k, rfl⟩ : ∃ k, a = k + 1 := ⟨a - 1, by omega⟩
      obtain ⟨⟨c0, hc0⟩, hf0⟩ := hdig.cell k (by omega)
      have hg2 := HG.out.set (by omega) (UInt8.ofNat (48 + u % 10))
      rw [show ((UInt8.ofNat (48 + u % 10)).toNat : Int) = 48 + (u : Int) % 10 from by simp; omega] at hg2
      have HG2 := Lib.hid hg2
      clear hg2 hu hd hb
      by_cases h10 : u < 10
      · have HS := Lib.hid (show UInt8.ofNat (48 + u % 10) :: dl = ds N from by rw [← HD.out, ds_small u h10, Nat.mod_eq_of_lt h10]; rfl)
        have hk1 : 1 ≤ k := by
          rcases Nat.eq_zero_or_pos k with h | h
          · subst h
            have := HU.out
            simp at this
            omega
          · exact h
        obtain ⟨j, rfl⟩ : ∃ j, k = j + 1 := ⟨k - 1, by omega⟩
        obtain ⟨⟨c1, hc1⟩, hf1⟩ := hdig.cell j (by omega)
        have hg3 := HG2.out.set (by omega) 45
        rw [show (((45 : UInt8).toNat : Nat) : Int) = 45 from rfl] at hg3
        have hcv := (hg3.rd (by omega)).conv (P := Try.prog) 83 5 9 Try.underlying83 Try.underlying5 Try.underlying9
        rw [HS.out] at hcv
        have hsl := fun W => cut20 W w.heap.size j (by omega)
        clear hdig hg3
        go_wp2
        go_ret
        exact ⟨by rw [HT.out]; rfl, (HB.out.setCell (Nat.le_refl _) _).setCell (Nat.le_refl _) _⟩
      · have HS := Lib.hid (dig_step HD.out HU.out ha1 ha2 h10)
        clear hdig
        go_wp2_with fail
        go_roundw
        case rel => exact ⟨k, u / 10, _, by go_num, by go_num, by have := HS.out.2.2; omega, by omega, by omega, HS.out.2.1, HS.out.1, HG2.out, HB.out.setCell (Nat.le_refl _) _⟩
        case measure => simp [intOf]
  · have HW := Lib.hid (show n = ((N : Nat) : Int) from by omega)
    have HT := Lib.hid (show txt n = ds N from by unfold txt; rw [if_neg hneg, hN, show n.toNat = n.natAbs from by omega])
    clear hN hlo
    go_enter Try.func52, Try.ntmps52
    go_wp2_with fail
    go_loopw [4, 5] (fun s i wr => ∃ (a u : Nat) (dl : List UInt8), i = .int .i64 a ∧ s = .int .u64 u ∧ 1 ≤ a ∧ a ≤ 20 ∧ (a = 20 ∨ 0 < u) ∧ u < 10 ^ (a - 1) ∧ ds u ++ dl = ds N ∧ Dig wr w.heap.size a dl ∧ Below w.heap.size w wr) (fun s i _ => (intOf i).toNat)
    case atStart => exact ⟨20, N, [], rfl, by rw [HW.out], by omega, by omega, .inl rfl, HN.out, by simp, ⟨_, heap_alloc_new w _, rfl, rfl⟩, (Below.refl _ _).alloc (Nat.le_refl _) _⟩
    case round =>
      obtain ⟨a, u, dl, rfl, rfl, ha1, ha2, hau, hu, hd, hdig, hb⟩ := hrel
      have HU := Lib.hid hu
      have HD := Lib.hid hd
      have HG := Lib.hid hdig
      have HB := Lib.hid hb
      have hu64 : u < 18446744073709551616 := by
        have : 10 ^ (a - 1) ≤ 10 ^ 19 := Nat.pow_le_pow_right (by omega) (by omega)
        omega
      obtain ⟨k, rfl⟩ : ∃ k, a = k + 1 := ⟨a - 1, by omega⟩
      obtain ⟨⟨c0, hc0⟩, hf0⟩ := hdig.cell k (by omega)
      have hg2 := HG.out.set (by omega) (UInt8.ofNat (48 + u % 10))
      rw [show ((UInt8.ofNat (48 + u % 10)).toNat : Int) = 48 + (u : Int) % 10 from by simp; omega] at hg2
      have HG2 := Lib.hid hg2
      clear hg2 hu hd hb
      by_cases h10 : u < 10
      · have HS := Lib.hid (show UInt8.ofNat (48 + u % 10) :: dl = ds N from by rw [← HD.out, ds_small u h10, Nat.mod_eq_of_lt h10]; rfl)
        have hk1 : 1 ≤ k := by
          rcases Nat.eq_zero_or_pos k with h | h
          · subst h
            have := HU.out
            simp at this
            omega
          · exact h
        have hcv := (HG2.out.rd (by omega)).conv (P := Try.prog) 83 5 9 Try.underlying83 Try.underlying5 Try.underlying9
        rw [HS.out] at hcv
        have hsl := fun W => cut20 W w.heap.size k (by omega)
        clear hdig
        go_wp2
        go_ret
        exact ⟨by rw [HT.out]; rfl, HB.out.setCell (Nat.le_refl _) _⟩
      · have HS := Lib.hid (dig_step HD.out HU.out ha1 ha2 h10)
        clear hdig
        go_wp2_with fail
        go_roundw
        case rel => exact ⟨k, u / 10, _, by go_num, by go_num, by have := HS.out.2.2; omega, by omega, by omega, HS.out.2.1, HS.out.1, HG2.out, HB.out.setCell (Nat.le_refl _) _⟩
        case measure => simp [intOf]
end Go.Proofs.Ytncloiimbclklaa
