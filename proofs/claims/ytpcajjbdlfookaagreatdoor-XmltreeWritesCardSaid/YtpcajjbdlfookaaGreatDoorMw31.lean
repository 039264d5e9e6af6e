/- The plain side of decimal numbers. -/
import Derived.Laws.BitsAllLaws
import Derived.Test.YtpcajjbdlfookaaGreatDoorMw05
namespace Go.Proofs.YtpcajjbdlfookaaGreatDoor

/-- The digits of a number, by fuel. -/
def dg : Nat → Nat → List UInt8
  | 0, u => [UInt8.ofNat (48 + u % 10)]
  | f + 1, u => if u < 10 then [UInt8.ofNat (48 + u)] else dg f (u / 10) ++ [UInt8.ofNat (48 + u % 10)]

theorem dg_small (f u : Nat) (h : u < 10) : dg f u = [UInt8.ofNat (48 + u)] := by
  cases f with
  | zero => simp [dg, Nat.mod_eq_of_lt h]
  | succ f => simp [dg, h]
theorem dg_great (f u : Nat) (h : ¬ u < 10) : dg (f + 1) u = dg f (u / 10) ++ [UInt8.ofNat (48 + u % 10)] := by simp [dg, h]
theorem dg_fuel (f : Nat) : ∀ (g u : Nat), u < 10 ^ (f + 1) → f ≤ g → dg f u = dg g u := by
  induction f with
  | zero => intro g u h _; rw [dg_small 0 u (by omega), dg_small g u (by omega)]
  | succ f ih =>
    intro g u h hg
    by_cases hu : u < 10
    · rw [dg_small _ _ hu, dg_small _ _ hu]
    · obtain ⟨k, rfl⟩ : ∃ k, g = k + 1 := ⟨g - 1, by omega⟩
      rw [dg_great _ _ hu, dg_great _ _ hu, ih k (u / 10) (by rw [Nat.pow_succ] at h; omega) (by omega)]

/-- The digits. -/
def ds (u : Nat) : List UInt8 := dg 20 u
theorem ds_small (u : Nat) (h : u < 10) : ds u = [UInt8.ofNat (48 + u)] := dg_small _ _ h
theorem ds_great (u : Nat) (h : ¬ u < 10) (hu : u < 100000000000000000000) : ds u = ds (u / 10) ++ [UInt8.ofNat (48 + u % 10)] := by
  unfold ds
  rw [dg_great 19 u h, dg_fuel 19 20 (u / 10) (by omega) (by omega)]

/-- The text of a number. -/
def txt (n : Int) : List UInt8 := if n < 0 then 45 :: ds (-n).toNat else ds n.toNat

theorem txt_pos (n : Int) (h : 10 ≤ n) (hn : n ≤ 9223372036854775807) : txt n = txt (n / 10) ++ txt (n % 10) := by
  unfold txt
  rw [if_neg (by omega), if_neg (by omega), if_neg (by omega), ds_great _ (by omega) (by omega), ds_small ((n % 10).toNat) (by omega)]
  rw [show (n / 10).toNat = n.toNat / 10 from by omega, show (n % 10).toNat = n.toNat % 10 from by omega]
theorem txt_neg (n : Int) (h : n ≤ -10) (hn : -9223372036854775808 ≤ n) : txt n = txt (n.tdiv 10) ++ txt (-(n.tmod 10)) := by
  have e1 : n.tdiv 10 = -((-n) / 10) := by
    rw [← Int.neg_neg n, Int.neg_tdiv, Int.neg_neg, Int.tdiv_eq_ediv_of_nonneg (by omega)]
  have e2 : n.tmod 10 = -((-n) % 10) := by
    rw [← Int.neg_neg n, Int.neg_tmod, Int.neg_neg, Int.tmod_eq_emod_of_nonneg (by omega)]
  rw [e1, e2]
  unfold txt
  rw [if_pos (by omega), if_pos (by omega), if_neg (by omega), ds_great _ (by omega) (by omega), ds_small _ (by omega : (- -(-n % 10)).toNat < 10)]
  rw [show (- -(-n / 10)).toNat = (-n).toNat / 10 from by omega, show (- -(-n % 10)).toNat = (-n).toNat % 10 from by omega]
  rfl
theorem txt_minus (n : Int) (h : n < 0) (h' : -10 < n) : txt n = 45 :: txt (-n) := by
  unfold txt
  rw [if_pos h, if_neg (by omega)]
theorem txt_digit (n : Int) (h : 0 ≤ n) (h' : n < 10) : txt n = [UInt8.ofNat (48 + n.toNat)] := by
  unfold txt
  rw [if_neg (by omega), ds_small _ (by omega)]

/-- The value of digits. -/
def val : Nat → List UInt8 → Nat
  | a, [] => a
  | a, x :: r => val (10 * a + (x.toNat - 48)) r

theorem val_append (a : Nat) (xs ys : List UInt8) : val a (xs ++ ys) = val (val a xs) ys := by
  induction xs generalizing a with
  | nil => rfl
  | cons x r ih => exact ih _

def isDig (x : UInt8) : Bool := decide (48 ≤ x.toNat) && decide (x.toNat ≤ 57)
/-- One or more digits, no zero in front. -/
def numeral (xs : List UInt8) : Bool := xs.all isDig && (xs == [48] || (!(xs.head? == some 48) && !xs.isEmpty))

theorem val_ge (a : Nat) (xs : List UInt8) : a ≤ val a xs := by
  induction xs generalizing a with
  | nil => exact Nat.le_refl _
  | cons x r ih =>
    have h1 : a ≤ 10 * a + (x.toNat - 48) := by omega
    exact Nat.le_trans h1 (ih (10 * a + (x.toNat - 48)))

theorem dg_all (f u : Nat) : (dg f u).all isDig = true := by
  induction f generalizing u with
  | zero => simp [dg, isDig]; omega
  | succ f ih =>
    unfold dg
    split
    · simp [isDig]; omega
    · simp [ih, isDig]; omega

theorem val_snoc (a k : Nat) (xs : List UInt8) (hk : k < 10) : val a (xs ++ [UInt8.ofNat (48 + k)]) = 10 * val a xs + k := by
  rw [val_append]
  have e : (UInt8.ofNat (48 + k)).toNat - 48 = k := by simp; omega
  show 10 * val a xs + ((UInt8.ofNat (48 + k)).toNat - 48) = _
  rw [e]
theorem val_one (k : Nat) (hk : k < 10) : val 0 [UInt8.ofNat (48 + k)] = k := by
  have := val_snoc 0 k [] hk
  rw [List.nil_append] at this
  rw [this]
  show 10 * 0 + k = k
  omega

theorem dg_val (f : Nat) : ∀ (u : Nat), u < 10 ^ (f + 1) → val 0 (dg f u) = u := by
  induction f with
  | zero =>
    intro u h
    rw [dg_small _ _ (by omega)]
    exact val_one u (by omega)
  | succ f ih =>
    intro u h
    by_cases hu : u < 10
    · rw [dg_small _ _ hu]
      exact val_one u hu
    · have h1 := ih (u / 10) (by rw [Nat.pow_succ] at h; omega)
      rw [dg_great _ _ hu, val_snoc _ _ _ (by omega), h1]
      omega

theorem dg_head (f u : Nat) (hu : 0 < u) (h : u < 10 ^ (f + 1)) : ∃ x r, dg f u = x :: r ∧ x ≠ 48 := by
  induction f generalizing u with
  | zero =>
    rw [dg_small _ _ (by omega)]
    refine ⟨_, _, rfl, fun e => ?_⟩
    have := congrArg UInt8.toNat e
    simp at this
    omega
  | succ f ih =>
    by_cases h10 : u < 10
    · rw [dg_small _ _ h10]
      refine ⟨_, _, rfl, fun e => ?_⟩
      have := congrArg UInt8.toNat e
      simp at this
      omega
    · obtain ⟨x, r, e, hx⟩ := ih (u / 10) (by omega) (by rw [Nat.pow_succ] at h; omega)
      rw [dg_great _ _ h10, e]
      exact ⟨x, _, rfl, hx⟩

theorem ds_numeral (u : Nat) (h : u < 100000000000000000000) : numeral (ds u) = true := by
  unfold numeral
  rw [show (ds u).all isDig = true from dg_all 20 u]
  rcases Nat.eq_zero_or_pos u with h0 | h0
  · subst h0; rfl
  · obtain ⟨x, r, e, hx⟩ := dg_head 20 u h0 (by omega)
    unfold ds
    rw [e]
    simp [hx]

theorem ds_val (u : Nat) (h : u < 100000000000000000000) : val 0 (ds u) = u := by
  have h' : u < 10 ^ (20 + 1) := by omega
  exact dg_val 20 u h'

/-- So many digits, so great. -/
theorem val_lt (xs : List UInt8) (h : xs.all isDig = true) : ∀ a, val a xs < (a + 1) * 10 ^ xs.length := by
  induction xs with
  | nil => intro a; show a < (a + 1) * 10 ^ 0; omega
  | cons x r ih =>
    intro a
    simp only [List.all_cons, Bool.and_eq_true] at h
    have hx : 48 ≤ x.toNat ∧ x.toNat ≤ 57 := by simpa [isDig] using h.1
    have h1 := ih h.2 (10 * a + (x.toNat - 48))
    have h2 : (10 * a + (x.toNat - 48) + 1) * 10 ^ r.length ≤ (10 * (a + 1)) * 10 ^ r.length := Nat.mul_le_mul_right _ (by omega)
    have e : (a + 1) * 10 ^ (x :: r).length = (10 * (a + 1)) * 10 ^ r.length := by
      rw [List.length_cons, Nat.pow_succ, Nat.mul_comm (10 ^ r.length) 10, ← Nat.mul_assoc, Nat.mul_comm (a + 1) 10]
    rw [e]
    exact Nat.lt_of_lt_of_le h1 h2

/-- A text of digits without a zero in front is its value's text: one digit more. -/
theorem dg_snoc (ys : List UInt8) (z : UInt8) (v : Nat) (hz : 48 ≤ z.toNat ∧ z.toNat ≤ 57) (hv : val 0 ys = v) (h1 : 1 ≤ v) (h2 : v < 10 ^ 19) (hd : dg 20 v = ys) : dg 20 (val 0 (ys ++ [z])) = ys ++ [z] := by
  have ez : UInt8.ofNat (48 + (z.toNat - 48)) = z := by
    rw [show 48 + (z.toNat - 48) = z.toNat from by omega]; simp
  have e0 : val 0 (ys ++ [z]) = 10 * v + (z.toNat - 48) := by
    rw [val_append, hv]
    rfl
  have hnot : ¬ 10 * v + (z.toNat - 48) < 10 := by omega
  have h3 : v < 10 ^ (19 + 1) := by omega
  rw [e0, dg_great 19 _ hnot, show (10 * v + (z.toNat - 48)) / 10 = v from by omega, show (10 * v + (z.toNat - 48)) % 10 = z.toNat - 48 from by omega, ez, dg_fuel 19 20 v h3 (by omega), hd]

theorem val_pos (x : UInt8) (r : List UInt8) (h : isDig x = true) (hx : x ≠ 48) : 1 ≤ val 0 (x :: r) := by
  have hxd : 48 ≤ x.toNat ∧ x.toNat ≤ 57 := by simpa [isDig] using h
  have h48 : x.toNat ≠ 48 := fun e => hx (UInt8.toNat_inj.1 e)
  have := val_ge (10 * 0 + (x.toNat - 48)) r
  have e : val 0 (x :: r) = val (10 * 0 + (x.toNat - 48)) r := rfl
  omega

theorem key (n : Nat) : ∀ (ys : List UInt8), ys.length = n → ys.all isDig = true → (ys = [48] ∨ ∃ x r, ys = x :: r ∧ x ≠ 48) → n ≤ 20 → dg 20 (val 0 ys) = ys := by
  induction n with
  | zero =>
    intro ys hy _ hs _
    rcases hs with rfl | ⟨x, r, rfl, _⟩ <;> simp at hy
  | succ n ih =>
    intro ys hy ha hs hn
    rcases List.eq_nil_or_concat ys with rfl | ⟨zs, z, rfl⟩
    · simp at hy
    · simp only [List.concat_eq_append] at *
      rw [List.all_append, Bool.and_eq_true] at ha
      have hz : 48 ≤ z.toNat ∧ z.toNat ≤ 57 := by simpa [isDig] using ha.2
      cases zs with
      | nil =>
        have ez : UInt8.ofNat (48 + (z.toNat - 48)) = z := by
          rw [show 48 + (z.toNat - 48) = z.toNat from by omega]; simp
        have e := val_one (z.toNat - 48) (by omega)
        rw [ez] at e
        rw [List.nil_append, e, dg_small _ _ (by omega), ez]
      | cons x r =>
        have hx : x ≠ 48 := by
          rcases hs with h | ⟨x', r', e, hx⟩
          · simp at h
          · simp at e; rw [e.1]; exact hx
        have hlen : (x :: r).length = n := by simpa using hy
        have hxd : isDig x = true := by have := ha.1; simp only [List.all_cons, Bool.and_eq_true] at this; exact this.1
        have hv := val_lt (x :: r) ha.1 0
        rw [hlen, Nat.zero_add, Nat.one_mul] at hv
        have hp : 10 ^ n ≤ 10 ^ 19 := Nat.pow_le_pow_right (by omega) (by omega)
        exact dg_snoc (x :: r) z _ hz rfl (val_pos x r hxd hx) (Nat.lt_of_lt_of_le hv hp) (ih (x :: r) hlen ha.1 (.inr ⟨x, r, rfl, hx⟩) (by omega))

theorem numeral_ds (xs : List UInt8) (h : numeral xs = true) (hl : xs.length ≤ 20) : ds (val 0 xs) = xs := by
  unfold numeral at h
  rw [Bool.and_eq_true, Bool.or_eq_true] at h
  refine key xs.length xs rfl h.1 ?_ hl
  rcases h.2 with h | h
  · exact .inl (by simpa using h)
  · cases xs with
    | nil => simp at h
    | cons x r => exact .inr ⟨x, r, rfl, by simpa using h⟩
end Go.Proofs.YtpcajjbdlfookaaGreatDoor

/- chars.Text. -/
namespace Go.Proofs.YtpcajjbdlfookaaGreatDoor
open Go.RowKit
set_option linter.unusedVariables false

theorem u64w (n : Int) : IntKind.u64.wrap n = n % 18446744073709551616 := by simp [IntKind.wrap, IntKind.signed, IntKind.bits]

theorem heap_modc {w : World} {b o : Nat} {cs : Array Value} {u : Value} {T : TypeId} (h : w.heap[b]? = some (.cells cs T (0, 0))) :
    (w.setCell ⟨b, o, none⟩ u).heap[b]? = some (.cells (cs.setIfInBounds o u) T (0, 0)) := by
  have hlt := lt_of_block h
  have h' : w.heap[b] = .cells cs T (0, 0) := by simpa [Array.getElem?_eq_getElem hlt] using h
  show (w.heap.modify b _)[b]? = _
  rw [Array.getElem?_eq_getElem (by simpa using hlt), Array.getElem_modify_self, h']
  rfl

/-- The twenty cells: from a on the digits. -/
def Dig (w : World) (B a : Nat) (dl : List UInt8) : Prop := ∃ cs, w.heap[B]? = some (.cells cs 143 (0, 0)) ∧ cs.size = 20 ∧ cs.toList.drop a = bcells dl

theorem Dig.set {w : World} {B a : Nat} {dl : List UInt8} (h : Dig w B (a + 1) dl) (ha : a < 20) (x : UInt8) : Dig (w.setCell ⟨B, a, none⟩ (.int .u8 (x.toNat : Int))) B a (x :: dl) := by
  obtain ⟨cs, h1, h2, h3⟩ := h
  refine ⟨_, heap_modc h1, by simpa using h2, ?_⟩
  rw [Array.toList_setIfInBounds, List.drop_eq_getElem_cons (by simp; omega), List.drop_set_of_lt (by omega), h3]
  simp [bcells]

theorem Dig.cell {w : World} {B a : Nat} {dl : List UInt8} (h : Dig w B a dl) (i : Nat) (hi : i < 20) : (∃ u, w.cell? ⟨B, i, none⟩ = some u) ∧ w.frozen? ⟨B, i, none⟩ = false := by
  obtain ⟨cs, h1, h2, h3⟩ := h
  refine ⟨⟨cs[i]'(by omega), ?_⟩, ?_⟩
  · simp [World.cell?, h1]
  · simp [World.frozen?, h1]

theorem Dig.rd {w : World} {B a : Nat} {dl : List UInt8} (h : Dig w B a dl) (ha : a ≤ 20) : Rd w (.slice (some ⟨B, a, none⟩) (20 - a) (20 - a)) dl := by
  obtain ⟨cs, h1, h2, h3⟩ := h
  have hl : dl.length = 20 - a := by
    have := congrArg List.length h3
    simp [bcells_length, h2] at this
    omega
  refine ⟨_, 20 - a, by rw [hl], by omega, by unfold maxLen; omega, by simp, fun hp => ⟨B, a, rfl, fun i hi => ?_⟩⟩
  have hc : cs[a + i]? = some (.int .u8 (dl[i].toNat : Int)) := by
    rw [← Array.getElem?_toList, ← List.getElem?_drop, h3]
    simp [bcells, hi]
  simp [World.cell?, h1, hc]

/-- digits[k:]. -/
theorem cut20 (W : World) (B k : Nat) (hk : k < 20) : (Instr.sliceAt 143 (.pointer (some ⟨B, 0, none⟩)) (some (.int .i64 (k : Int))) none none).run Tryz.prog W = .ok (.slice (some ⟨B, k, none⟩) (20 - k) (20 - k)) W := by
  have hal : Tryz.prog.arrayLen 143 = 20 := by kernel_rfl
  have hel : Tryz.prog.elem 143 = 5 := by kernel_rfl
  rw [run_sliceAt_array_l W 143 ⟨B, 0, none⟩ (by rw [hal, hel]; exact Tryz.underlying143) .i64 k (by omega) (by rw [hal]; omega), hel, Tryz.sizeOf5 W]
  simp only [Result.andThen, slicedAt, hal, Int.toNat_natCast, Nat.mul_one, Addr.add_lit, Nat.zero_add]
  rw [if_neg (by omega)]

/-- One digit more. -/
theorem dig_step {u N a : Nat} {dl : List UInt8} (hd : ds u ++ dl = ds N) (hu : u < 10 ^ (a - 1)) (ha : 1 ≤ a) (h20 : a ≤ 20) (h10 : ¬ u < 10) : ds (u / 10) ++ (UInt8.ofNat (48 + u % 10) :: dl) = ds N ∧ u / 10 < 10 ^ (a - 1 - 1) ∧ 2 ≤ a := by
  have h2 : 2 ≤ a := by
    rcases Nat.lt_or_ge a 2 with h | h
    · obtain rfl : a = 1 := by omega
      simp at hu
      omega
    · exact h
  obtain ⟨k, rfl⟩ : ∃ k, a = k + 2 := ⟨a - 2, by omega⟩
  have hk : (10 : Nat) ^ (k + 1) ≤ 10 ^ 19 := Nat.pow_le_pow_right (by omega) (by omega)
  have hu' : u < 10 ^ (k + 1) := hu
  refine ⟨?_, ?_, h2⟩
  · rw [← hd, ds_great u h10 (by omega), List.append_assoc]
    rfl
  · show u / 10 < 10 ^ k
    rw [Nat.pow_succ] at hu'
    omega

set_option maxRecDepth 100000 in
set_option maxHeartbeats 2000000 in
theorem text_c (w : World) (n : Int) (hlo : -9223372036854775808 ≤ n) (hhi : n ≤ 9223372036854775807) :
    Calls Tryz.prog 74 #[.int .i64 n] w fun e w' => e = .returned (.string ⟨(txt n).toArray⟩) ∧ Below w.heap.size w w' := by
  obtain ⟨N, hN⟩ : ∃ N : Nat, N = n.natAbs := ⟨_, rfl⟩
  have hN19 : N < 10 ^ 19 := by omega
  have HN := Lib.hid hN19
  clear hN19
  by_cases hneg : n < 0
  · have HW := Lib.hid (show IntKind.u64.wrap (-IntKind.u64.wrap n) = ((N : Nat) : Int) from by rw [u64w, u64w]; omega)
    have HT := Lib.hid (show txt n = 45 :: ds N from by unfold txt; rw [if_pos hneg, hN, show (-n).toNat = n.natAbs from by omega])
    clear hN hlo hhi
    go_enter Tryz.func74, Tryz.ntmps74
    go_wp2_with fail
    rw [HW.out]
    go_loopw [4, 5] (fun s i wr => ∃ (a u : Nat) (dl : List UInt8), i = .int .i64 a ∧ s = .int .u64 u ∧ 1 ≤ a ∧ a ≤ 20 ∧ (a = 20 ∨ 0 < u) ∧ u < 10 ^ (a - 1) ∧ ds u ++ dl = ds N ∧ Dig wr w.heap.size a dl ∧ Below w.heap.size w wr) (fun s i _ => (intOf i).toNat)
    case atStart => exact ⟨20, N, [], rfl, rfl, by omega, by omega, .inl rfl, HN.out, by simp, ⟨_, heap_alloc_new w _, rfl, rfl⟩, (Below.refl _ _).alloc (Nat.le_refl _) _⟩
    case round =>
      obtain ⟨a, u, dl, rfl, rfl, ha1, ha2, hau, hu, hd, hdig, hb⟩ := hrel
      have HU := Lib.hid hu
      have HD := Lib.hid hd
      have HG := Lib.hid hdig
      have HB := Lib.hid hb
      have hu64 : u < 18446744073709551616 := by
        have : 10 ^ (a - 1) ≤ 10 ^ 19 := Nat.pow_le_pow_right (by omega) (by omega)
        omega
      obtain ⟨k, rfl⟩ : ∃ k, a = k + 1 := ⟨a - 1, by omega⟩
      obtain ⟨⟨c0, hc0⟩, hf0⟩ := hdig.cell k (by omega)
      have hg2 := HG.out.set (by omega) (UInt8.ofNat (48 + u % 10))
      rw [show ((UInt8.ofNat (48 + u % 10)).toNat : Int) = 48 + (u : Int) % 10 from by simp; omega] at hg2
      have HG2 := Lib.hid hg2
      clear hg2 hu hd hb
      by_cases h10 : u < 10
      · have HS := Lib.hid (show UInt8.ofNat (48 + u % 10) :: dl = ds N from by rw [← HD.out, ds_small u h10, Nat.mod_eq_of_lt h10]; rfl)
        have hk1 : 1 ≤ k := by
          rcases Nat.eq_zero_or_pos k with h | h
          · subst h
            have := HU.out
            simp at this
            omega
          · exact h
        obtain ⟨j, rfl⟩ : ∃ j, k = j + 1 := ⟨k - 1, by omega⟩
        obtain ⟨⟨c1, hc1⟩, hf1⟩ := hdig.cell j (by omega)
        have hg3 := HG2.out.set (by omega) 45
        rw [show (((45 : UInt8).toNat : Nat) : Int) = 45 from rfl] at hg3
        have hcv := (hg3.rd (by omega)).conv (P := Tryz.prog) 22 5 9 Tryz.underlying22 Tryz.underlying5 Tryz.underlying9
        rw [HS.out] at hcv
        have hsl := fun W => cut20 W w.heap.size j (by omega)
        clear hdig hg3
        go_wp2
        go_ret
        exact ⟨by rw [HT.out]; rfl, (HB.out.setCell (Nat.le_refl _) _).setCell (Nat.le_refl _) _⟩
      · have HS := Lib.hid (dig_step HD.out HU.out ha1 ha2 h10)
        clear hdig
        go_wp2_with fail
        go_roundw
        case rel => exact ⟨k, u / 10, _, by go_num, by go_num, by have := HS.out.2.2; omega, by omega, by omega, HS.out.2.1, HS.out.1, HG2.out, HB.out.setCell (Nat.le_refl _) _⟩
        case measure => simp [intOf]
  · have HW := Lib.hid (show n = ((N : Nat) : Int) from by omega)
    have HT := Lib.hid (show txt n = ds N from by unfold txt; rw [if_neg hneg, hN, show n.toNat = n.natAbs from by omega])
    clear hN hlo
    go_enter Tryz.func74, Tryz.ntmps74
    go_wp2_with fail
    go_loopw [4, 5] (fun s i wr => ∃ (a u : Nat) (dl : List UInt8), i = .int .i64 a ∧ s = .int .u64 u ∧ 1 ≤ a ∧ a ≤ 20 ∧ (a = 20 ∨ 0 < u) ∧ u < 10 ^ (a - 1) ∧ ds u ++ dl = ds N ∧ Dig wr w.heap.size a dl ∧ Below w.heap.size w wr) (fun s i _ => (intOf i).toNat)
    case atStart => exact ⟨20, N, [], rfl, by rw [HW.out], by omega, by omega, .inl rfl, HN.out, by simp, ⟨_, heap_alloc_new w _, rfl, rfl⟩, (Below.refl _ _).alloc (Nat.le_refl _) _⟩
    case round =>
      obtain ⟨a, u, dl, rfl, rfl, ha1, ha2, hau, hu, hd, hdig, hb⟩ := hrel
      have HU := Lib.hid hu
      have HD := Lib.hid hd
      have HG := Lib.hid hdig
      have HB := Lib.hid hb
      have hu64 : u < 18446744073709551616 := by
        have : 10 ^ (a - 1) ≤ 10 ^ 19 := Nat.pow_le_pow_right (by omega) (by omega)
        omega
      obtain ⟨k, rfl⟩ : ∃ k, a = k + 1 := ⟨a - 1, by omega⟩
      obtain ⟨⟨c0, hc0⟩, hf0⟩ := hdig.cell k (by omega)
      have hg2 := HG.out.set (by omega) (UInt8.ofNat (48 + u % 10))
      rw [show ((UInt8.ofNat (48 + u % 10)).toNat : Int) = 48 + (u : Int) % 10 from by simp; omega] at hg2
      have HG2 := Lib.hid hg2
      clear hg2 hu hd hb
      by_cases h10 : u < 10
      · have HS := Lib.hid (show UInt8.ofNat (48 + u % 10) :: dl = ds N from by rw [← HD.out, ds_small u h10, Nat.mod_eq_of_lt h10]; rfl)
        have hk1 : 1 ≤ k := by
          rcases Nat.eq_zero_or_pos k with h | h
          · subst h
            have := HU.out
            simp at this
            omega
          · exact h
        have hcv := (HG2.out.rd (by omega)).conv (P := Tryz.prog) 22 5 9 Tryz.underlying22 Tryz.underlying5 Tryz.underlying9
        rw [HS.out] at hcv
        have hsl := fun W => cut20 W w.heap.size k (by omega)
        clear hdig
        go_wp2
        go_ret
        exact ⟨by rw [HT.out]; rfl, HB.out.setCell (Nat.le_refl _) _⟩
      · have HS := Lib.hid (dig_step HD.out HU.out ha1 ha2 h10)
        clear hdig
        go_wp2_with fail
        go_roundw
        case rel => exact ⟨k, u / 10, _, by go_num, by go_num, by have := HS.out.2.2; omega, by omega, by omega, HS.out.2.1, HS.out.1, HG2.out, HB.out.setCell (Nat.le_refl _) _⟩
        case measure => simp [intOf]
end Go.Proofs.YtpcajjbdlfookaaGreatDoor

/- The reference's Text: it calls itself. -/
namespace Go.Proofs.YtpcajjbdlfookaaGreatDoor
open Go.RowKit
set_option linter.unusedVariables false

theorem txt_size (k : Nat) : ∀ (n : Int), -9223372036854775808 ≤ n → n ≤ 9223372036854775807 → (txt n).length ≤ 25 := by
  intro n h1 h2
  have hd : ∀ f u, (dg f u).length ≤ f + 1 := by
    intro f
    induction f with
    | zero => intro u; simp [dg]
    | succ f ih => intro u; unfold dg; split; · simp
                   · have := ih (u / 10); simp; omega
  unfold txt
  split
  · have := hd 20 (-n).toNat
    unfold ds
    simp only [List.length_cons]
    omega
  · have := hd 20 n.toNat
    unfold ds
    omega

theorem cat (a b : List UInt8) : ((⟨a.toArray⟩ : ByteArray) ++ ⟨b.toArray⟩) = ⟨(a ++ b).toArray⟩ := by
  apply ByteArray.ext
  simp [ByteArray.data_append]

theorem digit_cut : ∀ m : Fin 10, ((⟨#[48, 49, 50, 51, 52, 53, 54, 55, 56, 57]⟩ : ByteArray).extract m.val (m.val + 1)) = ⟨[UInt8.ofNat (48 + m.val)].toArray⟩ := by decide +kernel

set_option maxRecDepth 100000 in
theorem rdigit_c (n : Int) (w : World) (h0 : 0 ≤ n) (h10 : n < 10) :
    Calls Tryz.prog 47 #[.int .i64 n] w fun e w' => e = .returned (.string ⟨(txt n).toArray⟩) ∧ w = w' := by
  have HT := Lib.hid (txt_digit n h0 h10)
  have HC := Lib.hid (digit_cut ⟨n.toNat, by omega⟩)
  go_enter Tryz.func47, Tryz.ntmps47
  go_wp2_with fail
  go_ret
  refine ⟨?_, rfl⟩
  rw [HT.out, ← HC.out]
  rw [show (n + 1).toNat = n.toNat + 1 from by omega]
  rfl

set_option maxRecDepth 100000 in
set_option maxHeartbeats 1000000 in
theorem rtext_c (k : Nat) : ∀ (n : Int) (w : World), n.natAbs < 10 ^ (k + 1) → -9223372036854775808 ≤ n → n ≤ 9223372036854775807 →
    Calls Tryz.prog 47 #[.int .i64 n] w fun e w' => e = .returned (.string ⟨(txt n).toArray⟩) ∧ w = w' := by
  induction k with
  | zero =>
    intro n w hk hlo hhi
    by_cases hneg : n < 0
    · have HT := Lib.hid (txt_minus n hneg (by omega))
      have hk' : -10 < n := by omega
      have L1 := txt_size 0 (-n) (by omega) (by omega)
      clear hk
      generalize ha : txt (-n) = a at *
      have HA := Lib.hid ha
      clear ha
      go_enter Tryz.func47, Tryz.ntmps47
      go_wp2_with fail
      refine (rdigit_c (-n) _ (by omega) (by omega)).mono ?_
      rintro e w' ⟨rfl, rfl⟩
      rw [HA.out]
      go_wp2_with fail
      go_ret
      exact ⟨by rw [HT.out, show (45 :: a) = [45] ++ a from rfl, ← cat]; rfl, rfl⟩
    · exact rdigit_c n w (by omega) (by omega)
  | succ k ih =>
    intro n w hk hlo hhi
    by_cases h1 : 0 ≤ n
    · by_cases h2 : n < 10
      · exact rdigit_c n w h1 h2
      · have HT := Lib.hid (txt_pos n (by omega) hhi)
        have HI := Lib.hid (ih (n / 10) w (by rw [Nat.pow_succ] at hk; omega) (by omega) (by omega))
        have h2' : 10 ≤ n := by omega
        have L1 := txt_size 0 (n / 10) (by omega) (by omega)
        have L2 := txt_size 0 (n % 10) (by omega) (by omega)
        clear hk h2 ih
        generalize ha : txt (n / 10) = a at *
        generalize hb : txt (n % 10) = b at *
        have HB := Lib.hid hb
        clear ha hb
        go_enter Tryz.func47, Tryz.ntmps47
        go_wp2_with fail
        refine HI.out.mono ?_
        rintro e w' ⟨rfl, rfl⟩
        go_wp2_with fail
        refine (rdigit_c (n % 10) _ (by omega) (by omega)).mono ?_
        rintro e w' ⟨rfl, rfl⟩
        rw [HB.out]
        go_wp2_with fail
        go_ret
        exact ⟨by rw [HT.out, ← cat]; rfl, rfl⟩
    · by_cases h2 : -10 < n
      · have HT := Lib.hid (txt_minus n (by omega) h2)
        have L1 := txt_size 0 (-n) (by omega) (by omega)
        clear hk
        generalize ha : txt (-n) = a at *
        have HA := Lib.hid ha
        clear ha
        have h1' : n < 0 := by omega
        clear h1 ih
        go_enter Tryz.func47, Tryz.ntmps47
        go_wp2_with fail
        refine (rdigit_c (-n) _ (by omega) (by omega)).mono ?_
        rintro e w' ⟨rfl, rfl⟩
        rw [HA.out]
        go_wp2_with fail
        go_ret
        exact ⟨by rw [HT.out, show (45 :: a) = [45] ++ a from rfl, ← cat]; rfl, rfl⟩
      · have HT := Lib.hid (txt_neg n (by omega) hlo)
        have e1 : n.tdiv 10 = -((-n) / 10) := by
          rw [← Int.neg_neg n, Int.neg_tdiv, Int.neg_neg, Int.tdiv_eq_ediv_of_nonneg (by omega)]
        have e2 : n.tmod 10 = -((-n) % 10) := by
          rw [← Int.neg_neg n, Int.neg_tmod, Int.neg_neg, Int.tmod_eq_emod_of_nonneg (by omega)]
        have hd1 : (n.tdiv 10).natAbs < 10 ^ (k + 1) := by rw [e1]; rw [Nat.pow_succ] at hk; omega
        have hd2 : -9223372036854775808 ≤ n.tdiv 10 ∧ n.tdiv 10 ≤ 0 := by omega
        have hm : 0 ≤ -(n.tmod 10) ∧ -(n.tmod 10) < 10 := by omega
        have HI := Lib.hid (ih (n.tdiv 10) w hd1 hd2.1 (by omega))
        have L1 := txt_size 0 (n.tdiv 10) hd2.1 (by omega)
        have L2 := txt_size 0 (-(n.tmod 10)) (by omega) (by omega)
        have HM := Lib.hid hm
        have h1' : n ≤ -10 := by omega
        have hq1 := hd2.1
        have hq2 := hd2.2
        have hm1 := hm.1
        have hm2 := hm.2
        clear hk h2 ih h1 e1 e2 hd1 hd2 hm
        generalize ha : txt (n.tdiv 10) = a at *
        generalize hb : txt (-(n.tmod 10)) = b at *
        have HB := Lib.hid hb
        clear ha hb
        go_enter Tryz.func47, Tryz.ntmps47
        go_wp2_with fail
        refine HI.out.mono ?_
        rintro e w' ⟨rfl, rfl⟩
        go_wp2_with fail
        refine (rdigit_c _ _ HM.out.1 HM.out.2).mono ?_
        rintro e w' ⟨rfl, rfl⟩
        rw [HB.out]
        go_wp2_with fail
        go_ret
        exact ⟨by rw [HT.out, ← cat]; rfl, rfl⟩
end Go.Proofs.YtpcajjbdlfookaaGreatDoor
