/- Package bytes by its contracts, in the words of Rd. -/
import Derived.Test.YtpcajjbdlfookaaGreatDoorBy
import Derived.Test.YtpcajjbdlfookaaGreatDoorShelf
import Derived.Lib.SlBuf
import Derived.Lib.CountLaws
namespace Go.Proofs.YtpcajjbdlfookaaGreatDoor
open Go.RowKit
set_option linter.unusedVariables false

/-- The bound of the search in one go lies, whatever it is. -/
def MX (w : World) : Prop := ∃ m, w.cell? ⟨2, 0, none⟩ = some (.int .i64 m)
theorem MX.below {w w' : World} (h : MX w) (hb : Below w.heap.size w w') : MX w' := by
  obtain ⟨m, hm⟩ := h
  exact ⟨m, by rw [hb.cell (World.block_lt_of_cell? w _ hm)]; exact hm⟩
theorem MX.lt {w : World} (h : MX w) : 2 < w.heap.size := by
  obtain ⟨m, hm⟩ := h
  exact World.block_lt_of_cell? w _ hm
theorem MX.drewN {w : World} (h : MX w) (q : Nat) : MX (w.drewN q) := by
  obtain ⟨m, hm⟩ := h
  exact ⟨m, by rw [World.cell?_drewN]; exact hm⟩

theorem rd_in {w : World} {p : Option Addr} {n c : Nat} {xs : List UInt8} (h : Rd w (.slice p n c) xs) : (Lib.numsL xs).length = n ∧ n = xs.length ∧ Lib.BytesIn w p n (Lib.numsL xs) ∧ (p = none → c = 0) ∧ n ≤ c ∧ c ≤ maxLen := by
  obtain ⟨p', c', hv, h1, h2, h3, h4⟩ := h
  simp only [Value.slice.injEq] at hv
  obtain ⟨rfl, rfl, rfl⟩ := hv
  refine ⟨Lib.numsL_length xs, rfl, fun hn => ?_, h3, h1, h2⟩
  obtain ⟨b, o, hb, hc⟩ := h4 hn
  refine ⟨b, o, hb, fun i hi => ?_⟩
  rw [hc i hi]
  simp [Lib.numsL, List.getD, hi]
theorem rd_form {w : World} {v : Value} {xs : List UInt8} (h : Rd w v xs) : ∃ p c, v = .slice p xs.length c := by
  obtain ⟨p, c, hv, _⟩ := h
  exact ⟨p, c, hv⟩
theorem rd_holds {w : World} {v : Value} {xs : List UInt8} (h : Rd w v xs) : Lib.HoldsBytes w v xs := by
  obtain ⟨p, c, rfl, h1, h2, h3, h4⟩ := h
  refine ⟨p, c, rfl, fun e => ?_, fun a ha i x hx => ?_⟩
  · have := h3 e
    exact List.eq_nil_of_length_eq_zero (by omega)
  · have hi := (List.getElem?_eq_some_iff.1 hx).1
    obtain ⟨b, o, hb, hc⟩ := h4 (by omega)
    rw [ha] at hb
    simp only [Option.some.injEq] at hb
    subst hb
    rw [Addr.add_lit, hc i hi, (List.getElem?_eq_some_iff.1 hx).2]
theorem rd_cells {w : World} {a : Addr} {n c : Nat} {xs : List UInt8} (h : Rd w (.slice (some a) n c) xs) : ∀ i, i < n → w.cell? (a.add i) = some (.int .u8 ((Lib.numsL xs).getD i 0)) := fun i hi => by
  obtain ⟨_, _, hin, _⟩ := rd_in h
  obtain ⟨b, o, hb, hc⟩ := hin (by omega)
  simp only [Option.some.injEq] at hb
  subst hb
  rw [Addr.add_lit]
  exact hc i hi

theorem hasPrefix_c (w : World) (v u : Value) (xs ys : List UInt8) (h1 : Rd w v xs) (h2 : Rd w u ys) : Calls Tryz.prog 120 #[v, u] w fun e w' => e = .returned (.bool (Lib.hasPrefix xs ys)) ∧ w = w' := by
  obtain ⟨p1, c1, rfl⟩ := rd_form h1
  obtain ⟨p2, c2, rfl⟩ := rd_form h2
  obtain ⟨l1, _, b1, _, k1, _⟩ := rd_in h1
  obtain ⟨l2, _, b2, _, k2, _⟩ := rd_in h2
  have := Tryz.bytes_HasPrefix_all p1 p2 xs.length c1 ys.length c2 (Lib.numsL xs) (Lib.numsL ys) w l1 l2 k1 b1 b2
  rw [Lib.bytesOf_numsL, Lib.bytesOf_numsL] at this
  exact this.mono fun e w' h => ⟨h.1, h.2.symm⟩

/-- What bytes.Cut hands back where the mark is found, and where it is not. -/
theorem cut_hit (w : World) (p : Option Addr) (n c i : Nat) (u : Value) (xs ys : List UInt8) (h1 : Rd w (.slice p n c) xs) (h2 : Rd w u ys) (hm : MX w) (hl : xs.length ≤ 16777216) (hk : ys.length ≤ 16777216) (hi : Lib.index xs ys = i) :
    Calls Tryz.prog 122 #[.slice p n c, u] w fun e w' => (∃ x, e = .returned (.tuple #[.slice p i c, x, .bool true])) ∧ ∃ q, w' = w.drewN q := by
  obtain ⟨p2, c2, rfl⟩ := rd_form h2
  obtain ⟨l1, e1, b1, z1, k1, _⟩ := rd_in h1
  obtain ⟨l2, _, b2, _, k2, _⟩ := rd_in h2
  obtain ⟨m, hm⟩ := hm
  have := Tryz.bytes_Cut_all p p2 n c ys.length c2 (Lib.numsL xs) (Lib.numsL ys) m w l1 l2 (Lib.numsL_range _) (Lib.numsL_range _) b1 b2 z1 k1 (by omega) (by omega) hm
  rw [Lib.bytesOf_numsL, Lib.bytesOf_numsL, hi] at this
  refine this.mono fun e w' h => ⟨⟨Lib.fromV p n c (i + ys.length), h.1.trans ?_⟩, h.2⟩
  unfold Lib.cutV
  rw [if_pos (by omega), Int.toNat_natCast]
theorem cut_miss (w : World) (p : Option Addr) (n c : Nat) (u : Value) (xs ys : List UInt8) (h1 : Rd w (.slice p n c) xs) (h2 : Rd w u ys) (hm : MX w) (hl : xs.length ≤ 16777216) (hk : ys.length ≤ 16777216) (hi : Lib.index xs ys < 0) :
    Calls Tryz.prog 122 #[.slice p n c, u] w fun e w' => e = .returned (.tuple #[.slice p n c, .slice none 0 0, .bool false]) ∧ ∃ q, w' = w.drewN q := by
  obtain ⟨p2, c2, rfl⟩ := rd_form h2
  obtain ⟨l1, e1, b1, z1, k1, _⟩ := rd_in h1
  obtain ⟨l2, _, b2, _, k2, _⟩ := rd_in h2
  obtain ⟨m, hm⟩ := hm
  have := Tryz.bytes_Cut_all p p2 n c ys.length c2 (Lib.numsL xs) (Lib.numsL ys) m w l1 l2 (Lib.numsL_range _) (Lib.numsL_range _) b1 b2 z1 k1 (by omega) (by omega) hm
  rw [Lib.bytesOf_numsL, Lib.bytesOf_numsL] at this
  refine this.mono fun e w' h => ⟨h.1.trans ?_, h.2⟩
  unfold Lib.cutV
  rw [if_neg (by omega)]
theorem one_cell {w : World} {p : Option Addr} {k c : Nat} {ys : List UInt8} (h : Rd w (.slice p k c) ys) : k = 1 → ∃ b2 o2 cv, p = some ⟨b2, o2, none⟩ ∧ w.cell? ⟨b2, o2, none⟩ = some (.int .u8 cv) := fun hk => by
  obtain ⟨_, _, hin, _⟩ := rd_in h
  obtain ⟨b, o, hb, hc⟩ := hin (by omega)
  exact ⟨b, o, _, hb, by simpa using hc 0 (by omega)⟩
theorem addr_of {w : World} {p : Option Addr} {k c : Nat} {ys : List UInt8} (h : Rd w (.slice p k c) ys) (hk : 1 ≤ k) : ∃ a, p = some a := by
  obtain ⟨_, _, hin, _⟩ := rd_in h
  obtain ⟨b, o, hb, _⟩ := hin hk
  exact ⟨_, hb⟩
theorem idx_nil {ys : List UInt8} (h : 1 ≤ ys.length) : Lib.index [] ys = -1 := by
  cases ys with
  | nil => simp at h
  | cons a t => rfl
theorem contains_c (w : World) (v u : Value) (xs ys : List UInt8) (h1 : Rd w v xs) (h2 : Rd w u ys) (hm : MX w) (hl : xs.length ≤ 16777216) (hk : ys.length ≤ 16777216) (hy : 1 ≤ ys.length) :
    Calls Tryz.prog 128 #[v, u] w fun e w' => e = .returned (.bool (decide (0 ≤ Lib.index xs ys))) ∧ ∃ q, w' = w.drewN q := by
  obtain ⟨p1, c1, rfl⟩ := rd_form h1
  obtain ⟨p2, c2, rfl⟩ := rd_form h2
  obtain ⟨l1, _, b1, z1, k1, _⟩ := rd_in h1
  obtain ⟨l2, _, b2, _, k2, _⟩ := rd_in h2
  obtain ⟨m, hm⟩ := hm
  cases p1 with
  | none =>
    have hc0 := z1 rfl
    subst hc0
    have hx : xs.length = 0 := by omega
    rw [hx]
    have := Tryz.bytes_Contains_nil p2 ys.length c2 w (by omega) (one_cell h2)
    refine this.mono fun e w' h => ⟨h.1.trans ?_, 0, h.2⟩
    rw [List.eq_nil_of_length_eq_zero hx, idx_nil hy]
    simp
    intro e
    rw [e] at hy
    simp at hy
  | some a1 =>
    obtain ⟨a2, rfl⟩ := addr_of h2 hy
    have := Tryz.bytes_Contains_at a1 a2 xs.length c1 ys.length c2 (Lib.numsL xs) (Lib.numsL ys) m w l1 l2 (Lib.numsL_range _) (Lib.numsL_range _) (rd_cells h1) (rd_cells h2) k1 (by omega) (by omega) hm
    rw [Lib.bytesOf_numsL, Lib.bytesOf_numsL] at this
    exact this
theorem count_c (w : World) (v u : Value) (xs ys : List UInt8) (h1 : Rd w v xs) (h2 : Rd w u ys) (hm : MX w) (hl : xs.length ≤ 16777216) (hk : ys.length ≤ 16777216) (hy : 1 ≤ ys.length) :
    Calls Tryz.prog 146 #[v, u] w fun e w' => e = .returned (.int .i64 (Lib.count xs ys)) ∧ ∃ q, w' = w.drewN q := by
  obtain ⟨p1, c1, rfl⟩ := rd_form h1
  obtain ⟨p2, c2, rfl⟩ := rd_form h2
  obtain ⟨l1, _, b1, z1, k1, _⟩ := rd_in h1
  obtain ⟨l2, _, b2, _, k2, _⟩ := rd_in h2
  obtain ⟨m, hm⟩ := hm
  cases p1 with
  | none =>
    have hc0 := z1 rfl
    subst hc0
    have hx : xs.length = 0 := by omega
    rw [hx]
    have := Tryz.bytes_Count_nil_any p2 ys.length c2 w hy (by omega) (one_cell h2)
    refine this.mono fun e w' h => ⟨h.1.trans ?_, 0, h.2⟩
    rw [List.eq_nil_of_length_eq_zero hx, Lib.count_miss (idx_nil hy)]
    rfl
  | some a1 =>
    obtain ⟨a2, rfl⟩ := addr_of h2 hy
    have := Tryz.bytes_Count_any a1 a2 xs.length c1 ys.length c2 (Lib.numsL xs) (Lib.numsL ys) m w l1 l2 (Lib.numsL_range _) (Lib.numsL_range _) (rd_cells h1) (rd_cells h2) k1 (by omega) (by omega) hy hm
    rw [Lib.bytesOf_numsL, Lib.bytesOf_numsL] at this
    exact this
theorem index_c (w : World) (v u : Value) (xs ys : List UInt8) (h1 : Rd w v xs) (h2 : Rd w u ys) (hm : MX w) (hl : xs.length ≤ 16777216) (hk : ys.length ≤ 16777216) (hx : 1 ≤ xs.length) (hy : 1 ≤ ys.length) :
    Calls Tryz.prog 135 #[v, u] w fun e w' => e = .returned (.int .i64 (Lib.index xs ys)) ∧ ∃ q, w' = w.drewN q := by
  obtain ⟨p1, c1, rfl⟩ := rd_form h1
  obtain ⟨p2, c2, rfl⟩ := rd_form h2
  obtain ⟨l1, _, b1, z1, k1, _⟩ := rd_in h1
  obtain ⟨l2, _, b2, _, k2, _⟩ := rd_in h2
  obtain ⟨m, hm⟩ := hm
  obtain ⟨a1, rfl⟩ := addr_of h1 hx
  obtain ⟨a2, rfl⟩ := addr_of h2 hy
  have := Tryz.bytes_Index_at a1 a2 xs.length c1 ys.length c2 (Lib.numsL xs) (Lib.numsL ys) m w l1 l2 (Lib.numsL_range _) (Lib.numsL_range _) (rd_cells h1) (rd_cells h2) k1 (by omega) (by omega) hm
  rw [Lib.bytesOf_numsL, Lib.bytesOf_numsL] at this
  exact this
end Go.Proofs.YtpcajjbdlfookaaGreatDoor
