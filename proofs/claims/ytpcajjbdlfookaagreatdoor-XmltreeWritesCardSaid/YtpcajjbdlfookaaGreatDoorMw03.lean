/- Package bytes by its contracts, in the words of Rd. -/
import Derived.Test.YtpcajjbdlfookaaGreatDoorMw01
import Derived.Test.YtpcajjbdlfookaaGreatDoorMw02
import Derived.Lib.SlBuf
import Derived.Lib.CountLaws
import Derived.Shelf.Unicode.DecodeSlow
import Derived.Lib.RuneBytes
import Derived.Test.YtpcajjbdlfookaaGreatDoorRows
import Derived.OpenShut
import Derived.Outline
import Derived.WalkLawsBesides
import Derived.WalkSpells
import Derived.Deep.QuietTactic
import Derived.BigQuiet
namespace Go.Proofs.YtpcajjbdlfookaaGreatDoor
open Go.RowKit
set_option linter.unusedVariables false

/-- The bound of the search in one go lies, whatever it is. -/
def MX (w : World) : Prop := ∃ m, w.cell? ⟨2, 0, none⟩ = some (.int .i64 m)
theorem MX.below {w w' : World} (h : MX w) (hb : Below w.heap.size w w') : MX w' := by
  obtain ⟨m, hm⟩ := h
  exact ⟨m, by rw [hb.cell (World.block_lt_of_cell? w _ hm)]; exact hm⟩
theorem MX.lt {w : World} (h : MX w) : 2 < w.heap.size := by
  obtain ⟨m, hm⟩ := h
  exact World.block_lt_of_cell? w _ hm
theorem MX.drewN {w : World} (h : MX w) (q : Nat) : MX (w.drewN q) := by
  obtain ⟨m, hm⟩ := h
  exact ⟨m, by rw [World.cell?_drewN]; exact hm⟩

theorem rd_in {w : World} {p : Option Addr} {n c : Nat} {xs : List UInt8} (h : Rd w (.slice p n c) xs) : (Lib.numsL xs).length = n ∧ n = xs.length ∧ Lib.BytesIn w p n (Lib.numsL xs) ∧ (p = none → c = 0) ∧ n ≤ c ∧ c ≤ maxLen := by
  obtain ⟨p', c', hv, h1, h2, h3, h4⟩ := h
  simp only [Value.slice.injEq] at hv
  obtain ⟨rfl, rfl, rfl⟩ := hv
  refine ⟨Lib.numsL_length xs, rfl, fun hn => ?_, h3, h1, h2⟩
  obtain ⟨b, o, hb, hc⟩ := h4 hn
  refine ⟨b, o, hb, fun i hi => ?_⟩
  rw [hc i hi]
  simp [Lib.numsL, List.getD, hi]
theorem rd_form {w : World} {v : Value} {xs : List UInt8} (h : Rd w v xs) : ∃ p c, v = .slice p xs.length c := by
  obtain ⟨p, c, hv, _⟩ := h
  exact ⟨p, c, hv⟩
theorem rd_holds {w : World} {v : Value} {xs : List UInt8} (h : Rd w v xs) : Lib.HoldsBytes w v xs := by
  obtain ⟨p, c, rfl, h1, h2, h3, h4⟩ := h
  refine ⟨p, c, rfl, fun e => ?_, fun a ha i x hx => ?_⟩
  · have := h3 e
    exact List.eq_nil_of_length_eq_zero (by omega)
  · have hi := (List.getElem?_eq_some_iff.1 hx).1
    obtain ⟨b, o, hb, hc⟩ := h4 (by omega)
    rw [ha] at hb
    simp only [Option.some.injEq] at hb
    subst hb
    rw [Addr.add_lit, hc i hi, (List.getElem?_eq_some_iff.1 hx).2]
theorem rd_cells {w : World} {a : Addr} {n c : Nat} {xs : List UInt8} (h : Rd w (.slice (some a) n c) xs) : ∀ i, i < n → w.cell? (a.add i) = some (.int .u8 ((Lib.numsL xs).getD i 0)) := fun i hi => by
  obtain ⟨_, _, hin, _⟩ := rd_in h
  obtain ⟨b, o, hb, hc⟩ := hin (by omega)
  simp only [Option.some.injEq] at hb
  subst hb
  rw [Addr.add_lit]
  exact hc i hi

theorem hasPrefix_c (w : World) (v u : Value) (xs ys : List UInt8) (h1 : Rd w v xs) (h2 : Rd w u ys) : Calls Tryz.prog 120 #[v, u] w fun e w' => e = .returned (.bool (Lib.hasPrefix xs ys)) ∧ w = w' := by
  obtain ⟨p1, c1, rfl⟩ := rd_form h1
  obtain ⟨p2, c2, rfl⟩ := rd_form h2
  obtain ⟨l1, _, b1, _, k1, _⟩ := rd_in h1
  obtain ⟨l2, _, b2, _, k2, _⟩ := rd_in h2
  have := Tryz.bytes_HasPrefix_all p1 p2 xs.length c1 ys.length c2 (Lib.numsL xs) (Lib.numsL ys) w l1 l2 k1 b1 b2
  rw [Lib.bytesOf_numsL, Lib.bytesOf_numsL] at this
  exact this.mono fun e w' h => ⟨h.1, h.2.symm⟩

/-- What bytes.Cut hands back where the mark is found, and where it is not. -/
theorem cut_hit (w : World) (p : Option Addr) (n c i : Nat) (u : Value) (xs ys : List UInt8) (h1 : Rd w (.slice p n c) xs) (h2 : Rd w u ys) (hm : MX w) (hl : xs.length ≤ 16777216) (hk : ys.length ≤ 16777216) (hi : Lib.index xs ys = i) :
    Calls Tryz.prog 122 #[.slice p n c, u] w fun e w' => (∃ x, e = .returned (.tuple #[.slice p i c, x, .bool true])) ∧ ∃ q, w' = w.drewN q := by
  obtain ⟨p2, c2, rfl⟩ := rd_form h2
  obtain ⟨l1, e1, b1, z1, k1, _⟩ := rd_in h1
  obtain ⟨l2, _, b2, _, k2, _⟩ := rd_in h2
  obtain ⟨m, hm⟩ := hm
  have := Tryz.bytes_Cut_all p p2 n c ys.length c2 (Lib.numsL xs) (Lib.numsL ys) m w l1 l2 (Lib.numsL_range _) (Lib.numsL_range _) b1 b2 z1 k1 (by omega) (by omega) hm
  rw [Lib.bytesOf_numsL, Lib.bytesOf_numsL, hi] at this
  refine this.mono fun e w' h => ⟨⟨Lib.fromV p n c (i + ys.length), h.1.trans ?_⟩, h.2⟩
  unfold Lib.cutV
  rw [if_pos (by omega), Int.toNat_natCast]
theorem cut_miss (w : World) (p : Option Addr) (n c : Nat) (u : Value) (xs ys : List UInt8) (h1 : Rd w (.slice p n c) xs) (h2 : Rd w u ys) (hm : MX w) (hl : xs.length ≤ 16777216) (hk : ys.length ≤ 16777216) (hi : Lib.index xs ys < 0) :
    Calls Tryz.prog 122 #[.slice p n c, u] w fun e w' => e = .returned (.tuple #[.slice p n c, .slice none 0 0, .bool false]) ∧ ∃ q, w' = w.drewN q := by
  obtain ⟨p2, c2, rfl⟩ := rd_form h2
  obtain ⟨l1, e1, b1, z1, k1, _⟩ := rd_in h1
  obtain ⟨l2, _, b2, _, k2, _⟩ := rd_in h2
  obtain ⟨m, hm⟩ := hm
  have := Tryz.bytes_Cut_all p p2 n c ys.length c2 (Lib.numsL xs) (Lib.numsL ys) m w l1 l2 (Lib.numsL_range _) (Lib.numsL_range _) b1 b2 z1 k1 (by omega) (by omega) hm
  rw [Lib.bytesOf_numsL, Lib.bytesOf_numsL] at this
  refine this.mono fun e w' h => ⟨h.1.trans ?_, h.2⟩
  unfold Lib.cutV
  rw [if_neg (by omega)]
theorem one_cell {w : World} {p : Option Addr} {k c : Nat} {ys : List UInt8} (h : Rd w (.slice p k c) ys) : k = 1 → ∃ b2 o2 cv, p = some ⟨b2, o2, none⟩ ∧ w.cell? ⟨b2, o2, none⟩ = some (.int .u8 cv) := fun hk => by
  obtain ⟨_, _, hin, _⟩ := rd_in h
  obtain ⟨b, o, hb, hc⟩ := hin (by omega)
  exact ⟨b, o, _, hb, by simpa using hc 0 (by omega)⟩
theorem addr_of {w : World} {p : Option Addr} {k c : Nat} {ys : List UInt8} (h : Rd w (.slice p k c) ys) (hk : 1 ≤ k) : ∃ a, p = some a := by
  obtain ⟨_, _, hin, _⟩ := rd_in h
  obtain ⟨b, o, hb, _⟩ := hin hk
  exact ⟨_, hb⟩
theorem idx_nil {ys : List UInt8} (h : 1 ≤ ys.length) : Lib.index [] ys = -1 := by
  cases ys with
  | nil => simp at h
  | cons a t => rfl
theorem contains_c (w : World) (v u : Value) (xs ys : List UInt8) (h1 : Rd w v xs) (h2 : Rd w u ys) (hm : MX w) (hl : xs.length ≤ 16777216) (hk : ys.length ≤ 16777216) (hy : 1 ≤ ys.length) :
    Calls Tryz.prog 128 #[v, u] w fun e w' => e = .returned (.bool (decide (0 ≤ Lib.index xs ys))) ∧ ∃ q, w' = w.drewN q := by
  obtain ⟨p1, c1, rfl⟩ := rd_form h1
  obtain ⟨p2, c2, rfl⟩ := rd_form h2
  obtain ⟨l1, _, b1, z1, k1, _⟩ := rd_in h1
  obtain ⟨l2, _, b2, _, k2, _⟩ := rd_in h2
  obtain ⟨m, hm⟩ := hm
  cases p1 with
  | none =>
    have hc0 := z1 rfl
    subst hc0
    have hx : xs.length = 0 := by omega
    rw [hx]
    have := Tryz.bytes_Contains_nil p2 ys.length c2 w (by omega) (one_cell h2)
    refine this.mono fun e w' h => ⟨h.1.trans ?_, 0, h.2⟩
    rw [List.eq_nil_of_length_eq_zero hx, idx_nil hy]
    simp
    intro e
    rw [e] at hy
    simp at hy
  | some a1 =>
    obtain ⟨a2, rfl⟩ := addr_of h2 hy
    have := Tryz.bytes_Contains_at a1 a2 xs.length c1 ys.length c2 (Lib.numsL xs) (Lib.numsL ys) m w l1 l2 (Lib.numsL_range _) (Lib.numsL_range _) (rd_cells h1) (rd_cells h2) k1 (by omega) (by omega) hm
    rw [Lib.bytesOf_numsL, Lib.bytesOf_numsL] at this
    exact this
theorem count_c (w : World) (v u : Value) (xs ys : List UInt8) (h1 : Rd w v xs) (h2 : Rd w u ys) (hm : MX w) (hl : xs.length ≤ 16777216) (hk : ys.length ≤ 16777216) (hy : 1 ≤ ys.length) :
    Calls Tryz.prog 146 #[v, u] w fun e w' => e = .returned (.int .i64 (Lib.count xs ys)) ∧ ∃ q, w' = w.drewN q := by
  obtain ⟨p1, c1, rfl⟩ := rd_form h1
  obtain ⟨p2, c2, rfl⟩ := rd_form h2
  obtain ⟨l1, _, b1, z1, k1, _⟩ := rd_in h1
  obtain ⟨l2, _, b2, _, k2, _⟩ := rd_in h2
  obtain ⟨m, hm⟩ := hm
  cases p1 with
  | none =>
    have hc0 := z1 rfl
    subst hc0
    have hx : xs.length = 0 := by omega
    rw [hx]
    have := Tryz.bytes_Count_nil_any p2 ys.length c2 w hy (by omega) (one_cell h2)
    refine this.mono fun e w' h => ⟨h.1.trans ?_, 0, h.2⟩
    rw [List.eq_nil_of_length_eq_zero hx, Lib.count_miss (idx_nil hy)]
    rfl
  | some a1 =>
    obtain ⟨a2, rfl⟩ := addr_of h2 hy
    have := Tryz.bytes_Count_any a1 a2 xs.length c1 ys.length c2 (Lib.numsL xs) (Lib.numsL ys) m w l1 l2 (Lib.numsL_range _) (Lib.numsL_range _) (rd_cells h1) (rd_cells h2) k1 (by omega) (by omega) hy hm
    rw [Lib.bytesOf_numsL, Lib.bytesOf_numsL] at this
    exact this
theorem index_c (w : World) (v u : Value) (xs ys : List UInt8) (h1 : Rd w v xs) (h2 : Rd w u ys) (hm : MX w) (hl : xs.length ≤ 16777216) (hk : ys.length ≤ 16777216) (hx : 1 ≤ xs.length) (hy : 1 ≤ ys.length) :
    Calls Tryz.prog 135 #[v, u] w fun e w' => e = .returned (.int .i64 (Lib.index xs ys)) ∧ ∃ q, w' = w.drewN q := by
  obtain ⟨p1, c1, rfl⟩ := rd_form h1
  obtain ⟨p2, c2, rfl⟩ := rd_form h2
  obtain ⟨l1, _, b1, z1, k1, _⟩ := rd_in h1
  obtain ⟨l2, _, b2, _, k2, _⟩ := rd_in h2
  obtain ⟨m, hm⟩ := hm
  obtain ⟨a1, rfl⟩ := addr_of h1 hx
  obtain ⟨a2, rfl⟩ := addr_of h2 hy
  have := Tryz.bytes_Index_at a1 a2 xs.length c1 ys.length c2 (Lib.numsL xs) (Lib.numsL ys) m w l1 l2 (Lib.numsL_range _) (Lib.numsL_range _) (rd_cells h1) (rd_cells h2) k1 (by omega) (by omega) hm
  rw [Lib.bytesOf_numsL, Lib.bytesOf_numsL] at this
  exact this
end Go.Proofs.YtpcajjbdlfookaaGreatDoor

/- The plain side of chars: UTF-8. -/
namespace Go.Proofs.YtpcajjbdlfookaaGreatDoor
open Go.Lib

/-- Byte i, 0 beyond the end. -/
def at8 (xs : List UInt8) (i : Nat) : Nat := (xs.getD i 0).toNat
/-- What Go's decoder hands back. -/
def G (xs : List UInt8) : Nat × Nat := if xs.length = 0 then (65533, 0) else decodeN xs.length (at8 xs 0) (at8 xs 1) (at8 xs 2) (at8 xs 3)
/-- The first character and its length, (0, 0) where there is none. -/
def D (xs : List UInt8) : Nat × Nat := if (G xs).1 = 65533 ∧ (G xs).2 < 3 then (0, 0) else G xs

def u8 (x : Int) : UInt8 := UInt8.ofNat x.toNat
/-- The bytes of a character. -/
def E (r : Int) : List UInt8 :=
  if r < 0 ∨ 1114111 < r ∨ (55296 ≤ r ∧ r ≤ 57343) then []
  else if r < 128 then [u8 r]
  else if r < 2048 then [u8 (192 + r / 64), u8 (128 + r % 64)]
  else if r < 65536 then [u8 (224 + r / 4096), u8 (128 + r / 64 % 64), u8 (128 + r % 64)]
  else [u8 (240 + r / 262144), u8 (128 + r / 4096 % 64), u8 (128 + r / 64 % 64), u8 (128 + r % 64)]

theorem get_at8 (xs : List UInt8) (i : Nat) : ((⟨xs.toArray⟩ : ByteArray).get! i).toNat = at8 xs i := by
  unfold at8 ByteArray.get!
  by_cases h : i < xs.length
  · simp [h, List.getD]
  · simp [List.getD, h]
    rfl

theorem G_go (xs : List UInt8) : decodeGo ⟨xs.toArray⟩ = G xs := by
  unfold decodeGo G
  have hs : (⟨xs.toArray⟩ : ByteArray).size = xs.length := by simp [ByteArray.size]
  rw [hs, decode_at, hs]
  simp only [Nat.zero_add, Nat.sub_zero, get_at8]

theorem at8_lt (xs : List UInt8) (i : Nat) : at8 xs i < 256 := (xs.getD i 0).toNat_lt

set_option maxHeartbeats 1000000 in
theorem decodeN_le (n b0 b1 b2 b3 : Nat) (h : b0 < 256) : (decodeN n b0 b1 b2 b3).1 ≤ 1114111 ∧ (decodeN n b0 b1 b2 b3).2 ≤ 4 ∧ ((decodeN n b0 b1 b2 b3).2 ≤ n ∨ n = 0) := by
  unfold decodeN
  repeat' split
  all_goals (simp only; omega)

theorem G_le (xs : List UInt8) : (G xs).1 ≤ 1114111 ∧ (G xs).2 ≤ 4 ∧ (G xs).2 ≤ xs.length := by
  unfold G
  split
  · simp
  · have := decodeN_le xs.length (at8 xs 0) (at8 xs 1) (at8 xs 2) (at8 xs 3) (at8_lt _ _)
    omega

theorem u8_toNat (x : Int) (h0 : 0 ≤ x) (h1 : x < 256) : ((u8 x).toNat : Int) = x := by
  unfold u8
  simp
  omega

theorem runeCells_E (r : Int) (h0 : 0 ≤ r) (h1 : r ≤ 1114111) (h2 : ¬ (55296 ≤ r ∧ r ≤ 57343)) : runeCells r = (E r).map fun b => Value.int .u8 (b.toNat : Int) := by
  unfold runeCells E
  rw [if_neg (by omega)]
  by_cases a : r < 128
  · rw [if_pos a, encodeRuneZ_one h0 (by omega)]
    simp only [List.map_cons, List.map_nil]
    rw [u8_toNat _ (by omega) (by omega)]
  · rw [if_neg a]
    by_cases b : r < 2048
    · rw [if_pos b, encodeRuneZ_two (by omega) (by omega)]
      simp only [List.map_cons, List.map_nil]
      rw [u8_toNat _ (by omega) (by omega), u8_toNat _ (by omega) (by omega)]
    · rw [if_neg b]
      by_cases c : r < 65536
      · rw [if_pos c, encodeRuneZ_three (by omega)]
        simp only [List.map_cons, List.map_nil]
        rw [u8_toNat _ (by omega) (by omega), u8_toNat _ (by omega) (by omega), u8_toNat _ (by omega) (by omega)]
      · rw [if_neg c, encodeRuneZ_four (by omega) (by omega)]
        simp only [List.map_cons, List.map_nil]
        rw [u8_toNat _ (by omega) (by omega), u8_toNat _ (by omega) (by omega), u8_toNat _ (by omega) (by omega), u8_toNat _ (by omega) (by omega)]

end Go.Proofs.YtpcajjbdlfookaaGreatDoor

/- chars: Decode, Encode; the reference's Encode. -/
namespace Go.Proofs.YtpcajjbdlfookaaGreatDoor
open Go.RowKit
set_option linter.unusedVariables false

/-- The decoder's tables lie. -/
abbrev Tabs (w : World) : Prop := Lib.Utf8Tabs 0 1 w
theorem Tabs.below {w w' : World} (h : Tabs w) (hb : Below w.heap.size w w') : Tabs w' := Utf8Tabs_below h hb

theorem info8 : (Tryz.prog.info? 5).map (fun i => (i.zero, i.size, i.bytes)) = some (some (.int .u8 0), 1, 1) := by kernel_rfl

theorem equal_c (w : World) (v1 v2 : Value) (xs ys : List UInt8) (h1 : Rd w v1 xs) (h2 : Rd w v2 ys) :
    Calls Tryz.prog 9 #[v1, v2] w fun e w' => e = .returned (.bool (xs == ys)) ∧ w = w' := by
  have c1 := h1.conv (P := Tryz.prog) 22 5 9 Tryz.underlying22 Tryz.underlying5 Tryz.underlying9
  have c2 := h2.conv (P := Tryz.prog) 22 5 9 Tryz.underlying22 Tryz.underlying5 Tryz.underlying9
  go_enter Tryz.func9, Tryz.ntmps9
  go_wp2
  go_ret
  exact ⟨rfl, rfl⟩

theorem goDecode_c (w : World) (hT : Tabs w) (v : Value) (xs : List UInt8) (h : Rd w v xs) :
    Calls Tryz.prog 56 #[v] w fun e w' => e = .returned (.tuple #[.int .i32 (G xs).1, .int .i64 (G xs).2]) ∧ Below w.heap.size w w' := by
  obtain ⟨p, c, rfl, h1, h2, h3, h4⟩ := h
  by_cases h0 : 0 < xs.length
  · obtain ⟨b, o, rfl, hx⟩ := h4 h0
    have hs : (⟨xs.toArray⟩ : ByteArray).size = xs.length := by simp [ByteArray.size]
    have := Tryz.utf8_DecodeRune ⟨xs.toArray⟩ b o c w hT (fun j hj => by
      rw [hs] at hj
      rw [hx j hj, get_at8]
      simp [at8, List.getD, hj])
    rw [hs, G_go] at this
    exact this
  · obtain rfl : xs = [] := List.eq_nil_of_length_eq_zero (by omega)
    clear h4 h3
    go_enter Tryz.func56, Tryz.ntmps56
    go_wp2_with fail
    refine wp_loop_rounds 1 ?_
    rw [rounds_succ]
    go_wp2
    go_ret2
    exact ⟨rfl, Below.refl _ _⟩

theorem decode_c (w : World) (hT : Tabs w) (v : Value) (xs : List UInt8) (h : Rd w v xs) :
    Calls Tryz.prog 28 #[v] w fun e w' => e = .returned (.tuple #[.int .i64 (D xs).1, .int .i64 (D xs).2]) ∧ Below w.heap.size w w' := by
  have HC := Lib.hid (goDecode_c w hT v xs h)
  have HD := Lib.hid (show D xs = if (G xs).1 = 65533 ∧ (G xs).2 < 3 then (0, 0) else G xs from rfl)
  have hg := G_le xs
  generalize G xs = g at *
  obtain ⟨r, n⟩ := g
  simp only at HC HD hg
  have hr : r ≤ 1114111 := hg.1
  have hn : n ≤ 4 := hg.2.1
  clear hT h hg
  by_cases h1 : r = 65533
  · have t1 : ((r : Int) == 65533) = true := by simp; omega
    by_cases h2 : n < 3
    · have HE := Lib.hid (show D xs = (0, 0) from by rw [HD.out, if_pos ⟨h1, h2⟩])
      clear h1
      go_enter Tryz.func28, Tryz.ntmps28
      go_wp2_with (go_at_call 56; refine HC.out.mono ?_; rintro e w' ⟨rfl, hb⟩; have HB := Lib.hid hb; clear hb)
      go_ret2
      exact ⟨by rw [HE.out]; rfl, HB.out⟩
    · have HE := Lib.hid (show D xs = (r, n) from by rw [HD.out, if_neg (by omega)])
      have h2' : 3 ≤ n := by omega
      clear h1 h2
      go_enter Tryz.func28, Tryz.ntmps28
      go_wp2_with (go_at_call 56; refine HC.out.mono ?_; rintro e w' ⟨rfl, hb⟩; have HB := Lib.hid hb; clear hb)
      go_ret2
      exact ⟨by rw [HE.out]; rfl, HB.out⟩
  · have t1 : ((r : Int) == 65533) = false := by simp; omega
    have HE := Lib.hid (show D xs = (r, n) from by rw [HD.out, if_neg (by omega)])
    clear h1
    go_enter Tryz.func28, Tryz.ntmps28
    go_wp2_with (go_at_call 56; refine HC.out.mono ?_; rintro e w' ⟨rfl, hb⟩; have HB := Lib.hid hb; clear hb)
    go_ret2
    exact ⟨by rw [HE.out]; rfl, HB.out⟩

theorem Rd.of_ownF {w : World} {base : Nat} {e : TypeId} {v : Value} {n : Nat} {xs : List UInt8} (h : w.ownsRowF base e 1 v n (bcells xs)) : Rd w v xs := by
  have hl := h.1
  rw [bcells_length, Nat.mul_one] at hl
  subst hl
  rcases h.2 with ⟨rfl, h0⟩ | ⟨g, cap, cur, fz, rfl, hbg, hg, hfz, hnc, hcm, hcs, htake⟩
  · have : xs = [] := List.eq_nil_of_length_eq_zero h0
    subst this
    exact Rd.nil w
  · refine ⟨_, cap, rfl, hnc, hcm, by simp, fun hp => ⟨g, 0, rfl, fun i hi => ?_⟩⟩
    have hi' : i < cur.size := by omega
    have e1 : cur[i]? = (bcells xs)[i]? := by
      rw [← htake, List.getElem?_take_of_lt (by omega), Array.getElem?_toList]
    simp only [World.cell?, hg, Nat.zero_add]
    simp [e1, bcells, hi]

/-- chars.Encode. -/
theorem encode_c (w : World) (r : Int) (hlo : -9223372036854775808 ≤ r) (hhi : r ≤ 9223372036854775807) :
    Calls Tryz.prog 162 #[.int .i64 r] w fun e w' => ∃ v, e = .returned v ∧ Rd w' v (E r) ∧ Below w.heap.size w w' := by
  by_cases h1 : r < 0
  · have HE := Lib.hid (show E r = [] from by unfold E; rw [if_pos (by omega)])
    go_enter Tryz.func162, Tryz.ntmps162
    go_wp2
    go_ret
    exact ⟨_, rfl, by rw [HE.out]; exact Rd.nil _, Below.refl _ _⟩
  · by_cases h2 : 1114111 < r
    · have HE := Lib.hid (show E r = [] from by unfold E; rw [if_pos (by omega)])
      go_enter Tryz.func162, Tryz.ntmps162
      go_wp2
      go_ret
      exact ⟨_, rfl, by rw [HE.out]; exact Rd.nil _, Below.refl _ _⟩
    · have h1' : 0 ≤ r := by omega
      have h2' : r ≤ 1114111 := by omega
      have hv := Tryz.utf8_ValidRune r w
      by_cases h3 : 55296 ≤ r ∧ r ≤ 57343
      · have HE := Lib.hid (show E r = [] from by unfold E; rw [if_pos (by omega)])
        rw [show Lib.validRune r = false from by simp [Lib.validRune]; omega] at hv
        have HV := Lib.hid hv
        clear h3 hv h1 h2 hlo hhi
        go_enter Tryz.func162, Tryz.ntmps162
        go_wp2_with (go_at_call 165; refine HV.out.mono ?_; rintro e w' ⟨rfl, rfl⟩)
        go_ret
        exact ⟨_, rfl, by rw [HE.out]; exact Rd.nil _, Below.refl _ _⟩
      · have HE := Lib.hid (runeCells_E r h1' h2' h3)
        rw [show Lib.validRune r = true from by simp [Lib.validRune]; omega] at hv
        have HV := Lib.hid hv
        have HA := Lib.hid (Tryz.utf8_AppendRune info8 w.heap.size (.slice none 0 0) 0 [] r (by omega) (by omega) w ⟨rfl, .inl ⟨rfl, rfl⟩⟩ (by omega) (Nat.le_refl _))
        clear h3 hv h1 h2 hlo hhi
        go_enter Tryz.func162, Tryz.ntmps162
        go_wp2_with (first
          | (go_at_call 165; refine HV.out.mono ?_; rintro e w' ⟨rfl, rfl⟩)
          | (go_at_call 166; refine HA.out.mono ?_; rintro e w' ⟨v, rfl, ho, o, hg⟩; have HO := Lib.hid ho; have HG := Lib.hid hg; clear ho hg))
        go_ret
        refine ⟨_, rfl, ?_, ((Below.refl _ _).alloc (Nat.le_refl _) o).grown HG.out (by simp) (by simp [Value.ownBlock])⟩
        have := HO.out
        rw [HE.out, List.nil_append] at this
        exact Rd.of_ownF this
end Go.Proofs.YtpcajjbdlfookaaGreatDoor
