/- The plain side of the reference's Decode: where it ends it says what D says. -/
import Derived.Test.YtpcajjbdlfookaaGreatDoorMw03
import Derived.Deep.RegionWith
import Derived.RegionTactic
import Derived.BigRegion
namespace Go.Proofs.YtpcajjbdlfookaaGreatDoor
open Go.Lib

theorem D_nil : D [] = (0, 0) := rfl

theorem u8_eq (x : UInt8) (z : Int) (h : z = x.toNat) : u8 z = x := by
  subst h
  simp [u8]

theorem D_of (xs : List UInt8) (h : xs.length ≠ 0) : D xs = (if (decodeN xs.length (at8 xs 0) (at8 xs 1) (at8 xs 2) (at8 xs 3)).1 = 65533 ∧ (decodeN xs.length (at8 xs 0) (at8 xs 1) (at8 xs 2) (at8 xs 3)).2 < 3 then (0, 0) else decodeN xs.length (at8 xs 0) (at8 xs 1) (at8 xs 2) (at8 xs 3)) := by
  unfold D G
  rw [if_neg h]

/-- decodeN where it fails. -/
theorem D_bad (xs : List UInt8) (h : xs.length ≠ 0) (hd : decodeN xs.length (at8 xs 0) (at8 xs 1) (at8 xs 2) (at8 xs 3) = (65533, 1)) : D xs = (0, 0) := by
  rw [D_of xs h, hd]
  rfl
theorem D_good (xs : List UInt8) (h : xs.length ≠ 0) (r n : Nat) (hd : decodeN xs.length (at8 xs 0) (at8 xs 1) (at8 xs 2) (at8 xs 3) = (r, n)) (hg : r ≠ 65533 ∨ 3 ≤ n) : D xs = (r, n) := by
  rw [D_of xs h, hd, if_neg (by simp only; omega)]

/-- One byte. -/
theorem D_one (xs : List UInt8) (h : xs.length ≠ 0) (h0 : at8 xs 0 < 128) : D xs = (at8 xs 0, 1) := by
  apply D_good xs h
  · unfold decodeN
    rw [if_pos h0]
  · omega
/-- A byte that begins nothing. -/
theorem D_cont (xs : List UInt8) (h : xs.length ≠ 0) (h0 : 128 ≤ at8 xs 0) (h1 : at8 xs 0 < 192) : D xs = (0, 0) := by
  apply D_bad xs h
  unfold decodeN
  rw [if_neg (by omega), if_neg (by omega), if_neg (by omega), if_neg (by omega)]

theorem D_two_bad (xs : List UInt8) (h : xs.length ≠ 0) (h0 : 192 ≤ at8 xs 0) (h1 : at8 xs 0 < 224) (hb : xs.length < 2 ∨ at8 xs 1 < 128 ∨ 192 ≤ at8 xs 1) : D xs = (0, 0) := by
  have := at8_lt xs 1
  apply D_bad xs h
  unfold decodeN
  rw [if_neg (by omega), if_neg (by omega), if_neg (by omega), if_neg (by omega)]

theorem D_two (xs : List UInt8) (h : 2 ≤ xs.length) (h0 : 192 ≤ at8 xs 0) (h1 : at8 xs 0 < 224) (h2 : 128 ≤ at8 xs 1) (h3 : at8 xs 1 < 192) :
    D xs = if 128 ≤ (at8 xs 0 - 192) * 64 + (at8 xs 1 - 128) then ((at8 xs 0 - 192) * 64 + (at8 xs 1 - 128), 2) else (0, 0) := by
  have e : at8 xs 0 % 32 * 64 + at8 xs 1 % 64 = (at8 xs 0 - 192) * 64 + (at8 xs 1 - 128) := by omega
  split
  · rename_i hr
    apply D_good xs (by omega)
    · unfold decodeN
      rw [if_neg (by omega), if_pos (by omega), e, if_pos hr]
    · omega
  · rename_i hr
    apply D_bad xs (by omega)
    unfold decodeN
    rw [if_neg (by omega), if_pos (by omega), e, if_neg hr]

theorem D_three_bad (xs : List UInt8) (h : xs.length ≠ 0) (h0 : 224 ≤ at8 xs 0) (h1 : at8 xs 0 < 240) (hb : xs.length < 3 ∨ (at8 xs 1 < 128 ∨ 192 ≤ at8 xs 1) ∨ at8 xs 2 < 128 ∨ 192 ≤ at8 xs 2) : D xs = (0, 0) := by
  have := at8_lt xs 1
  have := at8_lt xs 2
  apply D_bad xs h
  unfold decodeN
  rw [if_neg (by omega), if_neg (by omega), if_neg (by omega), if_neg (by omega)]

theorem D_three (xs : List UInt8) (h : 3 ≤ xs.length) (h0 : 224 ≤ at8 xs 0) (h1 : at8 xs 0 < 240) (h2 : 128 ≤ at8 xs 1) (h3 : at8 xs 1 < 192) (h4 : 128 ≤ at8 xs 2) (h5 : at8 xs 2 < 192) (r : Nat)
    (hr : r = (at8 xs 0 - 224) * 4096 + (at8 xs 1 - 128) * 64 + (at8 xs 2 - 128)) :
    D xs = if 2048 ≤ r ∧ (r < 55296 ∨ 57344 ≤ r) then (r, 3) else (0, 0) := by
  have e : at8 xs 0 % 16 * 4096 + at8 xs 1 % 64 * 64 + at8 xs 2 % 64 = r := by omega
  split
  · rename_i hr
    apply D_good xs (by omega)
    · unfold decodeN
      rw [if_neg (by omega), if_neg (by omega), if_pos (by omega), e, if_pos (by omega)]
    · omega
  · rename_i hr
    apply D_bad xs (by omega)
    unfold decodeN
    rw [if_neg (by omega), if_neg (by omega), if_pos (by omega), e, if_neg (by omega)]

theorem D_four_bad (xs : List UInt8) (h : xs.length ≠ 0) (h0 : 240 ≤ at8 xs 0) (hb : xs.length < 4 ∨ (at8 xs 1 < 128 ∨ 192 ≤ at8 xs 1) ∨ (at8 xs 2 < 128 ∨ 192 ≤ at8 xs 2) ∨ at8 xs 3 < 128 ∨ 192 ≤ at8 xs 3) : D xs = (0, 0) := by
  have := at8_lt xs 1
  have := at8_lt xs 2
  have := at8_lt xs 3
  apply D_bad xs h
  unfold decodeN
  rw [if_neg (by omega), if_neg (by omega), if_neg (by omega), if_neg (by omega)]

theorem D_four (xs : List UInt8) (h : 4 ≤ xs.length) (h0 : 240 ≤ at8 xs 0) (h2 : 128 ≤ at8 xs 1) (h3 : at8 xs 1 < 192) (h4 : 128 ≤ at8 xs 2) (h5 : at8 xs 2 < 192) (h6 : 128 ≤ at8 xs 3) (h7 : at8 xs 3 < 192) (r : Nat)
    (hr : r = (at8 xs 0 - 240) * 262144 + (at8 xs 1 - 128) * 4096 + (at8 xs 2 - 128) * 64 + (at8 xs 3 - 128)) :
    D xs = if 65536 ≤ r ∧ r ≤ 1114111 then (r, 4) else (0, 0) := by
  have h1 := at8_lt xs 0
  by_cases h8 : at8 xs 0 < 248
  · have e : at8 xs 0 % 8 * 262144 + at8 xs 1 % 64 * 4096 + at8 xs 2 % 64 * 64 + at8 xs 3 % 64 = r := by omega
    split
    · rename_i hr
      apply D_good xs (by omega)
      · unfold decodeN
        rw [if_neg (by omega), if_neg (by omega), if_neg (by omega), if_pos (by omega), e, if_pos (by omega)]
      · omega
    · rename_i hr
      apply D_bad xs (by omega)
      unfold decodeN
      rw [if_neg (by omega), if_neg (by omega), if_neg (by omega), if_pos (by omega), e, if_neg (by omega)]
  · rw [if_neg (by omega)]
    apply D_bad xs (by omega)
    unfold decodeN
    rw [if_neg (by omega), if_neg (by omega), if_neg (by omega), if_neg (by omega)]

theorem at8_cons (x : UInt8) (xs : List UInt8) : at8 (x :: xs) 0 = x.toNat := rfl
theorem at8_succ (x : UInt8) (xs : List UInt8) (i : Nat) : at8 (x :: xs) (i + 1) = at8 xs i := by simp [at8]

/-- Whether the character's bytes are those: two. -/
theorem E_two (x0 x1 : UInt8) (r : Int) (h1 : 192 ≤ x0.toNat) (h2 : x0.toNat < 224) (h3 : 128 ≤ x1.toNat) (h4 : x1.toNat < 192) (hr : r = ((x0.toNat - 192) * 64 + (x1.toNat - 128) : Nat)) : (E r = [x0, x1]) ↔ 128 ≤ r := by
  unfold E
  rw [if_neg (by omega)]
  by_cases h : r < 128
  · rw [if_pos h]
    simp
    omega
  · rw [if_neg h, if_pos (by omega), u8_eq x0 _ (by omega), u8_eq x1 _ (by omega)]
    simp
    omega

theorem E_three (x0 x1 x2 : UInt8) (r : Int) (h1 : 224 ≤ x0.toNat) (h2 : x0.toNat < 240) (h3 : 128 ≤ x1.toNat) (h4 : x1.toNat < 192) (h5 : 128 ≤ x2.toNat) (h6 : x2.toNat < 192)
    (hr : r = ((x0.toNat - 224) * 4096 + (x1.toNat - 128) * 64 + (x2.toNat - 128) : Nat)) : (E r = [x0, x1, x2]) ↔ (2048 ≤ r ∧ (r < 55296 ∨ 57344 ≤ r)) := by
  unfold E
  by_cases hs : 55296 ≤ r ∧ r ≤ 57343
  · rw [if_pos (by omega)]
    simp
    omega
  · rw [if_neg (by omega)]
    by_cases h : r < 128
    · rw [if_pos h]
      simp
      omega
    · rw [if_neg h]
      by_cases h' : r < 2048
      · rw [if_pos h']
        simp
        omega
      · rw [if_neg h', if_pos (by omega), u8_eq x0 _ (by omega), u8_eq x1 _ (by omega), u8_eq x2 _ (by omega)]
        simp
        omega

theorem E_four (x0 x1 x2 x3 : UInt8) (r : Int) (h1 : 240 ≤ x0.toNat) (h3 : 128 ≤ x1.toNat) (h4 : x1.toNat < 192) (h5 : 128 ≤ x2.toNat) (h6 : x2.toNat < 192) (h7 : 128 ≤ x3.toNat) (h8 : x3.toNat < 192)
    (hr : r = ((x0.toNat - 240) * 262144 + (x1.toNat - 128) * 4096 + (x2.toNat - 128) * 64 + (x3.toNat - 128) : Nat)) : (E r = [x0, x1, x2, x3]) ↔ (65536 ≤ r ∧ r ≤ 1114111) := by
  unfold E
  by_cases hs : 1114111 < r ∨ (55296 ≤ r ∧ r ≤ 57343)
  · rw [if_pos (by omega)]
    simp
    omega
  · rw [if_neg (by omega)]
    by_cases h : r < 128
    · rw [if_pos h]
      simp
      omega
    · rw [if_neg h]
      by_cases h' : r < 2048
      · rw [if_pos h']
        simp
        omega
      · rw [if_neg h']
        by_cases h'' : r < 65536
        · rw [if_pos h'']
          simp
          omega
        · rw [if_neg h'', u8_eq x0 _ (by omega), u8_eq x1 _ (by omega), u8_eq x2 _ (by omega), u8_eq x3 _ (by omega)]
          simp
          omega
end Go.Proofs.YtpcajjbdlfookaaGreatDoor

/- The law's awake. -/
namespace Go.Proofs.YtpcajjbdlfookaaGreatDoor
open Go.RowKit
set_option linter.unusedVariables false

theorem D_awake : D [195, 169, 1] = (233, 2) := by decide

end Go.Proofs.YtpcajjbdlfookaaGreatDoor

/- chars: the classes of characters, and the reference's. -/
namespace Go.Proofs.YtpcajjbdlfookaaGreatDoor
open Go.RowKit
set_option linter.unusedVariables false

def btw (r lo hi : Int) : Bool := decide (lo ≤ r) && decide (r ≤ hi)

theorem between_c (w : World) (r lo hi : Int) : Calls Tryz.prog 58 #[.int .i64 r, .int .i64 lo, .int .i64 hi] w fun e w' => e = .returned (.bool (btw r lo hi)) ∧ w = w' := by
  by_cases h : lo ≤ r
  · have HE := Lib.hid (show btw r lo hi = decide (r ≤ hi) from by unfold btw; simp [h])
    go_enter Tryz.func58, Tryz.ntmps58
    go_wp2
    go_ret
    exact ⟨by rw [HE.out]; rfl, rfl⟩
  · have HE := Lib.hid (show btw r lo hi = false from by unfold btw; simp [h])
    go_enter Tryz.func58, Tryz.ntmps58
    go_wp2
    go_ret
    exact ⟨by rw [HE.out]; rfl, rfl⟩

def spaceB (r : Int) : Bool := r == 9 || r == 10 || r == 13 || r == 32

theorem space_c (w : World) (r : Int) : Calls Tryz.prog 57 #[.int .i64 r] w fun e w' => e = .returned (.bool (spaceB r)) ∧ w = w' := by
  have hs : spaceB r = (r == 9 || r == 10 || r == 13 || r == 32) := rfl
  have HS := Lib.hid hs
  clear hs
  go_enter Tryz.func57, Tryz.ntmps57
  go_wp2
  all_goals go_ret
  all_goals exact ⟨by rw [HS.out]; simp [*], rfl⟩

def xmlB (r : Int) : Bool := spaceB r || btw r 32 55295 || btw r 57344 65533 || btw r 65536 1114111

theorem inXML_c (w : World) (r : Int) : Calls Tryz.prog 29 #[.int .i64 r] w fun e w' => e = .returned (.bool (xmlB r)) ∧ w = w' := by
  have HS := Lib.hid (show xmlB r = (spaceB r || btw r 32 55295 || btw r 57344 65533 || btw r 65536 1114111) from rfl)
  go_enter Tryz.func29, Tryz.ntmps29
  go_wp2_with (first
    | (go_at_call 57; refine (space_c _ _).mono ?_; rintro e w' ⟨rfl, rfl⟩)
    | (go_at_call 58; refine (between_c _ _ _ _).mono ?_; rintro e w' ⟨rfl, rfl⟩))
  all_goals go_ret
  all_goals exact ⟨by rw [HS.out]; simp [*], rfl⟩

/-- Whether a number is in one of some ranges. -/
def inR (r : Int) : List Int → Bool
  | a :: b :: t => btw r a b || inR r t
  | _ => false

theorem within_c (w : World) (r : Int) (zs : List Int) (b n : Nat) (hn : n = zs.length) (hs : zs.length ≤ 1000) (hc : ∀ i (h : i < zs.length), w.cell? ⟨b, i, none⟩ = some (.int .i64 zs[i])) :
    Calls Tryz.prog 64 #[.int .i64 r, .slice (some ⟨b, 0, none⟩) n n] w fun e w' => e = .returned (.bool (inR r zs)) ∧ w = w' := by
  subst hn
  have HC := Lib.hid hc
  clear hc
  go_enter Tryz.func64, Tryz.ntmps64
  go_wp2_with fail
  go_loop [5] (fun i => ∃ k : Nat, k ≤ zs.length ∧ i = .int .i64 k ∧ inR r (zs.drop k) = inR r zs) (fun i => zs.length - (intOf i).toNat)
  case atStart => exact ⟨0, by omega, rfl, rfl⟩
  case round =>
    obtain ⟨k, hk, rfl, hi⟩ := hrel
    have HI := Lib.hid hi
    clear hi
    by_cases hlt : k + 1 < zs.length
    · have hc0 := HC.out k (by omega)
      have hc1 := HC.out (k + 1) hlt
      have HD := Lib.hid (show zs.drop k = zs[k] :: zs[k + 1] :: zs.drop (k + 2) from by rw [List.drop_eq_getElem_cons (by omega), List.drop_eq_getElem_cons hlt])
      generalize zs[k] = z0 at *
      generalize zs[k + 1] = z1 at *
      by_cases h : btw r z0 z1 = true
      · have HE := Lib.hid (show inR r zs = true from by rw [← HI.out, HD.out, inR, h]; rfl)
        have h' : z0 ≤ r ∧ r ≤ z1 := by simpa [btw] using h
        obtain ⟨h1, h2⟩ := h'
        clear h
        go_wp2_with fail
        go_ret
        exact ⟨by rw [HE.out]; rfl, rfl⟩
      · have HE := Lib.hid (show inR r (zs.drop (k + 2)) = inR r zs from by rw [← HI.out, HD.out, inR, Bool.not_eq_true] at *; simp [h])
        have h' : r < z0 ∨ z1 < r := by simp [btw] at h; omega
        clear h
        rcases h' with h' | h'
        all_goals
          go_wp2_with fail
          all_goals
            refine ⟨⟨k + 2, by omega, by go_num, HE.out⟩, by simp [intOf]; omega⟩
    · have HE := Lib.hid (show inR r zs = false from by
        rw [← HI.out]
        have hl : (zs.drop k).length ≤ 1 := by simp; omega
        match zs.drop k, hl with
        | [], _ => rfl
        | [_], _ => rfl)
      go_wp2_with fail
      go_ret
      exact ⟨by rw [HE.out]; rfl, rfl⟩

theorem cells_made (w : World) (cs : Array Value) (T : TypeId) (zs : List Int) (h : cs.toList = zs.map (Value.int .i64)) :
    ∀ i (hi : i < zs.length), (w.alloc (.cells cs T)).cell? ⟨w.heap.size, i, none⟩ = some (.int .i64 zs[i]) := by
  intro i hi
  have hc : cs[i]? = some (.int .i64 zs[i]) := by
    rw [← Array.getElem?_toList, h]
    simp [hi]
  simp only [World.cell?, heap_alloc_new]
  simp [hc]

def xmlL : List Int := [9, 10, 13, 13, 32, 55295, 57344, 65533, 65536, 1114111]
theorem xmlL_eq (r : Int) : inR r xmlL = xmlB r := by
  unfold xmlL xmlB spaceB
  simp only [inR, btw]
  rw [Bool.eq_iff_iff]
  simp
  omega

theorem ofXML_c (w : World) (r : Int) : Calls Tryz.prog 35 #[.int .i64 r] w fun e w' => e = .returned (.bool (xmlB r)) ∧ Below w.heap.size w w' := by
  go_enter Tryz.func35, Tryz.ntmps35
  go_wp2_with fail
  refine (within_c _ r xmlL _ _ rfl (by simp [xmlL]) (cells_made w _ _ xmlL rfl)).mono ?_
  rintro e w' ⟨rfl, rfl⟩
  rw [xmlL_eq]
  go_wp2
  go_ret
  exact ⟨rfl, (Below.refl _ _).alloc (Nat.le_refl _) _⟩

/-- Where the first byte stands that begins no character of XML. -/
def wrong : Nat → List UInt8 → Nat → Int
  | 0, _, _ => -1
  | f + 1, xs, k => if k < xs.length then (if (D (xs.drop k)).2 = 0 ∨ xmlB (D (xs.drop k)).1 = false then (k : Int) else wrong f xs (k + (D (xs.drop k)).2)) else -1
end Go.Proofs.YtpcajjbdlfookaaGreatDoor

/- chars: the classes of name characters, and the reference's. -/
namespace Go.Proofs.YtpcajjbdlfookaaGreatDoor
open Go.RowKit
set_option linter.unusedVariables false

theorem rspace_c (w : World) (r : Int) : Calls Tryz.prog 38 #[.int .i64 r] w fun e w' => e = .returned (.bool (spaceB r)) ∧ w = w' := by
  have hs : spaceB r = (r == 9 || r == 10 || r == 13 || r == 32) := rfl
  have HS := Lib.hid hs
  clear hs
  go_enter Tryz.func38, Tryz.ntmps38
  go_wp2
  all_goals go_ret
  all_goals exact ⟨by rw [HS.out]; simp [*], rfl⟩

def firstB (r : Int) : Bool := btw r 65 90 || r == 95 || btw r 97 122 || btw r 192 214 || btw r 216 246 || btw r 248 767 || btw r 880 893 || btw r 895 8191 || btw r 8204 8205 || btw r 8304 8591 || btw r 11264 12271 || btw r 12289 55295 || btw r 63744 64975 || btw r 65008 65533 || btw r 65536 983039

def laterB (r : Int) : Bool := firstB r || r == 45 || r == 46 || btw r 48 57 || r == 183 || btw r 768 879 || btw r 8255 8256

set_option maxRecDepth 100000 in
theorem first_c (w : World) (r : Int) : Calls Tryz.prog 77 #[.int .i64 r] w fun e w' => e = .returned (.bool (firstB r)) ∧ w = w' := by
  have HS := Lib.hid (show firstB r = (btw r 65 90 || r == 95 || btw r 97 122 || btw r 192 214 || btw r 216 246 || btw r 248 767 || btw r 880 893 || btw r 895 8191 || btw r 8204 8205 || btw r 8304 8591 || btw r 11264 12271 || btw r 12289 55295 || btw r 63744 64975 || btw r 65008 65533 || btw r 65536 983039) from rfl)
  go_enter Tryz.func77, Tryz.ntmps77
  go_wp2_with ((go_at_call 58; refine (between_c _ _ _ _).mono ?_; rintro e w' ⟨rfl, rfl⟩))
  all_goals go_ret
  all_goals exact ⟨by rw [HS.out]; simp [*], rfl⟩

set_option maxRecDepth 100000 in
theorem later_c (w : World) (r : Int) : Calls Tryz.prog 78 #[.int .i64 r] w fun e w' => e = .returned (.bool (laterB r)) ∧ w = w' := by
  have HS := Lib.hid (show laterB r = (firstB r || r == 45 || r == 46 || btw r 48 57 || r == 183 || btw r 768 879 || btw r 8255 8256) from rfl)
  go_enter Tryz.func78, Tryz.ntmps78
  go_wp2_with (first
    | (go_at_call 77; refine (first_c _ _).mono ?_; rintro e w' ⟨rfl, rfl⟩)
    | (go_at_call 58; refine (between_c _ _ _ _).mono ?_; rintro e w' ⟨rfl, rfl⟩))
  all_goals go_ret
  all_goals exact ⟨by rw [HS.out]; simp [*], rfl⟩

def firstL : List Int := [65, 90, 95, 95, 97, 122, 192, 214, 216, 246, 248, 767, 880, 893, 895, 8191, 8204, 8205, 8304, 8591, 11264, 12271, 12289, 55295, 63744, 64975, 65008, 65533, 65536, 983039]
theorem one_eq (r a : Int) : btw r a a = (r == a) := by
  unfold btw
  rw [Bool.eq_iff_iff]
  simp
  omega
theorem firstL_eq (r : Int) : inR r firstL = firstB r := by
  unfold firstL firstB
  simp only [inR, one_eq, Bool.or_false, Bool.or_assoc]

def laterL : List Int := [45, 46, 48, 57, 183, 183, 768, 879, 8255, 8256]
theorem two_eq (r : Int) : btw r 45 46 = (r == 45 || r == 46) := by
  unfold btw
  rw [Bool.eq_iff_iff]
  simp
  omega
theorem laterL_eq (r : Int) : (firstB r || inR r laterL) = laterB r := by
  unfold laterL laterB
  simp only [inR, one_eq, two_eq, Bool.or_false, Bool.or_assoc]

set_option maxRecDepth 100000 in
theorem rfirst_c (w : World) (r : Int) : Calls Tryz.prog 95 #[.int .i64 r] w fun e w' => e = .returned (.bool (firstB r)) ∧ Below w.heap.size w w' := by
  go_enter Tryz.func95, Tryz.ntmps95
  go_wp2_with fail
  refine (within_c _ r firstL _ _ rfl (by simp [firstL]) (cells_made w _ _ firstL rfl)).mono ?_
  rintro e w' ⟨rfl, rfl⟩
  rw [firstL_eq]
  go_wp2
  go_ret
  exact ⟨rfl, (Below.refl _ _).alloc (Nat.le_refl _) _⟩

set_option maxRecDepth 100000 in
theorem rlater_c (w : World) (r : Int) : Calls Tryz.prog 96 #[.int .i64 r] w fun e w' => e = .returned (.bool (laterB r)) ∧ Below w.heap.size w w' := by
  have HE := Lib.hid (laterL_eq r)
  go_enter Tryz.func96, Tryz.ntmps96
  go_wp2_with fail
  refine (rfirst_c _ r).mono ?_
  rintro e w1 ⟨rfl, hb⟩
  have H1 := Lib.hid hb
  clear hb
  by_cases hf : firstB r = true
  · have HF := Lib.hid (show laterB r = true from by unfold laterB; rw [hf]; rfl)
    rw [hf]
    clear hf
    go_wp2_with fail
    go_ret
    exact ⟨by rw [HF.out]; rfl, H1.out⟩
  · have hf' : firstB r = false := by simpa using hf
    have HF := Lib.hid (show inR r laterL = laterB r from by rw [← HE.out, hf']; rfl)
    rw [hf']
    clear hf hf'
    go_wp2_with fail
    refine (within_c _ r laterL _ _ rfl (by simp [laterL]) (cells_made w1 _ _ laterL rfl)).mono ?_
    rintro e w' ⟨rfl, rfl⟩
    rw [HF.out]
    go_wp2
    go_ret
    exact ⟨rfl, H1.out.alloc (H1.out.size) _⟩
end Go.Proofs.YtpcajjbdlfookaaGreatDoor

/- The reference's Encode and Decode. -/
namespace Go.Proofs.YtpcajjbdlfookaaGreatDoor
open Go.RowKit
set_option linter.unusedVariables false

theorem rd_lit (w : World) (cs : Array Value) (T : TypeId) (xs ys : List UInt8) (n : Nat) (hE : ys = xs) (h : cs.toList = bcells xs) (hn : xs.length = n) (hm : xs.length ≤ 10) :
    Rd (w.alloc (.cells cs T)) (.slice (some ⟨w.heap.size, 0, none⟩) n n) ys := by
  subst hE; subst hn
  exact rd_made w cs T ys h (by unfold maxLen; omega)

theorem rencode_c (w : World) (r : Int) (hlo : -9223372036854775808 ≤ r) (hhi : r ≤ 9223372036854775807) :
    Calls Tryz.prog 63 #[.int .i64 r] w fun e w' => ∃ v, e = .returned v ∧ Rd w' v (E r) ∧ Below w.heap.size w w' := by
  by_cases h1 : r < 0 ∨ 1114111 < r ∨ (55296 ≤ r ∧ r ≤ 57343)
  · have HE := Lib.hid (show E r = [] from by unfold E; rw [if_pos h1])
    by_cases a : r < 0
    · clear h1
      go_enter Tryz.func63, Tryz.ntmps63
      go_wp2
      go_ret
      exact ⟨_, rfl, by rw [HE.out]; exact Rd.nil _, Below.refl _ _⟩
    · by_cases b : 1114111 < r
      · clear h1
        go_enter Tryz.func63, Tryz.ntmps63
        go_wp2
        go_ret
        exact ⟨_, rfl, by rw [HE.out]; exact Rd.nil _, Below.refl _ _⟩
      · have c : 55296 ≤ r := by omega
        have d : r ≤ 57343 := by omega
        clear h1
        go_enter Tryz.func63, Tryz.ntmps63
        go_wp2
        go_ret
        exact ⟨_, rfl, by rw [HE.out]; exact Rd.nil _, Below.refl _ _⟩
  · have h0 : 0 ≤ r := by omega
    have h2 : r ≤ 1114111 := by omega
    by_cases a : r < 128
    · have HE := Lib.hid (show E r = [u8 r] from by unfold E; rw [if_neg h1, if_pos a])
      clear h1
      go_enter Tryz.func63, Tryz.ntmps63
      go_wp2
      go_ret
      exact ⟨_, rfl, rd_lit _ _ _ _ _ _ HE.out (by simp only [bcells, List.map_cons, List.map_nil]; rw [u8_toNat _ (by omega) (by omega)]) rfl (by simp), (Below.refl _ _).alloc (Nat.le_refl _) _⟩
    · by_cases b : r < 2048
      · have HE := Lib.hid (show E r = [u8 (192 + r / 64), u8 (128 + r % 64)] from by unfold E; rw [if_neg h1, if_neg a, if_pos b])
        clear h1
        go_enter Tryz.func63, Tryz.ntmps63
        go_wp2
        go_ret
        exact ⟨_, rfl, rd_lit _ _ _ _ _ _ HE.out (by simp only [bcells, List.map_cons, List.map_nil]; rw [u8_toNat _ (by omega) (by omega), u8_toNat _ (by omega) (by omega)]) rfl (by simp), (Below.refl _ _).alloc (Nat.le_refl _) _⟩
      · by_cases c : r < 65536
        · have HE := Lib.hid (show E r = [u8 (224 + r / 4096), u8 (128 + r / 64 % 64), u8 (128 + r % 64)] from by unfold E; rw [if_neg h1, if_neg a, if_neg b, if_pos c])
          have hs : r < 55296 ∨ 57343 < r := by omega
          clear h1
          rcases hs with hs | hs
          all_goals
            go_enter Tryz.func63, Tryz.ntmps63
            go_wp2
            go_ret
            exact ⟨_, rfl, rd_lit _ _ _ _ _ _ HE.out (by simp only [bcells, List.map_cons, List.map_nil]; rw [u8_toNat _ (by omega) (by omega), u8_toNat _ (by omega) (by omega), u8_toNat _ (by omega) (by omega)]) rfl (by simp), (Below.refl _ _).alloc (Nat.le_refl _) _⟩
        · have HE := Lib.hid (show E r = [u8 (240 + r / 262144), u8 (128 + r / 4096 % 64), u8 (128 + r / 64 % 64), u8 (128 + r % 64)] from by unfold E; rw [if_neg h1, if_neg a, if_neg b, if_neg c])
          clear h1
          go_enter Tryz.func63, Tryz.ntmps63
          go_wp2
          go_ret
          exact ⟨_, rfl, rd_lit _ _ _ _ _ _ HE.out (by simp only [bcells, List.map_cons, List.map_nil]; rw [u8_toNat _ (by omega) (by omega), u8_toNat _ (by omega) (by omega), u8_toNat _ (by omega) (by omega), u8_toNat _ (by omega) (by omega)]) rfl (by simp), (Below.refl _ _).alloc (Nat.le_refl _) _⟩

end Go.Proofs.YtpcajjbdlfookaaGreatDoor
