/- The reference's Decode, whole; the law's awake. -/
import Derived.Test.YtpcajjbdlfookaaGreatDoorMw06
import Derived.Test.YtpcajjbdlfookaaGreatDoorMw05
import Derived.Lib.ValidLaws
import Derived.Lib.IndexMore
import Derived.Lib.IndexLaws
import Derived.Lib.Replace
namespace Go.Proofs.YtpcajjbdlfookaaGreatDoor
open Go.RowKit
set_option linter.unusedVariables false

theorem rdecode_c (w : World) (v : Value) (xs : List UInt8) (h : Rd w v xs) :
    Calls Tryz.prog 34 #[v] w fun e w' => e = .returned (.tuple #[.int .i64 (D xs).1, .int .i64 (D xs).2]) ∧ Below w.heap.size w w' := by
  have HR := Lib.hid h
  obtain ⟨p, c, rfl, h1, h2, h3, h4⟩ := h
  unfold maxLen at h2
  by_cases h0 : xs.length = 0
  · obtain rfl : xs = [] := List.eq_nil_of_length_eq_zero h0
    clear h3 h4
    go_enter Tryz.func34, Tryz.ntmps34
    go_wp2
    go_ret2
    exact ⟨rfl, Below.refl _ _⟩
  · obtain ⟨b, o, rfl, hx⟩ := h4 (by omega)
    have hl : 1 ≤ xs.length := by omega
    have hg : ∀ i, i < xs.length → w.cell? ⟨b, o + i, none⟩ = some (.int .u8 (at8 xs i)) := fun i hi => by rw [hx i hi]; simp [at8, List.getD, hi]
    have c0 : w.cell? ⟨b, o, none⟩ = some (.int .u8 (at8 xs 0)) := by have := hg 0 (by omega); simpa using this
    have hlt := at8_lt xs 0
    suffices hs : Calls Tryz.prog 34 #[.slice (some ⟨b, o, none⟩) xs.length c] w (Ends xs w) from hs.mono fun e w' h => h
    have c1 : 2 ≤ xs.length → w.cell? ⟨b, o + 1, none⟩ = some (.int .u8 (at8 xs 1)) := fun h => hg 1 (by omega)
    have c2 : 3 ≤ xs.length → w.cell? ⟨b, o + 1 + 1, none⟩ = some (.int .u8 (at8 xs 2)) := fun h => hg 2 (by omega)
    have c3 : 4 ≤ xs.length → w.cell? ⟨b, o + 1 + 2, none⟩ = some (.int .u8 (at8 xs 3)) := fun h => hg 3 (by omega)
    by_cases a1 : at8 xs 0 < 128
    · exact rd_one HR hl h1 h2 c0 (by omega) a1 (by omega)
    · by_cases a2 : at8 xs 0 < 192
      · exact rd_cont HR hl h1 h2 c0 (by omega) a2 (by omega)
      · by_cases a3 : at8 xs 0 < 224
        · by_cases s : xs.length < 2
          · exact rd_2_short HR hl h1 h2 c0 (by omega) a3 s
          · by_cases b1 : at8 xs 1 < 128 ∨ 192 ≤ at8 xs 1
            · exact rd_2_bad1 HR hl h1 h2 c0 (by omega) a3 (by omega) (c1 (by omega)) b1
            · by_cases q : 128 ≤ (at8 xs 0 - 192) * 64 + (at8 xs 1 - 128)
              · exact rd_2_yes HR hl h1 h2 c0 (by omega) a3 (by omega) (c1 (by omega)) (by omega) (by omega) q
              · exact rd_2_no HR hl h1 h2 c0 (by omega) a3 (by omega) (c1 (by omega)) (by omega) (by omega) q
        · by_cases a4 : at8 xs 0 < 240
          · by_cases s : xs.length < 3
            · exact rd_3_short HR hl h1 h2 c0 (by omega) a4 s
            · by_cases b1 : at8 xs 1 < 128 ∨ 192 ≤ at8 xs 1
              · exact rd_3_bad1 HR hl h1 h2 c0 (by omega) a4 (by omega) (c1 (by omega)) (c2 (by omega)) b1
              · by_cases b2 : at8 xs 2 < 128 ∨ 192 ≤ at8 xs 2
                · exact rd_3_bad2 HR hl h1 h2 c0 (by omega) a4 (by omega) (c1 (by omega)) (c2 (by omega)) (by omega) (by omega) b2
                · by_cases q : 2048 ≤ ((at8 xs 0 - 224) * 4096 + (at8 xs 1 - 128) * 64 + (at8 xs 2 - 128)) ∧ (((at8 xs 0 - 224) * 4096 + (at8 xs 1 - 128) * 64 + (at8 xs 2 - 128)) < 55296 ∨ 57344 ≤ ((at8 xs 0 - 224) * 4096 + (at8 xs 1 - 128) * 64 + (at8 xs 2 - 128)))
                  · exact rd_3_yes HR hl h1 h2 c0 (by omega) a4 (by omega) (c1 (by omega)) (c2 (by omega)) (by omega) (by omega) (by omega) (by omega) q
                  · exact rd_3_no HR hl h1 h2 c0 (by omega) a4 (by omega) (c1 (by omega)) (c2 (by omega)) (by omega) (by omega) (by omega) (by omega) q
          · by_cases s : xs.length < 4
            · exact rd_4_short HR hl h1 h2 c0 (by omega) hlt s
            · by_cases b1 : at8 xs 1 < 128 ∨ 192 ≤ at8 xs 1
              · exact rd_4_bad1 HR hl h1 h2 c0 (by omega) hlt (by omega) (c1 (by omega)) (c2 (by omega)) (c3 (by omega)) b1
              · by_cases b2 : at8 xs 2 < 128 ∨ 192 ≤ at8 xs 2
                · exact rd_4_bad2 HR hl h1 h2 c0 (by omega) hlt (by omega) (c1 (by omega)) (c2 (by omega)) (c3 (by omega)) (by omega) (by omega) b2
                · by_cases b3 : at8 xs 3 < 128 ∨ 192 ≤ at8 xs 3
                  · exact rd_4_bad3 HR hl h1 h2 c0 (by omega) hlt (by omega) (c1 (by omega)) (c2 (by omega)) (c3 (by omega)) (by omega) (by omega) (by omega) (by omega) b3
                  · by_cases q : 65536 ≤ ((at8 xs 0 - 240) * 262144 + (at8 xs 1 - 128) * 4096 + (at8 xs 2 - 128) * 64 + (at8 xs 3 - 128)) ∧ ((at8 xs 0 - 240) * 262144 + (at8 xs 1 - 128) * 4096 + (at8 xs 2 - 128) * 64 + (at8 xs 3 - 128)) ≤ 1114111
                    · exact rd_4_yes HR hl h1 h2 c0 (by omega) hlt (by omega) (c1 (by omega)) (c2 (by omega)) (c3 (by omega)) (by omega) (by omega) (by omega) (by omega) (by omega) (by omega) q
                    · exact rd_4_no HR hl h1 h2 c0 (by omega) hlt (by omega) (c1 (by omega)) (c2 (by omega)) (c3 (by omega)) (by omega) (by omega) (by omega) (by omega) (by omega) (by omega) q
end Go.Proofs.YtpcajjbdlfookaaGreatDoor

/- chars.Wrong, and the reference's. -/
namespace Go.Proofs.YtpcajjbdlfookaaGreatDoor
open Go.RowKit
set_option linter.unusedVariables false

theorem D_le (xs : List UInt8) : (D xs).1 ≤ 1114111 ∧ (D xs).2 ≤ 4 ∧ (D xs).2 ≤ xs.length := by
  have := G_le xs
  unfold D
  split
  · simp
  · exact this

theorem wrong_bad {f : Nat} {xs : List UInt8} {k : Nat} {T : Int} {r n : Nat} (hk : k < xs.length) (hf : xs.length - k < f) (hd : D (xs.drop k) = (r, n)) (h : n = 0 ∨ xmlB r = false) (hw : wrong f xs k = T) : T = k := by
  obtain ⟨g, rfl⟩ : ∃ g, f = g + 1 := ⟨f - 1, by omega⟩
  rw [← hw, wrong, if_pos hk, hd, if_pos h]
theorem wrong_step {f : Nat} {xs : List UInt8} {k : Nat} {T : Int} {r n : Nat} (hk : k < xs.length) (hf : xs.length - k < f) (hd : D (xs.drop k) = (r, n)) (h1 : n ≠ 0) (h2 : xmlB r = true) (hw : wrong f xs k = T) :
    ∃ g, xs.length - (k + n) < g ∧ wrong g xs (k + n) = T := by
  obtain ⟨g, rfl⟩ : ∃ g, f = g + 1 := ⟨f - 1, by omega⟩
  refine ⟨g, by omega, ?_⟩
  rw [← hw, wrong, if_pos hk, hd, if_neg (by simp [h1, h2])]
theorem wrong_end {f : Nat} {xs : List UInt8} {k : Nat} {T : Int} (hk : ¬ k < xs.length) (hw : wrong f xs k = T) : T = -1 := by
  cases f with
  | zero => exact hw.symm
  | succ g => rw [← hw, wrong, if_neg hk]

set_option maxRecDepth 100000 in
set_option maxHeartbeats 1000000 in
theorem wrong_c (w : World) (hT : Tabs w) (v : Value) (xs : List UInt8) (h : Rd w v xs) (hl : xs.length ≤ 140737488355328) : Calls Tryz.prog 16 #[v] w fun e w' => e = .returned (.int .i64 (wrong (xs.length + 1) xs 0)) ∧ Below w.heap.size w w' := by
  have HR := Lib.hid h
  have HT := Lib.hid hT
  clear hT
  obtain ⟨p, c, rfl, h1, h2, h3, h4⟩ := h
  clear h3 h4
  unfold maxLen at h2
  go_enter Tryz.func16, Tryz.ntmps16
  go_wp2_with fail
  go_loopw [3] (fun i wr => ∃ k f : Nat, k ≤ xs.length ∧ i = .int .i64 k ∧ xs.length - k < f ∧ wrong f xs k = wrong (xs.length + 1) xs 0 ∧ Below w.heap.size w wr) (fun i _ => xs.length - (intOf i).toNat)
  case atStart => exact ⟨0, xs.length + 1, by omega, rfl, by omega, rfl, Below.refl _ _⟩
  case round =>
    obtain ⟨k, f, hk, rfl, hf, hw, hb⟩ := hrel
    have HW := Lib.hid hw
    have HBr := Lib.hid hb
    have HF := Lib.hid hf
    clear hw hb hf
    by_cases hkl : k < xs.length
    · have hd := (HR.out.below (HBr.out.mono (Nat.le_refl _))).from k hk
      rw [if_neg (by omega)] at hd
      simp only [Nat.mul_one] at hd
      have HD := Lib.hid hd
      clear hd
      have hle := D_le (xs.drop k)
      rcases hdk : D (xs.drop k) with ⟨r, n⟩
      rw [hdk] at hle
      simp only [List.length_drop] at hle
      obtain ⟨hr, hn4, hnl⟩ := hle
      have HDK := Lib.hid hdk
      clear hdk
      go_wp2_with fail
      have HC := (decode_c _ ((HT.out.below HBr.out)) _ _ HD.out)
      rw [HDK.out] at HC
      simp only at HC
      refine HC.mono ?_
      rintro e w1 ⟨rfl, hb1⟩
      have H1 := Lib.hid (HBr.out.trans (hb1.mono HBr.out.size))
      clear HC hb1
      by_cases hn0 : n = 0
      · have HT2 := Lib.hid (wrong_bad hkl HF.out HDK.out (.inl hn0) HW.out)
        have t0 : ((n : Int) == 0) = true := by simp; omega
        clear hn0
        go_wp2_with fail
        go_ret
        exact ⟨by rw [HT2.out]; rfl, H1.out⟩
      · have t0 : ((n : Int) == 0) = false := by rw [beq_eq_false_iff_ne]; omega
        by_cases hx : xmlB r = true
        · have HS := Lib.hid (wrong_step hkl HF.out HDK.out hn0 hx HW.out)
          have hn1 : 1 ≤ n := by omega
          clear hn0
          go_wp2_with (go_at_call 29; refine (inXML_c _ _).mono ?_; rintro e w' ⟨rfl, rfl⟩)
          obtain ⟨g, hg1, hg2⟩ := HS.out
          go_roundw
          case rel => exact ⟨k + n, g, by omega, by go_num, hg1, hg2, H1.out⟩
          case measure => simp [intOf]; omega
        · have hx' : xmlB r = false := by simpa using hx
          have HT2 := Lib.hid (wrong_bad hkl HF.out HDK.out (.inr hx') HW.out)
          clear hx hn0
          go_wp2_with (go_at_call 29; refine (inXML_c _ _).mono ?_; rintro e w' ⟨rfl, rfl⟩)
          go_ret
          exact ⟨by rw [HT2.out]; rfl, H1.out⟩
    · have HT2 := Lib.hid (wrong_end hkl HW.out)
      go_wp2_with fail
      go_ret
      exact ⟨by rw [HT2.out]; rfl, HBr.out⟩

set_option maxRecDepth 100000 in
set_option maxHeartbeats 1000000 in
theorem rwrong_c (w : World) (v : Value) (xs : List UInt8) (h : Rd w v xs) (hl : xs.length ≤ 140737488355328) : Calls Tryz.prog 19 #[v] w fun e w' => e = .returned (.int .i64 (wrong (xs.length + 1) xs 0)) ∧ Below w.heap.size w w' := by
  have HR := Lib.hid h
  obtain ⟨p, c, rfl, h1, h2, h3, h4⟩ := h
  clear h3 h4
  unfold maxLen at h2
  go_enter Tryz.func19, Tryz.ntmps19
  go_wp2_with fail
  go_loopw [3] (fun i wr => ∃ k f : Nat, k ≤ xs.length ∧ i = .int .i64 k ∧ xs.length - k < f ∧ wrong f xs k = wrong (xs.length + 1) xs 0 ∧ Below w.heap.size w wr) (fun i _ => xs.length - (intOf i).toNat)
  case atStart => exact ⟨0, xs.length + 1, by omega, rfl, by omega, rfl, Below.refl _ _⟩
  case round =>
    obtain ⟨k, f, hk, rfl, hf, hw, hb⟩ := hrel
    have HW := Lib.hid hw
    have HBr := Lib.hid hb
    have HF := Lib.hid hf
    clear hw hb hf
    by_cases hkl : k < xs.length
    · have hd := (HR.out.below (HBr.out.mono (Nat.le_refl _))).from k hk
      rw [if_neg (by omega)] at hd
      simp only [Nat.mul_one] at hd
      have HD := Lib.hid hd
      clear hd
      have hle := D_le (xs.drop k)
      rcases hdk : D (xs.drop k) with ⟨r, n⟩
      rw [hdk] at hle
      simp only [List.length_drop] at hle
      obtain ⟨hr, hn4, hnl⟩ := hle
      have HDK := Lib.hid hdk
      clear hdk
      go_wp2_with fail
      have HC := (rdecode_c _ _ _ HD.out)
      rw [HDK.out] at HC
      simp only at HC
      refine HC.mono ?_
      rintro e w1 ⟨rfl, hb1⟩
      have H1 := Lib.hid (HBr.out.trans (hb1.mono HBr.out.size))
      clear HC hb1
      by_cases hn0 : n = 0
      · have HT2 := Lib.hid (wrong_bad hkl HF.out HDK.out (.inl hn0) HW.out)
        have t0 : ((n : Int) == 0) = true := by simp; omega
        clear hn0
        go_wp2_with fail
        go_ret
        exact ⟨by rw [HT2.out]; rfl, H1.out⟩
      · have t0 : ((n : Int) == 0) = false := by rw [beq_eq_false_iff_ne]; omega
        by_cases hx : xmlB r = true
        · have HS := Lib.hid (wrong_step hkl HF.out HDK.out hn0 hx HW.out)
          have hn1 : 1 ≤ n := by omega
          clear hn0
          go_wp2_with (go_at_call 35; refine (ofXML_c _ _).mono ?_; rintro e w' ⟨rfl, hb⟩; have HX := Lib.hid (H1.out.trans (hb.mono H1.out.size)); clear hb)
          obtain ⟨g, hg1, hg2⟩ := HS.out
          go_roundw
          case rel => exact ⟨k + n, g, by omega, by go_num, hg1, hg2, HX.out⟩
          case measure => simp [intOf]; omega
        · have hx' : xmlB r = false := by simpa using hx
          have HT2 := Lib.hid (wrong_bad hkl HF.out HDK.out (.inr hx') HW.out)
          clear hx hn0
          go_wp2_with (go_at_call 35; refine (ofXML_c _ _).mono ?_; rintro e w' ⟨rfl, hb⟩; have HX := Lib.hid (H1.out.trans (hb.mono H1.out.size)); clear hb)
          go_ret
          exact ⟨by rw [HT2.out]; rfl, HX.out⟩
    · have HT2 := Lib.hid (wrong_end hkl HW.out)
      go_wp2_with fail
      go_ret
      exact ⟨by rw [HT2.out]; rfl, HBr.out⟩

end Go.Proofs.YtpcajjbdlfookaaGreatDoor

/- chars: names, the plain side. -/
namespace Go.Proofs.YtpcajjbdlfookaaGreatDoor
open Go.RowKit Go.Lib
set_option linter.unusedVariables false

/-- How far the name at a beginning goes, from k on. -/
def later : Nat → List UInt8 → Nat → Nat
  | 0, _, k => k
  | f + 1, xs, k => if (D (xs.drop k)).2 = 0 ∨ laterB (D (xs.drop k)).1 = false then k else later f xs (k + (D (xs.drop k)).2)
def nameAt (xs : List UInt8) : Nat := if (D xs).2 = 0 ∨ firstB (D xs).1 = false then 0 else later (xs.length + 1) xs (D xs).2

/-- Whether the characters from k on are those of a name. -/
def goP : Nat → List UInt8 → Nat → Bool
  | 0, _, _ => true
  | f + 1, xs, k => if k < xs.length then (if (k = 0 ∧ firstB (decodeL (xs.drop k)).1 = false) ∨ laterB (decodeL (xs.drop k)).1 = false then false else goP f xs (k + (decodeL (xs.drop k)).2)) else true

theorem goP_bad {f : Nat} {xs : List UInt8} {k : Nat} {T : Bool} {r n : Nat} (hk : k < xs.length) (hf : xs.length - k < f) (hd : decodeL (xs.drop k) = (r, n)) (h : (k = 0 ∧ firstB r = false) ∨ laterB r = false) (hw : goP f xs k = T) : T = false := by
  obtain ⟨g, rfl⟩ : ∃ g, f = g + 1 := ⟨f - 1, by omega⟩
  rw [← hw, goP, if_pos hk, hd, if_pos h]
theorem goP_step {f : Nat} {xs : List UInt8} {k : Nat} {T : Bool} {r n : Nat} (hk : k < xs.length) (hf : xs.length - k < f) (hd : decodeL (xs.drop k) = (r, n)) (h : ¬ ((k = 0 ∧ firstB r = false) ∨ laterB r = false)) (hw : goP f xs k = T) :
    ∃ g, xs.length - (k + n) < g ∧ goP g xs (k + n) = T := by
  obtain ⟨g, rfl⟩ : ∃ g, f = g + 1 := ⟨f - 1, by omega⟩
  have := decodeL_width (xs.drop k)
  rw [hd] at this
  simp only at this
  refine ⟨g, by omega, ?_⟩
  rw [← hw, goP, if_pos hk, hd, if_neg h]
theorem goP_end {f : Nat} {xs : List UInt8} {k : Nat} {T : Bool} (hk : ¬ k < xs.length) (hw : goP f xs k = T) : T = true := by
  cases f with
  | zero => exact hw.symm
  | succ g => rw [← hw, goP, if_neg hk]

theorem goP_fuel : ∀ (f g : Nat) (xs : List UInt8) (k : Nat), xs.length - k < f → xs.length - k < g → goP f xs k = goP g xs k
  | 0, _, _, _, h, _ => by omega
  | _, 0, _, _, _, h => by omega
  | f + 1, g + 1, xs, k, h, h' => by
    rw [goP, goP]
    have := decodeL_width (xs.drop k)
    by_cases hk : k < xs.length
    · rw [if_pos hk, if_pos hk, goP_fuel f g xs (k + (decodeL (xs.drop k)).2) (by omega) (by omega)]
    · rw [if_neg hk, if_neg hk]

theorem later_stop {f : Nat} {xs : List UInt8} {k T r n : Nat} (hf : xs.length - k < f) (hd : D (xs.drop k) = (r, n)) (h : n = 0 ∨ laterB r = false) (hw : later f xs k = T) : T = k := by
  obtain ⟨g, rfl⟩ : ∃ g, f = g + 1 := ⟨f - 1, by omega⟩
  rw [← hw, later, hd, if_pos h]
theorem later_step {f : Nat} {xs : List UInt8} {k T r n : Nat} (hk : k ≤ xs.length) (hf : xs.length - k < f) (hd : D (xs.drop k) = (r, n)) (h1 : n ≠ 0) (h2 : laterB r = true) (hw : later f xs k = T) :
    k + n ≤ xs.length ∧ ∃ g, xs.length - (k + n) < g ∧ later g xs (k + n) = T := by
  obtain ⟨g, rfl⟩ : ∃ g, f = g + 1 := ⟨f - 1, by omega⟩
  have := (D_le (xs.drop k)).2.2
  rw [hd, List.length_drop] at this
  simp only at this
  refine ⟨by omega, g, by omega, ?_⟩
  rw [← hw, later, hd, if_neg (by simp [h1, h2])]

theorem decodeL_G (l : List UInt8) (h : l ≠ []) : decodeL l = G l := by
  have : l.length ≠ 0 := by simpa using h
  rw [decodeL_N, G, if_neg this]
  rfl

set_option maxHeartbeats 1000000 in
theorem decodeN_wide (n b0 b1 b2 b3 : Nat) (h : b0 < 256) (h1 : b1 < 256) (h2 : b2 < 256) (h3 : b3 < 256) (hr : (decodeN n b0 b1 b2 b3).1 = 65533) : (decodeN n b0 b1 b2 b3).2 = 1 ∨ (decodeN n b0 b1 b2 b3).2 = 3 := by
  revert hr
  unfold decodeN
  repeat' split
  all_goals
    intro hr
    dsimp only at hr ⊢
    omega

theorem D_dec (l : List UInt8) (h : l ≠ []) : D l = if (decodeL l).1 = 65533 ∧ (decodeL l).2 = 1 then (0, 0) else decodeL l := by
  have hG := decodeL_G l h
  have hl : l.length ≠ 0 := by simpa using h
  unfold D
  rw [hG]
  have hw : (G l).1 = 65533 → (G l).2 = 1 ∨ (G l).2 = 3 := by
    unfold G
    rw [if_neg hl]
    exact decodeN_wide _ _ _ _ _ (at8_lt _ _) (at8_lt _ _) (at8_lt _ _) (at8_lt _ _)
  by_cases h1 : (G l).1 = 65533 ∧ (G l).2 = 1
  · rw [if_pos h1, if_pos ⟨h1.1, by omega⟩]
  · rw [if_neg h1, if_neg (by intro hh; have := hw hh.1; omega)]

theorem first_later (r : Int) (h : firstB r = true) : laterB r = true := by unfold laterB; rw [h]; rfl

/-- Both ways to look at the rest of a name. -/
theorem later_go : ∀ (f : Nat) (xs : List UInt8) (k : Nat), 0 < k → k ≤ xs.length → xs.length - k < f → decide (later f xs k = xs.length) = (validD (xs.drop k) && goP f xs k)
  | 0, xs, k, _, _, hf => by omega
  | f + 1, xs, k, h0, hk, hf => by
    by_cases he : k = xs.length
    · have hd : xs.drop k = [] := by rw [he]; simp
      have hD : D [] = (0, 0) := by decide
      rw [later, goP, hd, hD, if_pos (.inl rfl), if_neg (by omega)]
      simp [he, validD_nil]
    · have hlt : k < xs.length := by omega
      have hne : xs.drop k ≠ [] := by
        intro hh
        have := congrArg List.length hh
        simp at this
        omega
      have hD := D_dec _ hne
      have hw := decodeL_width (xs.drop k)
      have hL := decodeL_le _ hne
      rw [List.length_drop] at hL
      rw [later, goP, if_pos hlt, validD_step _ hne, hD]
      by_cases hb : (decodeL (xs.drop k)).1 = 65533 ∧ (decodeL (xs.drop k)).2 = 1
      · rw [if_pos hb, if_pos hb, if_pos (.inl rfl)]
        simp [he]
      · rw [if_neg hb, if_neg hb]
        by_cases hl : laterB (decodeL (xs.drop k)).1 = false
        · rw [if_pos (.inr hl), if_pos (.inr hl)]
          simp [he]
        · rw [if_neg (by rintro (h | h) <;> first | omega | exact hl h), if_neg (by rintro (⟨h, _⟩ | h) <;> first | omega | exact hl h), List.drop_drop]
          exact later_go f xs _ (by omega) (by omega) (by omega)

def nameP (xs : List UInt8) : Bool := validD xs && goP (xs.length + 1) xs 0
theorem nameAt_eq (xs : List UInt8) (h : xs ≠ []) : decide (nameAt xs = xs.length) = nameP xs := by
  have hD := D_dec _ h
  have hw := decodeL_width xs
  have hL := decodeL_le _ h
  have hl : 0 < xs.length := List.length_pos_iff.2 h
  unfold nameAt nameP
  rw [goP, if_pos hl, List.drop_zero, validD_step _ h, hD]
  by_cases hb : (decodeL xs).1 = 65533 ∧ (decodeL xs).2 = 1
  · rw [if_pos hb, if_pos hb, if_pos (.inl rfl)]
    simp
    omega
  · rw [if_neg hb, if_neg hb]
    by_cases hf : firstB (decodeL xs).1 = false
    · rw [if_pos (.inr hf), if_pos (.inl ⟨rfl, hf⟩)]
      simp
      omega
    · have hf' : firstB (decodeL xs).1 = true := by simpa using hf
      have hl' := first_later _ hf'
      rw [if_neg (by rintro (h | h) <;> first | omega | exact hf h), if_neg (by rw [hf', hl']; simp), Nat.zero_add]
      rw [later_go _ _ _ (by omega) hL (by omega)]
      congr 1
      exact goP_fuel _ _ _ _ (by omega) (by omega)
end Go.Proofs.YtpcajjbdlfookaaGreatDoor

/- xmllex: the plain model: line ends, references, text resolved; both ways to look at it. -/
namespace Go.Proofs.YtpcajjbdlfookaaGreatDoor
open Go.RowKit
set_option linter.unusedVariables false

/-- A d, with an a behind it or not, is an a. -/
def lns : List UInt8 → List UInt8
  | [] => []
  | c :: r => if c = 13 then (if r.head? = some 10 then lns r else 10 :: lns r) else c :: lns r
/-- Blanks in values. -/
def tr (c : UInt8) : UInt8 := if c = 9 ∨ c = 10 then 32 else c
def pl (v : Bool) (xs : List UInt8) : List UInt8 := if v then (lns xs).map tr else lns xs
/-- The text of crlf made lf. -/
def crlf : List UInt8 → List UInt8
  | [] => []
  | c :: r => if c = 13 ∧ r.head? = some 10 then crlf r else c :: crlf r
def cr (c : UInt8) : UInt8 := if c = 13 then 10 else c

theorem lns_crlf : ∀ xs, lns xs = (crlf xs).map cr
  | [] => rfl
  | c :: r => by
    have ih := lns_crlf r
    rw [lns, crlf]
    by_cases h : c = 13
    · by_cases h2 : r.head? = some 10
      · rw [if_pos h, if_pos h2, if_pos ⟨h, h2⟩, ih]
      · rw [if_pos h, if_neg h2, if_neg (fun q => h2 q.2), List.map_cons, ih, cr, if_pos h]
    · rw [if_neg h, if_neg (fun q => h q.1), List.map_cons, ih, cr, if_neg h]
theorem lns_len : ∀ xs, (lns xs).length ≤ xs.length
  | [] => Nat.le_refl _
  | c :: r => by
    have ih := lns_len r
    rw [lns]
    split
    · split
      · simp; omega
      · simp; omega
    · simp; omega
theorem crlf_len : ∀ xs, (crlf xs).length ≤ xs.length
  | [] => Nat.le_refl _
  | c :: r => by
    have ih := crlf_len r
    rw [crlf]
    split <;> simp <;> omega
/-- Where no d with an a behind it stands. -/
theorem crlf_miss : ∀ xs, Lib.index xs [13, 10] = -1 → crlf xs = xs
  | [], _ => rfl
  | c :: r, h => by
    unfold Lib.index at h
    have hp : ¬ (c = 13 ∧ r.head? = some 10) := by
      rintro ⟨rfl, h2⟩
      obtain ⟨t, rfl⟩ : ∃ t, r = 10 :: t := by cases r with
        | nil => simp at h2
        | cons a t => simp at h2; exact ⟨t, by rw [h2]⟩
      simp [List.isPrefixOf] at h
    rw [crlf, if_neg hp]
    have hr : Lib.index r [13, 10] = -1 := by
      split at h
      · omega
      · split at h
        · rename_i h3; exact beq_iff_eq.1 h3
        · have := Lib.index_ge r [13, 10]; omega
    rw [crlf_miss r hr]
theorem crlf_hit : ∀ (xs : List UInt8) (i : Nat), Lib.index xs [13, 10] = i → crlf xs = xs.take i ++ 10 :: crlf (xs.drop (i + 2))
  | [], i, h => by
    unfold Lib.index at h
    simp at h
  | c :: r, i, h => by
    unfold Lib.index at h
    by_cases hp : ([13, 10] : List UInt8).isPrefixOf (c :: r) = true
    · rw [if_pos hp] at h
      obtain rfl : i = 0 := by omega
      cases r with
      | nil => simp [List.isPrefixOf] at hp
      | cons a t =>
        simp [List.isPrefixOf] at hp
        obtain ⟨rfl, rfl⟩ := hp
        rw [crlf, if_pos (by simp)]
        rw [crlf, if_neg (by simp)]
        rfl
    · rw [if_neg hp] at h
      have hq : ¬ (c = 13 ∧ r.head? = some 10) := by
        rintro ⟨rfl, h2⟩
        obtain ⟨t, rfl⟩ : ∃ t, r = 10 :: t := by cases r with
          | nil => simp at h2
          | cons a t => simp at h2; exact ⟨t, by rw [h2]⟩
        simp [List.isPrefixOf] at hp
      have hg := Lib.index_ge r [13, 10]
      split at h
      · omega
      · rename_i hne
        have hne' := mt beq_iff_eq.2 hne
        obtain ⟨j, rfl⟩ : ∃ j, i = j + 1 := ⟨i - 1, by omega⟩
        rw [crlf, if_neg hq, crlf_hit r j (by omega)]
        rfl
/-- One byte for another. -/
theorem cr_miss : ∀ xs, Lib.index xs [13] = -1 → xs.map cr = xs
  | [], _ => rfl
  | c :: r, h => by
    unfold Lib.index at h
    have hc : c ≠ 13 := by
      rintro rfl
      simp [List.isPrefixOf] at h
    have hr : Lib.index r [13] = -1 := by
      split at h
      · omega
      · split at h
        · rename_i h3; exact beq_iff_eq.1 h3
        · have := Lib.index_ge r [13]; omega
    rw [List.map_cons, cr, if_neg hc, cr_miss r hr]
theorem cr_hit : ∀ (xs : List UInt8) (i : Nat), Lib.index xs [13] = i → xs.map cr = xs.take i ++ 10 :: (xs.drop (i + 1)).map cr
  | [], i, h => by
    unfold Lib.index at h
    simp at h
  | c :: r, i, h => by
    unfold Lib.index at h
    by_cases hp : ([13] : List UInt8).isPrefixOf (c :: r) = true
    · rw [if_pos hp] at h
      obtain rfl : i = 0 := by omega
      simp [List.isPrefixOf] at hp
      subst hp
      rfl
    · rw [if_neg hp] at h
      have hc : c ≠ 13 := by
        rintro rfl
        simp [List.isPrefixOf] at hp
      have hg := Lib.index_ge r [13]
      split at h
      · omega
      · rename_i hne
        have hne' := mt beq_iff_eq.2 hne
        obtain ⟨j, rfl⟩ : ∃ j, i = j + 1 := ⟨i - 1, by omega⟩
        rw [List.map_cons, cr, if_neg hc, cr_hit r j (by omega)]
        rfl

/-- What bytes.Replace writes: so many instances. -/
theorem repl_crlf : ∀ (n : Nat) (xs : List UInt8), Lib.count xs [13, 10] = n → Lib.replaceK [13, 10] [10] n xs = crlf xs
  | 0, xs, h => by
    rw [crlf_miss]
    · rfl
    · rcases Lib.index_spec xs [13, 10] with h1 | ⟨i, h1, _⟩
      · exact h1.1
      · exfalso
        rw [Lib.count_hit (by simp) h1] at h
        omega
  | n + 1, xs, h => by
    rcases Lib.index_spec xs [13, 10] with h1 | ⟨i, h1, _⟩
    · rw [Lib.count_miss h1.1] at h
      omega
    · have hc := Lib.count_hit (by simp) h1
      rw [Lib.replaceK_hit _ _ _ _ i h1, crlf_hit xs i h1, repl_crlf n _ (by have e : ([13, 10] : List UInt8).length = 2 := rfl; omega)]
      simp
theorem repl_cr : ∀ (n : Nat) (xs : List UInt8), Lib.count xs [13] = n → Lib.replaceK [13] [10] n xs = xs.map cr
  | 0, xs, h => by
    rw [cr_miss]
    · rfl
    · rcases Lib.index_spec xs [13] with h1 | ⟨i, h1, _⟩
      · exact h1.1
      · exfalso
        rw [Lib.count_hit (by simp) h1] at h
        omega
  | n + 1, xs, h => by
    rcases Lib.index_spec xs [13] with h1 | ⟨i, h1, _⟩
    · rw [Lib.count_miss h1.1] at h
      omega
    · have hc := Lib.count_hit (by simp) h1
      rw [Lib.replaceK_hit _ _ _ _ i h1, cr_hit xs i h1, repl_cr n _ (by have e : ([13] : List UInt8).length = 1 := rfl; omega)]
      simp

/-- A digit's value in a base. -/
def dgt (base : Nat) (c : UInt8) : Option Nat :=
  let n := if 48 ≤ c.toNat ∧ c.toNat ≤ 57 then c.toNat - 48 else if 97 ≤ c.toNat ∧ c.toNat ≤ 102 then c.toNat - 87 else if 65 ≤ c.toNat ∧ c.toNat ≤ 70 then c.toNat - 55 else 99
  if n < base then some n else none
/-- The number of digits, at most so great. -/
def numB (base top : Nat) : Nat → List UInt8 → Option Nat
  | n, [] => some n
  | n, c :: r => match dgt base c with
    | none => none
    | some k => if top < n * base + k then none else numB base top (n * base + k) r
/-- The character that is named by number: its number. -/
def chNum (base : Nat) (r : List UInt8) : Option Nat :=
  if r = [] then none else match numB base 4294967295 0 r with
    | none => none
    | some n => if xmlB n then some n else none
/-- The character of a reference's body. -/
def refB (s : List UInt8) : Option Nat :=
  if s = [108, 116] then some 60 else if s = [103, 116] then some 62 else if s = [97, 109, 112] then some 38 else if s = [97, 112, 111, 115] then some 39 else if s = [113, 117, 111, 116] then some 34
  else if Lib.hasPrefix s [35, 120] then chNum 16 (s.drop 2) else if Lib.hasPrefix s [35] then chNum 10 (s.drop 1) else none
/-- The reference at a beginning: its character, and how many bytes it has. -/
def refA (r : List UInt8) : Option (Nat × Nat) :=
  if Lib.index r [59] < 0 then none else (refB ((r.drop 1).take ((Lib.index r [59]).toNat - 1))).map fun c => (c, (Lib.index r [59]).toNat + 1)
/-- How far it is to the next reference. -/
def upto (r : List UInt8) : Nat := if Lib.index r [38] < 0 then r.length else (Lib.index r [38]).toNat
/-- Text with its references resolved, from so far on; else where the wrong one stands. -/
def rsF : Nat → Bool → List UInt8 → Nat → List UInt8 → Except Nat (List UInt8)
  | 0, _, _, _, out => .ok out
  | f + 1, v, r, a, out => if r = [] then .ok out else if r.head? = some 38 then (match refA r with
      | none => .error a
      | some (c, n) => rsF f v (r.drop n) (a + n) (out ++ E c))
    else rsF f v (r.drop (upto r)) (a + upto r) (out ++ pl v (r.take (upto r)))
end Go.Proofs.YtpcajjbdlfookaaGreatDoor
