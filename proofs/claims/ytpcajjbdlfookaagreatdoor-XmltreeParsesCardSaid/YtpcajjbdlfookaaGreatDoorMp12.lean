/- chars.Name: the walk; the reference's NameAt. -/
import Derived.Test.YtpcajjbdlfookaaGreatDoorNa
import Derived.Test.YtpcajjbdlfookaaGreatDoorMp11
import Derived.Laws.RangeString
import Derived.Laws.RangeAny
import Derived.Test.YtpcajjbdlfookaaGreatDoorMp09
import Derived.Test.YtpcajjbdlfookaaGreatDoorCv
import Derived.Test.YtpcajjbdlfookaaGreatDoorMp01
namespace Go.Proofs.YtpcajjbdlfookaaGreatDoor
open Go.RowKit Go.Lib
set_option linter.unusedVariables false

def nameB (xs : List UInt8) : Bool := !xs.isEmpty && nameP xs

set_option maxRecDepth 100000 in
set_option maxHeartbeats 1000000 in
theorem name_c (w : World) (hT : Tabs w) (s : ByteArray) (hl : s.size ≤ 140737488355328) : Calls Tryz.prog 48 #[.string s] w fun e w' => e = .returned (.bool (nameB s.data.toList)) ∧ Below w.heap.size w w' := by
  have HT := Lib.hid hT
  clear hT
  have HSZ := Lib.hid (show s.data.toList.length = s.size from Array.length_toList)
  by_cases he : s.toList.isEmpty = true
  · have HE := Lib.hid (show nameB s.data.toList = false from by
      have : s.data.toList.isEmpty = true := by rw [← ByteArray.toList_eq]; exact he
      unfold nameB; rw [this]; rfl)
    go_enter Tryz.func48, Tryz.ntmps48
    go_wp2_with fail
    go_ret
    exact ⟨by rw [HE.out]; rfl, Below.refl _ _⟩
  · have he' : s.toList.isEmpty = false := by simpa using he
    have HE := Lib.hid (show nameB s.data.toList = (validD s.data.toList && goP (s.data.toList.length + 1) s.data.toList 0) from by
      have : s.data.toList.isEmpty = false := by rw [← ByteArray.toList_eq]; exact he'
      unfold nameB; rw [this]; rfl)
    clear he
    go_enter Tryz.func48, Tryz.ntmps48
    go_wp2_with fail
    refine (Tryz.utf8_ValidString s _ (by omega) HT.out).mono ?_
    rintro e w1 ⟨rfl, hb⟩
    have H1 := Lib.hid hb
    clear hb
    by_cases hv : validD s.data.toList = true
    · rw [hv]
      have HE2 := Lib.hid (show nameB s.data.toList = goP (s.data.toList.length + 1) s.data.toList 0 from by rw [HE.out, hv]; rfl)
      clear hv
      go_wp2_with fail
      go_loopw [3] (fun i wr => ∃ k f : Nat, k ≤ s.data.toList.length ∧ wr = w1.iter s k ∧ s.data.toList.length - k < f ∧ goP f s.data.toList k = goP (s.data.toList.length + 1) s.data.toList 0) (fun _ wr => s.size - wr.iterPos w1.heap.size)
      case atStart => exact ⟨0, s.data.toList.length + 1, by omega, rfl, by omega, rfl⟩
      case round =>
        obtain ⟨k, f, hk, rfl, hf, hw⟩ := hrel
        have HW := Lib.hid hw
        have HF := Lib.hid hf
        clear hw hf
        by_cases hkl : k < s.size
        · have hkx : k < s.data.toList.length := by rw [HSZ.out]; exact hkl
          have HKX := Lib.hid hkx
          have hne : s.data.toList.drop k ≠ [] := by
            intro hh
            have := congrArg List.length hh
            simp only [List.length_drop, List.length_nil] at this
            omega
          have hwd := decodeL_width (s.data.toList.drop k)
          have hru := decodeL_rune (s.data.toList.drop k)
          have hwl := decodeL_le _ hne
          have hnx : ∀ ty, (Instr.next (.pointer (some ⟨w1.heap.size, 0, none⟩)) true ty).run Tryz.prog (w1.iter s k) = _ := fun ty => run_next_any w1 s k ty hkl
          have hdl := decodeL_drop s k
          rw [hdl] at hru hwl hwd
          rw [List.length_drop, HSZ.out] at hwl
          rcases hdk : Utf8.decode s k with ⟨r, n⟩
          rw [hdk] at hnx hwd hru hwl hdl
          simp only at hnx hwd hru hwl
          have HDL := Lib.hid hdl
          clear hdl hdk hne hk hkx
          by_cases hk0 : k < 1
          · have t0 : ((k : Int) == 0) = true := by rw [beq_iff_eq]; omega
            by_cases hf : firstB r = true
            · have hl' := first_later _ hf
              have HS := Lib.hid (goP_step HKX.out HF.out HDL.out (by rw [hf, hl']; simp) HW.out)
              go_wp2_with (first
                | (go_at_call 77; refine (first_c _ _).mono ?_; rintro e w' ⟨rfl, rfl⟩)
                | (go_at_call 78; refine (later_c _ _).mono ?_; rintro e w' ⟨rfl, rfl⟩))
              obtain ⟨g, hg1, hg2⟩ := HS.out
              go_roundw
              case rel => exact ⟨k + n, g, by rw [HSZ.out]; omega, rfl, hg1, hg2⟩
              case measure => simp; omega
            · have hf' : firstB r = false := by simpa using hf
              have HG := Lib.hid (goP_bad HKX.out HF.out HDL.out (.inl ⟨by omega, hf'⟩) HW.out)
              clear hf
              go_wp2_with (first
                | (go_at_call 77; refine (first_c _ _).mono ?_; rintro e w' ⟨rfl, rfl⟩)
                | (go_at_call 78; refine (later_c _ _).mono ?_; rintro e w' ⟨rfl, rfl⟩))
              go_ret
              exact ⟨by rw [HE2.out, HG.out]; rfl, H1.out.alloc H1.out.size _⟩
          · have t0 : ((k : Int) == 0) = false := by rw [beq_eq_false_iff_ne]; omega
            by_cases hf : laterB r = true
            · have HS := Lib.hid (goP_step HKX.out HF.out HDL.out (by rw [hf]; simp; omega) HW.out)
              go_wp2_with (go_at_call 78; refine (later_c _ _).mono ?_; rintro e w' ⟨rfl, rfl⟩)
              obtain ⟨g, hg1, hg2⟩ := HS.out
              go_roundw
              case rel => exact ⟨k + n, g, by rw [HSZ.out]; omega, rfl, hg1, hg2⟩
              case measure => simp; omega
            · have hf' : laterB r = false := by simpa using hf
              have HG := Lib.hid (goP_bad HKX.out HF.out HDL.out (.inr hf') HW.out)
              clear hf
              go_wp2_with (go_at_call 78; refine (later_c _ _).mono ?_; rintro e w' ⟨rfl, rfl⟩)
              go_ret
              exact ⟨by rw [HE2.out, HG.out]; rfl, H1.out.alloc H1.out.size _⟩
        · have HG := Lib.hid (goP_end (by rw [HSZ.out]; exact hkl) HW.out)
          have hnx : ∀ ty, (Instr.next (.pointer (some ⟨w1.heap.size, 0, none⟩)) true ty).run Tryz.prog (w1.iter s k) = _ := fun ty => run_next_end w1 s k ty hkl
          go_wp2_with fail
          go_ret
          exact ⟨by rw [HE2.out, HG.out]; rfl, H1.out.alloc H1.out.size _⟩
    · have hv' : validD s.data.toList = false := by simpa using hv
      rw [hv']
      have HE2 := Lib.hid (show nameB s.data.toList = false from by rw [HE.out, hv']; rfl)
      clear hv hv'
      go_wp2_with fail
      go_ret
      exact ⟨by rw [HE2.out]; rfl, H1.out⟩
end Go.Proofs.YtpcajjbdlfookaaGreatDoor

/- The reference's NameAt. -/
namespace Go.Proofs.YtpcajjbdlfookaaGreatDoor
open Go.RowKit Go.Lib
set_option linter.unusedVariables false

set_option maxRecDepth 100000 in
set_option maxHeartbeats 1000000 in
theorem nameAt_c (w : World) (v : Value) (xs : List UInt8) (h : Rd w v xs) (hl : xs.length ≤ 140737488355328) : Calls Tryz.prog 67 #[v] w fun e w' => e = .returned (.int .i64 (nameAt xs)) ∧ Below w.heap.size w w' := by
  have HR := Lib.hid h
  have hle := D_le xs
  rcases hd : D xs with ⟨r, n⟩
  rw [hd] at hle
  simp only at hle
  obtain ⟨hr, hn4, hnl⟩ := hle
  have HD := Lib.hid hd
  clear hd
  have HC := rdecode_c w v xs h
  rw [HD.out] at HC
  simp only at HC
  have HCC := Lib.hid HC
  clear HC
  obtain ⟨p, c, rfl, h1, h2, h3, h4⟩ := h
  clear h3 h4
  unfold maxLen at h2
  go_enter Tryz.func67, Tryz.ntmps67
  go_wp2_with fail
  refine HCC.out.mono ?_
  rintro e w1 ⟨rfl, hb1⟩
  have H1 := Lib.hid hb1
  clear hb1 HCC
  by_cases hn0 : n = 0
  · have HN := Lib.hid (show nameAt xs = 0 from by unfold nameAt; rw [HD.out, if_pos (.inl hn0)])
    have t0 : ((n : Int) == 0) = true := by simp; omega
    clear hn0
    go_wp2_with fail
    go_ret
    exact ⟨by rw [HN.out]; rfl, H1.out⟩
  · have t0 : ((n : Int) == 0) = false := by rw [beq_eq_false_iff_ne]; omega
    by_cases hf : firstB r = true
    · have HN := Lib.hid (show nameAt xs = later (xs.length + 1) xs n from by unfold nameAt; rw [HD.out, if_neg (by simp [hn0, hf])])
      clear hn0
      go_wp2_with (go_at_call 95; refine (rfirst_c _ _).mono ?_; rintro e w' ⟨rfl, hb⟩; have HX := Lib.hid (H1.out.trans (hb.mono H1.out.size)); clear hb; rw [hf])
      have HNN := Lib.hid hnl
      clear hf t0 hnl
      go_loopw [4] (fun i wr => ∃ k f : Nat, k ≤ xs.length ∧ i = .int .i64 k ∧ xs.length - k < f ∧ later f xs k = later (xs.length + 1) xs n ∧ Below w.heap.size w wr) (fun i _ => xs.length - (RowKit.intOf i).toNat)
      case atStart => exact ⟨n, xs.length + 1, HNN.out, rfl, by omega, rfl, HX.out⟩
      case round =>
        obtain ⟨k, f, hk, rfl, hf, hw, hb⟩ := hrel
        have HW := Lib.hid hw
        have HBr := Lib.hid hb
        have HF := Lib.hid hf
        clear hw hb hf
        have hd := (HR.out.below (HBr.out.mono (Nat.le_refl _))).from k hk
        simp only [Nat.mul_one] at hd
        have hle := D_le (xs.drop k)
        rcases hdk : D (xs.drop k) with ⟨r', n'⟩
        rw [hdk] at hle
        simp only [List.length_drop] at hle
        obtain ⟨hr', hn4', hnl'⟩ := hle
        have HDK := Lib.hid hdk
        clear hdk
        by_cases hck : c ≤ k
        · rw [if_pos (by omega), show c - k = 0 from by omega] at hd
          have hn0' : n' = 0 := by omega
          have HDs := Lib.hid hd
          clear hd
          go_wp2_with fail
          have HC := (rdecode_c _ _ _ HDs.out)
          rw [HDK.out] at HC
          simp only at HC
          refine HC.mono ?_
          rintro e w2 ⟨rfl, hb1⟩
          have H2 := Lib.hid (HBr.out.trans (hb1.mono HBr.out.size))
          clear HC hb1
          have HT2 := Lib.hid (later_stop HF.out HDK.out (.inl hn0') HW.out)
          have t0 : ((n' : Int) == 0) = true := by rw [beq_iff_eq]; omega
          clear hn0'
          go_wp2_with fail
          go_ret
          exact ⟨by rw [HN.out, HT2.out]; rfl, H2.out⟩
        · rw [if_neg (by omega)] at hd
          have HDs := Lib.hid hd
          clear hd
          go_wp2_with fail
          have HC := (rdecode_c _ _ _ HDs.out)
          rw [HDK.out] at HC
          simp only at HC
          refine HC.mono ?_
          rintro e w2 ⟨rfl, hb1⟩
          have H2 := Lib.hid (HBr.out.trans (hb1.mono HBr.out.size))
          clear HC hb1
          by_cases hn0' : n' = 0
          · skip
            have HT2 := Lib.hid (later_stop HF.out HDK.out (.inl hn0') HW.out)
            have t0 : ((n' : Int) == 0) = true := by rw [beq_iff_eq]; omega
            clear hn0'
            go_wp2_with fail
            go_ret
            exact ⟨by rw [HN.out, HT2.out]; rfl, H2.out⟩
          · have t0 : ((n' : Int) == 0) = false := by rw [beq_eq_false_iff_ne]; omega
            by_cases hx : laterB r' = true
            · have HS := Lib.hid (later_step hk HF.out HDK.out hn0' hx HW.out)
              have hn1 : 1 ≤ n' := by omega
              clear hn0'
              go_wp2_with (go_at_call 96; refine (rlater_c _ _).mono ?_; rintro e w' ⟨rfl, hb⟩; have HX3 := Lib.hid (H2.out.trans (hb.mono H2.out.size)); clear hb)
              obtain ⟨hkn, g, hg1, hg2⟩ := HS.out
              go_roundw
              case rel => exact ⟨k + n', g, hkn, by go_num, hg1, hg2, HX3.out⟩
              case measure => simp [RowKit.intOf]; omega
            · have hx' : laterB r' = false := by simpa using hx
              have HT2 := Lib.hid (later_stop HF.out HDK.out (.inr hx') HW.out)
              clear hx hn0'
              go_wp2_with (go_at_call 96; refine (rlater_c _ _).mono ?_; rintro e w' ⟨rfl, hb⟩; have HX3 := Lib.hid (H2.out.trans (hb.mono H2.out.size)); clear hb)
              go_ret
              exact ⟨by rw [HN.out, HT2.out]; rfl, HX3.out⟩
    · have hf' : firstB r = false := by simpa using hf
      have HN := Lib.hid (show nameAt xs = 0 from by unfold nameAt; rw [HD.out, if_pos (.inr hf')])
      clear hf hn0
      go_wp2_with (go_at_call 95; refine (rfirst_c _ _).mono ?_; rintro e w' ⟨rfl, hb⟩; have HX := Lib.hid (H1.out.trans (hb.mono H1.out.size)); clear hb; rw [hf'])
      go_ret
      exact ⟨by rw [HN.out]; rfl, HX.out⟩
end Go.Proofs.YtpcajjbdlfookaaGreatDoor

/- The reference's Name. -/
namespace Go.Proofs.YtpcajjbdlfookaaGreatDoor
open Go.RowKit Go.Lib
set_option linter.unusedVariables false

/-- What '[]byte(s)' hands back. -/
theorem rd_bytes (w : World) (s : ByteArray) (T : TypeId) (g : Nat) (z : Nat × Nat) (h1 : s.size ≤ g) (h2 : g ≤ maxLen) :
    Rd (w.alloc (.cells (bytesRow s g) T z)) (.slice (some ⟨w.heap.size, 0, none⟩) s.size g) s.data.toList := by
  have hl : s.data.toList.length = s.size := Array.length_toList
  refine ⟨_, g, by rw [hl], by omega, h2, by simp, fun hp => ⟨w.heap.size, 0, rfl, fun i hi => ?_⟩⟩
  have hj : i < s.data.size := by rw [hl] at hi; exact hi
  have hc := bytesRow_at s g i hj
  simp only [World.cell?, heap_alloc_new, Nat.zero_add]
  simp [hc]

set_option maxRecDepth 100000 in
set_option maxHeartbeats 1000000 in
theorem rnameN_c (w : World) (s : ByteArray) (hl : s.size ≤ 140737488355328) : Calls Tryz.prog 53 #[.string s] w fun e w' => e = .returned (.bool (nameB s.data.toList)) ∧ Below w.heap.size w w' := by
  have hsz : s.data.toList.length = s.size := Array.length_toList
  have HSZ := Lib.hid hsz
  clear hsz
  by_cases h0 : s.size < 1
  · have HE := Lib.hid (show nameB s.data.toList = false from by
      have : s.data.toList = [] := List.eq_nil_of_length_eq_zero (by rw [HSZ.out]; omega)
      unfold nameB; rw [this]; rfl)
    go_enter Tryz.func53, Tryz.ntmps53
    go_wp2_with fail
    go_ret
    exact ⟨by rw [HE.out]; rfl, Below.refl _ _⟩
  · have hne : s.data.toList ≠ [] := by
      intro hh
      have := congrArg List.length hh
      rw [HSZ.out] at this
      simp only [List.length_nil] at this
      omega
    have HE := Lib.hid (show nameB s.data.toList = decide (nameAt s.data.toList = s.size) from by
      have h1 := nameAt_eq _ hne
      rw [HSZ.out] at h1
      rw [h1]
      unfold nameB
      rw [show s.data.toList.isEmpty = false from by rw [← Bool.not_eq_true, List.isEmpty_iff]; exact hne]
      rfl)
    clear hne
    have hcv := run_bytes_of_string (P := Tryz.prog) w 9 22 5 s (by kernel_rfl) (by kernel_rfl) (by kernel_rfl)
    have hg1 := grownCap_ge w s.size 0 5
    have hg2 := grownCap_le_maxLen w s.size 0 5 (by unfold maxLen; omega)
    generalize grownCap w s.size 0 5 = g at hcv hg1 hg2
    have HRD := Lib.hid (rd_bytes w.drew s 5 g ((bytesRow s g).size, (bytesRow s g).size + 1) hg1 hg2)
    have HB := Lib.hid (show Below w.heap.size w (w.drew.alloc (.cells (bytesRow s g) 5 ((bytesRow s g).size, (bytesRow s g).size + 1))) from ((Below.refl _ _).drew).alloc (Nat.le_refl _) _)
    clear hg1 hg2
    by_cases hq : nameAt s.data.toList = s.size
    · have HQ := Lib.hid (show nameB s.data.toList = true from by rw [HE.out]; simp [hq])
      have tq : ((nameAt s.data.toList : Int) == (s.size : Int)) = true := by rw [beq_iff_eq]; omega
      clear hq
      go_enter Tryz.func53, Tryz.ntmps53
      go_wp2_with fail
      refine (nameAt_c _ _ _ HRD.out (by rw [HSZ.out]; exact hl)).mono ?_
      rintro e w1 ⟨rfl, hb1⟩
      have H1 := Lib.hid (HB.out.trans (hb1.mono HB.out.size))
      clear hb1
      go_wp2_with fail
      go_ret
      exact ⟨by rw [HQ.out]; rfl, H1.out⟩
    · have HQ := Lib.hid (show nameB s.data.toList = false from by rw [HE.out]; simp [hq])
      have tq : ((nameAt s.data.toList : Int) == (s.size : Int)) = false := by rw [beq_eq_false_iff_ne]; omega
      clear hq
      go_enter Tryz.func53, Tryz.ntmps53
      go_wp2_with fail
      refine (nameAt_c _ _ _ HRD.out (by rw [HSZ.out]; exact hl)).mono ?_
      rintro e w1 ⟨rfl, hb1⟩
      have H1 := Lib.hid (HB.out.trans (hb1.mono HB.out.size))
      clear hb1
      go_wp2_with fail
      go_ret
      exact ⟨by rw [HQ.out]; rfl, H1.out⟩
end Go.Proofs.YtpcajjbdlfookaaGreatDoor

/- xmltree: whether an element can be written: the model; clean and blank, both sides. -/
namespace Go.Proofs.YtpcajjbdlfookaaGreatDoor
open Go Go.RowKit Go.Deep
set_option linter.unusedVariables false
set_option linter.unusedSimpArgs false

/-- Characters of XML only. -/
def cleanB (s : ByteArray) : Bool := decide (wrong (s.data.toList.length + 1) s.data.toList 0 < 0)
def blankB (s : ByteArray) : Bool := s.data.toList.all fun x => spaceB (x.toNat : Int)
abbrev nsN : List UInt8 := [104, 116, 116, 112, 58, 47, 47, 119, 119, 119, 46, 119, 51, 46, 111, 114, 103, 47, 50, 48, 48, 48, 47, 120, 109, 108, 110, 115, 47]
abbrev nsX : List UInt8 := [104, 116, 116, 112, 58, 47, 47, 119, 119, 119, 46, 119, 51, 46, 111, 114, 103, 47, 88, 77, 76, 47, 49, 57, 57, 56, 47, 110, 97, 109, 101, 115, 112, 97, 99, 101]
abbrev nsA : List UInt8 := [120, 109, 108, 110, 115]
/-- An attribute that may be written, but for others. -/
def attrB (a : PT) : Bool := !(a.1.toList.isEmpty && (a.2.1.toList == nsA)) && nameB a.2.1.data.toList && cleanB a.1 && cleanB a.2.2 && !(a.1.toList == nsN)
def keysL (l : List PT) : List (ByteArray × ByteArray) := l.map fun a => (a.1, a.2.1)
/-- An element that may be written, so deep. -/
def canK : Nat → ET → Bool
  | 0, _ => false
  | d + 1, t => decide (t.kids.length ≤ 100) && decide (t.attrs.length ≤ 100) && nameB t.name.data.toList && cleanB t.space && cleanB t.text && !(t.space.toList == nsX) && !(t.space.toList == nsN) &&
      !(decide (0 < t.kids.length) && !t.text.toList.isEmpty && blankB t.text) && t.attrs.all attrB && decide ((keysL t.attrs).Nodup) && t.kids.all (canK d)
theorem size_data (s : ByteArray) : s.data.toList.length = s.size := Array.length_toList
theorem data_at {s : ByteArray} {k : Nat} (h : k < s.size) : s.data.toList[k]'(by rw [size_data]; exact h) = s[k] := by simp; rfl
theorem blank_next {s : ByteArray} {k : Nat} (h : k < s.size) (ht : (s.data.toList.take k).all (fun x => spaceB (x.toNat : Int)) = true) (hb : spaceB (s[k].toNat : Int) = true) : (s.data.toList.take (k + 1)).all (fun x => spaceB (x.toNat : Int)) = true := by
  have hl : k < s.data.toList.length := by rw [size_data]; exact h
  rw [List.take_succ_eq_append_getElem hl, List.all_append, ht, List.all_cons, List.all_nil, Bool.and_true, Bool.true_and, data_at h]
  exact hb
theorem blank_bad {s : ByteArray} {k : Nat} (h : k < s.size) (hb : spaceB (s[k].toNat : Int) = false) : blankB s = false := by
  have hl : k < s.data.toList.length := by rw [size_data]; exact h
  unfold blankB
  rw [← Bool.not_eq_true, List.all_eq_true]
  intro hall
  have := hall _ (List.getElem_mem hl)
  rw [data_at h, hb] at this
  cases this
theorem blank_end {s : ByteArray} {k : Nat} (h : ¬ k < s.size) (ht : (s.data.toList.take k).all (fun x => spaceB (x.toNat : Int)) = true) : blankB s = true := by
  rwa [List.take_of_length_le (by rw [size_data]; omega)] at ht

set_option maxRecDepth 100000 in
set_option maxHeartbeats 1000000 in
theorem blank_c (w : World) (s : ByteArray) (hs : s.size ≤ 140737488355328) : Calls Tryz.prog 32 #[.string s] w fun e w' => e = .returned (.bool (blankB s)) ∧ w = w' := by
  go_enter Tryz.func32, Tryz.ntmps32
  go_wp2_with fail
  go_loopw [6] (fun i wr => ∃ k : Nat, k ≤ s.size ∧ i = .int .i64 k ∧ wr = w ∧ Hid ((s.data.toList.take k).all (fun x => spaceB (x.toNat : Int)) = true)) (fun i _ => s.size - (intOf i).toNat)
  case atStart => exact ⟨0, by omega, rfl, rfl, Lib.hid (by simp)⟩
  case round =>
    obtain ⟨k, hk, rfl, rfl, HAL⟩ := hrel
    by_cases hlt : k < s.size
    · have HN := Lib.hid (fun hb => blank_next hlt HAL.out hb)
      have HX := Lib.hid (fun hb => blank_bad hlt hb)
      obtain ⟨x, hx⟩ : ∃ x, s[k]'hlt = x := ⟨_, rfl⟩
      rw [hx] at HN HX
      go_wp2_with fail
      refine (space_c wr _).mono ?_
      rintro e w1 ⟨rfl, rfl⟩
      obtain ⟨q, hq⟩ : ∃ q, spaceB (x.toNat : Int) = q := ⟨_, rfl⟩
      rw [show wrap64 (x.toNat : Int) = (x.toNat : Int) from by have := x.toNat_lt; unfold wrap64; omega]
      rw [hq] at HN HX ⊢
      cases q
      · have HE := Lib.hid (HX.out rfl)
        go_wp2_with fail
        go_ret
        exact ⟨by rw [HE.out]; rfl, by first | trivial | rfl⟩
      · have HE := Lib.hid (HN.out rfl)
        go_wp2_with fail
        go_roundw
        case rel => exact ⟨k + 1, by omega, by go_num, by first | trivial | rfl, HE⟩
        case measure => simp [intOf]; omega
    · have HE := Lib.hid (blank_end hlt HAL.out)
      go_wp2_with fail
      go_ret
      exact ⟨by rw [HE.out]; rfl, by first | trivial | rfl⟩
set_option maxRecDepth 100000 in
set_option maxHeartbeats 1000000 in
theorem rblank_c (w : World) (s : ByteArray) (hs : s.size ≤ 140737488355328) : Calls Tryz.prog 21 #[.string s] w fun e w' => e = .returned (.bool (blankB s)) ∧ w = w' := by
  go_enter Tryz.func21, Tryz.ntmps21
  go_wp2_with fail
  go_loopw [6] (fun i wr => ∃ k : Nat, k ≤ s.size ∧ i = .int .i64 k ∧ wr = w ∧ Hid ((s.data.toList.take k).all (fun x => spaceB (x.toNat : Int)) = true)) (fun i _ => s.size - (intOf i).toNat)
  case atStart => exact ⟨0, by omega, rfl, rfl, Lib.hid (by simp)⟩
  case round =>
    obtain ⟨k, hk, rfl, rfl, HAL⟩ := hrel
    by_cases hlt : k < s.size
    · have HN := Lib.hid (fun hb => blank_next hlt HAL.out hb)
      have HX := Lib.hid (fun hb => blank_bad hlt hb)
      obtain ⟨x, hx⟩ : ∃ x, s[k]'hlt = x := ⟨_, rfl⟩
      rw [hx] at HN HX
      go_wp2_with fail
      refine (rspace_c wr _).mono ?_
      rintro e w1 ⟨rfl, rfl⟩
      obtain ⟨q, hq⟩ : ∃ q, spaceB (x.toNat : Int) = q := ⟨_, rfl⟩
      rw [show wrap64 (x.toNat : Int) = (x.toNat : Int) from by have := x.toNat_lt; unfold wrap64; omega]
      rw [hq] at HN HX ⊢
      cases q
      · have HE := Lib.hid (HX.out rfl)
        go_wp2_with fail
        go_ret
        exact ⟨by rw [HE.out]; rfl, by first | trivial | rfl⟩
      · have HE := Lib.hid (HN.out rfl)
        go_wp2_with fail
        go_roundw
        case rel => exact ⟨k + 1, by omega, by go_num, by first | trivial | rfl, HE⟩
        case measure => simp [intOf]; omega
    · have HE := Lib.hid (blank_end hlt HAL.out)
      go_wp2_with fail
      go_ret
      exact ⟨by rw [HE.out]; rfl, by first | trivial | rfl⟩

set_option maxRecDepth 100000 in
set_option maxHeartbeats 1000000 in
theorem clean_c (w : World) (hw : BW w) (s : ByteArray) (hs : s.size ≤ 140737488355328) : Calls Tryz.prog 49 #[.string s] w fun e w' => e = .returned (.bool (cleanB s)) ∧ Below w.heap.size w w' := by
  have hcv := run_bytes_of_string (P := Tryz.prog) w 9 22 5 s (by kernel_rfl) (by kernel_rfl) (by kernel_rfl)
  have hg1 := grownCap_ge w s.size 0 5
  have hg2 := grownCap_le_maxLen w s.size 0 5 (by unfold maxLen; omega)
  generalize grownCap w s.size 0 5 = g at hcv hg1 hg2
  have HRD := Lib.hid (rd_bytes w.drew s 5 g ((bytesRow s g).size, (bytesRow s g).size + 1) hg1 hg2)
  have HB := Lib.hid (show Below w.heap.size w (w.drew.alloc (.cells (bytesRow s g) 5 ((bytesRow s g).size, (bytesRow s g).size + 1))) from ((Below.refl _ _).drew).alloc (Nat.le_refl _) _)
  obtain ⟨z, hz⟩ : ∃ z, wrong (s.data.toList.length + 1) s.data.toList 0 = z := ⟨_, rfl⟩
  have HE := Lib.hid (show cleanB s = decide (z < 0) from by unfold cleanB; rw [hz])
  have HWR := Lib.hid (wrong_c _ (hw.tab.below HB.out) _ _ HRD.out (by rw [size_data]; omega))
  rw [hz] at HWR
  clear hg1 hg2 hz hw hs
  go_enter Tryz.func49, Tryz.ntmps49
  go_wp2_with fail
  refine HWR.out.mono ?_
  rintro e w1 ⟨rfl, hb1⟩
  have HB1 := Lib.hid (HB.out.trans (hb1.mono HB.out.size))
  clear hb1 hcv
  go_wp2_with fail
  go_ret
  exact ⟨by rw [HE.out]; rfl, HB1.out⟩
set_option maxRecDepth 100000 in
set_option maxHeartbeats 1000000 in
theorem rclean_c (w : World) (s : ByteArray) (hs : s.size ≤ 140737488355328) : Calls Tryz.prog 54 #[.string s] w fun e w' => e = .returned (.bool (cleanB s)) ∧ Below w.heap.size w w' := by
  have hcv := run_bytes_of_string (P := Tryz.prog) w 9 22 5 s (by kernel_rfl) (by kernel_rfl) (by kernel_rfl)
  have hg1 := grownCap_ge w s.size 0 5
  have hg2 := grownCap_le_maxLen w s.size 0 5 (by unfold maxLen; omega)
  generalize grownCap w s.size 0 5 = g at hcv hg1 hg2
  have HRD := Lib.hid (rd_bytes w.drew s 5 g ((bytesRow s g).size, (bytesRow s g).size + 1) hg1 hg2)
  have HB := Lib.hid (show Below w.heap.size w (w.drew.alloc (.cells (bytesRow s g) 5 ((bytesRow s g).size, (bytesRow s g).size + 1))) from ((Below.refl _ _).drew).alloc (Nat.le_refl _) _)
  obtain ⟨z, hz⟩ : ∃ z, wrong (s.data.toList.length + 1) s.data.toList 0 = z := ⟨_, rfl⟩
  have HE := Lib.hid (show cleanB s = decide (z < 0) from by unfold cleanB; rw [hz])
  have HWR := Lib.hid (rwrong_c _ _ _ HRD.out (by rw [size_data]; omega))
  rw [hz] at HWR
  clear hg1 hg2 hz hs
  go_enter Tryz.func54, Tryz.ntmps54
  go_wp2_with fail
  refine HWR.out.mono ?_
  rintro e w1 ⟨rfl, hb1⟩
  have HB1 := Lib.hid (HB.out.trans (hb1.mono HB.out.size))
  clear hb1 hcv
  go_wp2_with fail
  go_ret
  exact ⟨by rw [HE.out]; rfl, HB1.out⟩
end Go.Proofs.YtpcajjbdlfookaaGreatDoor

/- xmltree: whether an attribute can be written. -/
namespace Go.Proofs.YtpcajjbdlfookaaGreatDoor
open Go Go.RowKit Go.Deep
set_option linter.unusedVariables false
set_option linter.unusedSimpArgs false

/-- No text in it is great. -/
def smA (a : PT) : Prop := a.1.size ≤ 140737488351232 ∧ a.2.1.size ≤ 140737488351232 ∧ a.2.2.size ≤ 140737488351232
def smK : Nat → ET → Prop
  | 0, _ => True
  | d + 1, t => t.space.size ≤ 140737488351232 ∧ t.name.size ≤ 140737488351232 ∧ t.text.size ≤ 140737488351232 ∧ (∀ k (h : k < t.attrs.length), smA t.attrs[k]) ∧ ∀ k (h : k < t.kids.length), smK d t.kids[k]

theorem box3 {w wr : World} {c0 c1 c2 : Value} {T : TypeId} (hb : Below (w.alloc (.cells #[c0, c1, c2] T)).heap.size (w.alloc (.cells #[c0, c1, c2] T)) wr) :
    wr.cell? ⟨w.heap.size, 0, none⟩ = some c0 ∧ wr.cell? ⟨w.heap.size, 1, none⟩ = some c1 ∧ wr.cell? ⟨w.heap.size, 2, none⟩ = some c2 ∧ (∀ o, wr.frozen? ⟨w.heap.size, o, none⟩ = false) := by
  have h : wr.heap[w.heap.size]? = some (.cells #[c0, c1, c2] T (0, 0)) := (hb.block _ (by simp)).trans (heap_alloc_new w _)
  refine ⟨?_, ?_, ?_, fun o => ?_⟩ <;> simp [World.cell?, World.frozen?, h]
set_option maxRecDepth 100000 in
set_option maxHeartbeats 2000000 in
theorem wattr_c (w : World) (hw : BW w) (s n v : ByteArray) (hs : smA (s, n, v)) : Calls Tryz.prog 50 #[.agg #[.string s, .string n, .string v]] w fun e w' => e = .returned (.bool (attrB (s, n, v))) ∧ Below w.heap.size w w' := by
  obtain ⟨h1, h2, h3⟩ := hs
  dsimp only at h1 h2 h3
  have HW := Lib.hid hw
  obtain ⟨Z, hZ⟩ : ∃ Z, Z = w.alloc (.cells #[.string s, .string n, .string v] 58) := ⟨_, rfl⟩
  have HWZ := Lib.hid (hZ ▸ box_belT w _ : Below w.heap.size w Z)
  have HB0 := Lib.hid (Below.refl Z.heap.size Z)
  have HNM := Lib.hid (fun (W : World) (hb : Below Z.heap.size Z W) => name_c W (hw.tab.below (HWZ.out.trans (hb.mono HWZ.out.size))) n (by omega))
  have HCS := Lib.hid (fun (W : World) (hb : Below Z.heap.size Z W) => clean_c W (hw.below (HWZ.out.trans (hb.mono HWZ.out.size))) s (by omega))
  have HCV := Lib.hid (fun (W : World) (hb : Below Z.heap.size Z W) => clean_c W (hw.below (HWZ.out.trans (hb.mono HWZ.out.size))) v (by omega))
  have HA := Lib.hid (show attrB (s, n, v) = (!(s.toList.isEmpty && (n.toList == [120, 109, 108, 110, 115])) && nameB n.data.toList && cleanB s && cleanB v && !(s.toList == [104, 116, 116, 112, 58, 47, 47, 119, 119, 119, 46, 119, 51, 46, 111, 114, 103, 47, 50, 48, 48, 48, 47, 120, 109, 108, 110, 115, 47])) from rfl)
  obtain ⟨qn, hqn⟩ : ∃ q, nameB n.data.toList = q := ⟨_, rfl⟩
  obtain ⟨qs, hqs⟩ : ∃ q, cleanB s = q := ⟨_, rfl⟩
  obtain ⟨qv, hqv⟩ : ∃ q, cleanB v = q := ⟨_, rfl⟩
  obtain ⟨b1, t1⟩ : ∃ b, s.toList.isEmpty = b := ⟨_, rfl⟩
  obtain ⟨b2, t2⟩ : ∃ b, (n.toList == [120, 109, 108, 110, 115]) = b := ⟨_, rfl⟩
  obtain ⟨b3, t3⟩ : ∃ b, (s.toList == [104, 116, 116, 112, 58, 47, 47, 119, 119, 119, 46, 119, 51, 46, 111, 114, 103, 47, 50, 48, 48, 48, 47, 120, 109, 108, 110, 115, 47]) = b := ⟨_, rfl⟩
  rw [hqn] at HNM HA
  rw [hqs] at HCS HA
  rw [hqv] at HCV HA
  rw [t1, t2, t3] at HA
  clear hw h1 h2 h3 hqn hqs hqv
  subst hZ
  cases b1 <;> cases b2
  all_goals
    go_enter Tryz.func50, Tryz.ntmps50
    go_wp2_with fail
  rotate_left 3
  · go_ret
    exact ⟨by rw [HA.out]; rfl, HWZ.out⟩
  all_goals
    refine (HNM.out _ HB0.out).mono ?_
    rintro e w1 ⟨rfl, hb⟩
    have HB1 := Lib.hid hb
    obtain ⟨c0, c1, c2, cz⟩ := box3 hb
    clear hb
    cases qn
    · go_wp2_with fail
      go_ret
      exact ⟨by rw [HA.out]; simp, HWZ.out.trans (HB1.out.mono HWZ.out.size)⟩
    go_wp2_with fail
    refine (HCS.out _ HB1.out).mono ?_
    rintro e w2 ⟨rfl, hb⟩
    have hb := HB1.out.trans (hb.mono HB1.out.size)
    have HB2 := Lib.hid hb
    clear c0 c1 c2 cz
    obtain ⟨c0, c1, c2, cz⟩ := box3 hb
    clear hb
    cases qs
    · go_wp2_with fail
      go_ret
      exact ⟨by rw [HA.out]; simp, HWZ.out.trans (HB2.out.mono HWZ.out.size)⟩
    go_wp2_with fail
    refine (HCV.out _ HB2.out).mono ?_
    rintro e w3 ⟨rfl, hb⟩
    have hb := HB2.out.trans (hb.mono HB2.out.size)
    have HB3 := Lib.hid hb
    clear c0 c1 c2 cz
    obtain ⟨c0, c1, c2, cz⟩ := box3 hb
    clear hb
    cases qv
    · go_wp2_with fail
      go_ret
      exact ⟨by rw [HA.out]; simp, HWZ.out.trans (HB3.out.mono HWZ.out.size)⟩
    cases b3
    all_goals
      go_wp2_with fail
      go_ret
      exact ⟨by rw [HA.out]; simp, HWZ.out.trans (HB3.out.mono HWZ.out.size)⟩
end Go.Proofs.YtpcajjbdlfookaaGreatDoor

/- xmltree: the parser's model. -/
namespace Go.Proofs.YtpcajjbdlfookaaGreatDoor
open Go Go.RowKit Go.Deep
set_option linter.unusedVariables false
set_option linter.unusedSimpArgs false

/-- Declarations: a prefix and its namespace, the outermost first. -/
abbrev BS := List (List UInt8 × List UInt8)
def ba (l : List UInt8) : ByteArray := ⟨l.toArray⟩
/-- What a prefix names among the first so many. -/
def fndB (L : BS) : Nat → List UInt8 → Option (List UInt8)
  | 0, _ => none
  | k + 1, p => match L[k]? with
    | none => fndB L k p
    | some d => if d.1 = p then some d.2 else fndB L k p
def spcM (L : BS) (p : List UInt8) : Option (List UInt8) :=
  if p = [120, 109, 108] then some nsX else match fndB L L.length p with
    | some s => some s
    | none => if p = [] then some [] else none
def badD (p v : List UInt8) : Prop := p = [120, 109, 108] ∨ p = [120, 109, 108, 110, 115] ∨ (p ≠ [] ∧ v = [])
instance (p v : List UInt8) : Decidable (badD p v) := by unfold badD; infer_instance
/-- The declarations of a tag behind those around. -/
def declM : BS → List (List UInt8 × List UInt8) → Option BS
  | L, [] => some L
  | L, a :: r => if (dclM a.1).2 = true then (if badD (dclM a.1).1 a.2 then none else declM (L ++ [((dclM a.1).1, a.2)]) r) else declM L r
def pairM (L : BS) (a : List UInt8 × List UInt8) : Option PT :=
  if (splM a.1).1 = [] then some (ba [], ba (splM a.1).2, ba a.2) else match spcM L (splM a.1).1 with
    | none => none
    | some s => some (ba s, ba (splM a.1).2, ba a.2)
def pairsM (L : BS) : List PT → List (List UInt8 × List UInt8) → Option (List PT)
  | acc, [] => some acc
  | acc, a :: r => if (dclM a.1).2 = true then pairsM L acc r else match pairM L a with
    | none => none
    | some p => pairsM L (acc ++ [p]) r
/-- An element without its content: namespace, name, attributes. -/
abbrev HT := ByteArray × ByteArray × List PT
def beginM (t : Tk) (L : BS) : Except Nat (HT × BS) :=
  if ¬ (t.attrs.map fun a => ba a.1).Nodup then .error 15 else match declM L t.attrs with
    | none => .error 16
    | some L' => match spcM L' (splM t.name).1 with
      | none => .error 16
      | some sp => match pairsM L' [] t.attrs with
        | none => .error 16
        | some ps => if ¬ (keysL ps).Nodup then .error 15 else .ok ((ba sp, ba (splM t.name).2, ps), L')
def mkE (h : HT) (ks : List ET) (tx : List UInt8) : ET := .mk h.1 h.2.1 h.2.2 ks (ba tx)
/-- The token at a place: the token, where it begins, where it ends; or the error. -/
def tokM (xs : List UInt8) (a : Nat) : Except (Nat × Nat) (Tk × Nat × Nat) :=
  if (nxt insP opnP cloP xs (skA insP xs a).1).2.2 = 0 then .ok ((nxt insP opnP cloP xs (skA insP xs a).1).1, (skA insP xs a).1, (nxt insP opnP cloP xs (skA insP xs a).1).2.1)
  else .error (nxt insP opnP cloP xs (skA insP xs a).1).2
/-- An element from its tag on, by what reads its content. -/
def elemW (c : BS → Nat → List UInt8 → HT → Nat → Except (Nat × Nat) (ET × Nat)) (L : BS) (o : Nat) (t : Tk) (q k : Nat) : Except (Nat × Nat) (ET × Nat) :=
  if 24 ≤ o ∨ 201 < t.attrs.length then .error (q, 4) else match beginM t L with
    | .error e => .error (q, e)
    | .ok (h, L') => if t.empty = true then .ok (mkE h [] [], k) else c L' o t.name h k
def blankL (l : List UInt8) : Bool := l.all fun x => spaceB (x.toNat : Int)
/-- The content of an element, so far read. -/
def contM (xs : List UInt8) : Nat → BS → Nat → List UInt8 → HT → List ET → List UInt8 → Nat → Except (Nat × Nat) (ET × Nat)
  | 0, _, _, _, _, _, _, _ => .error (0, 0)
  | f + 1, L, o, nm, h, ks, tx, a => match tokM xs a with
    | .error x => .error x
    | .ok (t, q, k) =>
      if t.kind = 3 then contM xs f L o nm h ks (tx ++ t.text) k
      else if t.kind = 1 then (if 100 ≤ ks.length then .error (q, 4) else
        match elemW (fun L' o' nm' h' k' => contM xs f L' o' nm' h' [] [] k') L (o + 1) t q k with
        | .error x => .error x
        | .ok (x, k') => contM xs f L o nm h (ks ++ [x]) tx k')
      else if t.kind = 2 ∧ t.name = nm then .ok (mkE h ks (if ks = [] ∨ blankL tx = false then tx else []), k)
      else .error (q, 14)
def elemM (xs : List UInt8) (f : Nat) : BS → Nat → Tk → Nat → Nat → Except (Nat × Nat) (ET × Nat) := elemW (fun L' o' nm' h' k' => contM xs f L' o' nm' h' [] [] k')
/-- The document, so far read. -/
def docM (xs : List UInt8) (g : Nat) : Nat → Option ET → Nat → Except (Nat × Nat) ET
  | 0, _, _ => .error (0, 0)
  | f + 1, r, a => match tokM xs a with
    | .error x => .error x
    | .ok (t, q, k) => if t.kind = 1 ∧ r.isNone = true then (match elemM xs g [] 0 t q k with
        | .error x => .error x
        | .ok (x, k') => docM xs g f (some x) k')
      else if t.kind = 3 ∧ blankL t.text = true then docM xs g f r k
      else match r with
        | none => .error (q, 14)
        | some x => if t.kind = 0 then .ok x else .error (q, 14)
def parseM (xs : List UInt8) : Except (Nat × Nat) ET :=
  if 65536 < xs.length then .error (0, 4) else if 0 ≤ wrong (xs.length + 1) xs 0 then .error ((wrong (xs.length + 1) xs 0).toNat, 10) else docM xs (xs.length + 2) (xs.length + 2) none 0

theorem skA_le {xs : List UInt8} {a q r : Nat} (h : skA insP xs a = (q, r)) (ha : a ≤ xs.length) : a ≤ q := by
  unfold skA at h
  rw [if_neg (by omega)] at h
  split at h
  · rename_i k hs
    cases h
    rw [Int.toNat_natCast] at hs
    exact (skp_false insP _ _ _ _ hs).1
  · rename_i k hs
    cases h
    rw [Int.toNat_natCast] at hs
    exact skp_le _ _ _ _ hs
theorem tokM_ok {xs : List UInt8} {a q k : Nat} {t : Tk} (h : tokM xs a = .ok (t, q, k)) : q = (skA insP xs a).1 ∧ nxt insP opnP cloP xs q = (t, k, 0) := by
  unfold tokM at h
  split at h
  · rename_i hz
    cases h
    refine ⟨rfl, ?_⟩
    rw [← hz]
  · cases h
theorem tokM_err {xs : List UInt8} {a k c : Nat} (h : tokM xs a = .error (k, c)) : c ≠ 0 ∧ ∃ t, nxt insP opnP cloP xs (skA insP xs a).1 = (t, k, c) := by
  unfold tokM at h
  split at h
  · cases h
  · rename_i hz
    have e := Except.error.inj h
    refine ⟨by rw [e] at hz; exact hz, (nxt insP opnP cloP xs (skA insP xs a).1).1, ?_⟩
    rw [← e]
theorem tokM_goes {xs : List UInt8} {a q k : Nat} {t : Tk} (h : tokM xs a = .ok (t, q, k)) (ha : a ≤ xs.length) (hk : t.kind ≠ 0) : a ≤ q ∧ a < k := by
  obtain ⟨h1, h2⟩ := tokM_ok h
  obtain ⟨h3, h4⟩ := nxt_goes h2
  have := skA_le (q := q) (r := (skA insP xs a).2) (by rw [h1]) ha
  rcases h4 with ⟨h5, _⟩ | ⟨h5, _⟩
  · omega
  · exact absurd h5 hk
theorem tokM_ats {xs : List UInt8} {a q k : Nat} {t : Tk} (h : tokM xs a = .ok (t, q, k)) : AtsOk t.attrs := nxt_ats (tokM_ok h).2
end Go.Proofs.YtpcajjbdlfookaaGreatDoor
