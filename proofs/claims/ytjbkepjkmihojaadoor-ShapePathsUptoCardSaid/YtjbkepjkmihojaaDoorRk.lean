/- shape: the reference's names. -/
import Derived.Test.YtjbkepjkmihojaaDoorQn
import Derived.Test.YtjbkepjkmihojaaDoorLg
import Derived.Test.YtjbkepjkmihojaaDoorCv
namespace Go.Proofs.YtjbkepjkmihojaaDoor
open Go Go.RowKit
set_option linter.unusedVariables false

theorem rd_bytes (w : World) (s : ByteArray) (T : TypeId) (g : Nat) (z : Nat × Nat) (h1 : s.size ≤ g) (h2 : g ≤ maxLen) :
    Rd (w.alloc (.cells (bytesRow s g) T z)) (.slice (some ⟨w.heap.size, 0, none⟩) s.size g) s.data.toList := by
  have hl : s.data.toList.length = s.size := Array.length_toList
  refine ⟨_, g, by rw [hl], by omega, h2, by simp, fun hp => ⟨w.heap.size, 0, rfl, fun i hi => ?_⟩⟩
  have hj : i < s.data.size := by rw [hl] at hi; exact hi
  have hc := bytesRow_at s g i hj
  simp only [World.cell?, heap_alloc_new, Nat.zero_add]
  simp [hc]


theorem box_bel (w : World) (o : Obj) : Below w.heap.size w (w.alloc o) := (Below.refl _ _).alloc (Nat.le_refl _) _
def kwX (k : Nat) : ByteArray := ⟨(kwL.getD k []).toArray⟩
theorem kw_cells (w : World) : ∀ k, k < 7 → (w.alloc (.cells #[.string ⟨#[97, 110, 100]⟩, .string ⟨#[111, 114]⟩, .string ⟨#[110, 111, 116]⟩, .string ⟨#[116, 114, 117, 101]⟩, .string ⟨#[102, 97, 108, 115, 101]⟩, .string ⟨#[99, 111, 117, 110, 116]⟩, .string ⟨#[110, 117, 109, 98, 101, 114]⟩] 9)).cell? ⟨w.heap.size, k, none⟩ = some (.string (kwX k)) := by
  intro k hk
  simp only [World.cell?, heap_alloc_new]
  rcases (by omega : k = 0 ∨ k = 1 ∨ k = 2 ∨ k = 3 ∨ k = 4 ∨ k = 5 ∨ k = 6) with rfl | rfl | rfl | rfl | rfl | rfl | rfl <;> rfl
theorem kw_hit (s : ByteArray) (k : Nat) : (s.toList == (kwX k).toList) = (s.data.toList == kwL.getD k []) := by
  rw [toList_data, toList_data]; rfl

set_option maxRecDepth 100000 in
set_option maxHeartbeats 1000000 in
theorem rkey_c (w : World) (s : ByteArray) : Calls Tryd.prog 57 #[.string s] w fun e w' => e = .returned (.bool (keyB s.data.toList)) ∧ Below w.heap.size w w' := by
  have HK := Lib.hid (keyB_any s.data.toList)
  have HCL := Lib.hid (kw_cells w)
  have HB := Lib.hid (fun o => box_bel w o)
  go_enter Tryd.func57, Tryd.ntmps57
  go_wp2_with fail
  go_loop [7] (fun i => ∃ k : Nat, k ≤ 7 ∧ i = .int .i64 k ∧ (kwL.take k).any (fun x => s.data.toList == x) = false) (fun i => 7 - (intOf i).toNat)
  case atStart => exact ⟨0, by omega, rfl, by simp⟩
  case round =>
    obtain ⟨k, hk, rfl, hr⟩ := hrel
    have HR := Lib.hid hr
    clear hr
    by_cases hlt : k < 7
    · have hcl := HCL.out k hlt
      have hv := kw_hit s k
      have hgt : kwL[k]? = some (kwL.getD k []) := by
        rw [List.getD_eq_getElem?_getD, List.getElem?_eq_getElem (by simpa [kwL] using hlt)]
        rfl
      have HTK := Lib.hid (show kwL.take (k + 1) = kwL.take k ++ [kwL.getD k []] from by rw [List.take_add_one, hgt]; rfl)
      obtain ⟨b, hb⟩ : ∃ b, (s.data.toList == kwL.getD k []) = b := ⟨_, rfl⟩
      rw [hb] at hv
      cases b with
      | true =>
        have HE := Lib.hid (show keyB s.data.toList = true from by
          rw [HK.out, List.any_eq_true]
          exact ⟨kwL.getD k [], List.mem_of_getElem? (i := k) hgt, hb⟩)
        generalize kwX k = X at *
        clear hgt hb
        go_wp2_with fail
        go_ret
        exact ⟨by rw [HE.out]; rfl, HB.out _⟩
      | false =>
        have HE := Lib.hid (show (kwL.take (k + 1)).any (fun x => s.data.toList == x) = false from by
          rw [HTK.out, List.any_append, HR.out]
          simp only [List.any_cons, List.any_nil, hb]
          rfl)
        generalize kwX k = X at *
        clear hgt hb
        go_wp2_with fail
        exact ⟨⟨k + 1, by omega, by go_num, HE.out⟩, by simp [intOf]; omega⟩
    · have HE := Lib.hid (show keyB s.data.toList = false from by
        have h := HR.out
        rw [List.take_of_length_le (by simp [kwL]; omega)] at h
        rw [HK.out, h])
      go_wp2_with fail
      go_ret
      exact ⟨by rw [HE.out]; rfl, HB.out _⟩

def plainF : Bool → List UInt8 → Bool
  | _, [] => true
  | true, c :: r => letB c && plainF false r
  | false, c :: r => nameB c && plainF false r
theorem plainF_all (l : List UInt8) : plainF false l = l.all nameB := by
  induction l with
  | nil => rfl
  | cons c r ih => rw [List.all_cons, ← ih]; rfl
theorem plainB_F (l : List UInt8) : plainB l = (!l.isEmpty && plainF true l) := by
  cases l with
  | nil => rfl
  | cons c r =>
    show (letB c && r.all nameB) = (true && (letB c && plainF false r))
    rw [plainF_all, Bool.true_and]

set_option maxRecDepth 100000 in
set_option maxHeartbeats 1000000 in
theorem rplain_c (w : World) (s : ByteArray) (hs : s.size ≤ 140737488355328) : Calls Tryd.prog 56 #[.string s] w fun e w' => e = .returned (.bool (plainB s.data.toList)) ∧ w = w' := by
  have HP := Lib.hid (plainB_F s.data.toList)
  go_enter Tryd.func56, Tryd.ntmps56
  go_wp2_with fail
  go_loop [6] (fun i => ∃ k : Nat, k ≤ s.size ∧ i = .int .i64 k ∧ plainF true s.data.toList = plainF (decide (k = 0)) (s.data.toList.drop k)) (fun i => s.size - (intOf i).toNat)
  case atStart => exact ⟨0, by omega, rfl, by simp⟩
  case round =>
    obtain ⟨k, hk, rfl, hr⟩ := hrel
    have HR := Lib.hid hr
    clear hr
    by_cases hlt : k < s.size
    · have HD := Lib.hid (drop_next s k hlt)
      have HNE := Lib.hid (show (!s.data.toList.isEmpty) = true from by
        have h := size_list s
        cases hl : s.data.toList with
        | nil => rw [hl] at h; simp at h; omega
        | cons _ _ => rfl)
      have HL := fun w => rletter_c w s[k]
      have HG := fun w => rdigit8_c w s[k]
      have hnm : nameB s[k] = (letB s[k] || isDig s[k]) := rfl
      obtain ⟨a, ha⟩ : ∃ a, letB s[k] = a := ⟨_, rfl⟩
      obtain ⟨d, hd⟩ : ∃ d, isDig s[k] = d := ⟨_, rfl⟩
      rw [ha, hd] at hnm
      rw [ha] at HL
      rw [hd] at HG
      have HLL := Lib.hid HL
      have HGG := Lib.hid HG
      by_cases h0 : k = 0
      · have hz : ((k : Int) == 0) = true := by simp [h0]
        have HF := Lib.hid (show plainF true s.data.toList = (a && plainF false (s.data.toList.drop (k + 1))) from by rw [HR.out, HD.out, decide_eq_true h0]; show (letB s[k] && _) = _; rw [ha])
        clear HL HG hnm ha hd h0
        cases a with
        | true =>
          go_wp2_with (first
            | (go_at_call 68; refine (HLL.out _).mono ?_; rintro e w' ⟨rfl, rfl⟩)
            | (go_at_call 69; refine (HGG.out _).mono ?_; rintro e w' ⟨rfl, rfl⟩))
          exact ⟨⟨k + 1, by omega, by go_num, by rw [HF.out]; simp⟩, by simp [intOf]; omega⟩
        | false =>
          go_wp2_with (first
            | (go_at_call 68; refine (HLL.out _).mono ?_; rintro e w' ⟨rfl, rfl⟩)
            | (go_at_call 69; refine (HGG.out _).mono ?_; rintro e w' ⟨rfl, rfl⟩))
          go_ret
          exact ⟨by rw [HP.out, HF.out]; simp, rfl⟩
      · have hz : ((k : Int) == 0) = false := by simp; omega
        have HF := Lib.hid (show plainF true s.data.toList = ((a || d) && plainF false (s.data.toList.drop (k + 1))) from by rw [HR.out, HD.out, decide_eq_false h0]; show (nameB s[k] && _) = _; rw [hnm])
        clear HL HG hnm ha hd h0
        cases a <;> cases d
        all_goals
          go_wp2_with (first
            | (go_at_call 68; refine (HLL.out _).mono ?_; rintro e w' ⟨rfl, rfl⟩)
            | (go_at_call 69; refine (HGG.out _).mono ?_; rintro e w' ⟨rfl, rfl⟩))
          first
            | exact ⟨⟨k + 1, by omega, by go_num, by rw [HF.out]; simp⟩, by simp [intOf]; omega⟩
            | (go_ret; exact ⟨by rw [HP.out, HF.out]; simp, rfl⟩)
    · have hke : k = s.size := by omega
      by_cases h0 : s.size = 0
      · have HE := Lib.hid (show plainB s.data.toList = false from by
          rw [HP.out]
          have h := size_list s
          cases hl : s.data.toList with
          | nil => rfl
          | cons _ _ => rw [hl] at h; simp at h; omega)
        have hd : decide (0 < s.size) = false := by simp [h0]
        go_wp2_with fail
        go_ret
        exact ⟨by rw [HE.out]; simp, rfl⟩
      · have HE := Lib.hid (show plainB s.data.toList = true from by
          have h := size_list s
          rw [HP.out, HR.out, hke, drop_all, Bool.and_eq_true]
          cases hl : s.data.toList with
          | nil => rw [hl] at h; simp at h; omega
          | cons _ _ => exact ⟨rfl, by unfold plainF; rfl⟩)
        have hp : 0 < s.size := by omega
        go_wp2_with fail
        go_ret
        exact ⟨by rw [HE.out]; first | rfl | (simp; omega), rfl⟩

theorem rnamed_c (w : World) (s : ByteArray) (hs : s.size ≤ 140737488355328) : Calls Tryd.prog 46 #[.string s] w fun e w' => e = .returned (.bool (plainB s.data.toList && !keyB s.data.toList)) ∧ Below w.heap.size w w' := by
  have HN := fun w => rplain_c w s hs
  have HK := fun w => rkey_c w s
  generalize plainB s.data.toList = p at *
  generalize keyB s.data.toList = q at *
  have HN' := Lib.hid HN
  have HK' := Lib.hid HK
  clear HN HK
  cases p
  · go_enter Tryd.func46, Tryd.ntmps46
    go_wp2_with (first
      | (go_at_call 56; refine (HN'.out _).mono ?_; rintro e w' ⟨rfl, rfl⟩)
      | (go_at_call 57; refine (HK'.out _).mono ?_; rintro e w' ⟨rfl, hb⟩; have HB := Lib.hid hb; clear hb))
    go_ret
    exact ⟨rfl, Below.refl _ _⟩
  · go_enter Tryd.func46, Tryd.ntmps46
    go_wp2_with (first
      | (go_at_call 56; refine (HN'.out _).mono ?_; rintro e w' ⟨rfl, rfl⟩)
      | (go_at_call 57; refine (HK'.out _).mono ?_; rintro e w' ⟨rfl, hb⟩; have HB := Lib.hid hb; clear hb))
    go_ret
    exact ⟨rfl, HB.out⟩

theorem wrong_name (f : Nat) (xs : List UInt8) (k : Nat) (h : xs.all nameB = true) : wrong f xs k < 0 := by
  induction f generalizing k with
  | zero => simp [wrong]
  | succ f ih =>
    unfold wrong
    split
    · rename_i hk
      have hd := List.drop_eq_getElem_cons hk
      have hc := List.all_eq_true.1 h xs[k] (List.getElem_mem _)
      have hr : 48 ≤ xs[k].toNat ∧ xs[k].toNat < 128 := by
        revert hc
        generalize xs[k] = c
        have hall : ∀ n : Fin 256, nameB (UInt8.ofNat n.val) = true → 48 ≤ n.val ∧ n.val < 128 := by decide +kernel
        intro hc
        have := hall ⟨c.toNat, c.toNat_lt⟩ (by simpa using hc)
        exact this
      have ha : at8 (xs.drop k) 0 = xs[k].toNat := by unfold at8; rw [hd]; rfl
      have hD := D_one (xs.drop k) (by rw [List.length_drop]; omega) (by rw [ha]; exact hr.2)
      rw [hD, ha, if_neg]
      · exact ih _
      · have hx : xmlB ((xs[k].toNat : Nat) : Int) = true := by
          unfold xmlB btw
          simp only [Bool.or_eq_true, Bool.and_eq_true, decide_eq_true_eq]
          left; left; right
          omega
        simp [hx]
    · omega

set_option maxRecDepth 100000 in
set_option maxHeartbeats 1000000 in
theorem rfits_c (w : World) (s : ByteArray) (hs : s.size ≤ 140737488355328) : Calls Tryd.prog 35 #[.string s] w fun e w' => e = .returned (.bool (nameOk s.data.toList)) ∧ Below w.heap.size w w' := by
  have HN := fun w => rnamed_c w s hs
  have HO := Lib.hid (show nameOk s.data.toList = (decide (s.size ≤ 64) && (plainB s.data.toList && !keyB s.data.toList)) from by unfold nameOk; rw [size_list])
  by_cases hn : (plainB s.data.toList && !keyB s.data.toList) = true
  · rw [hn] at HN
    have HN' := Lib.hid HN
    by_cases h64 : s.size ≤ 64
    · have HO2 := Lib.hid (show nameOk s.data.toList = true from by rw [HO.out, hn, decide_eq_true h64]; rfl)
      have hall : s.data.toList.all nameB = true := by
        simp only [Bool.and_eq_true] at hn
        have h := hn.1
        cases hl : s.data.toList with
        | nil => rfl
        | cons c r =>
          rw [hl] at h
          have h' : (letB c && r.all nameB) = true := h
          simp only [Bool.and_eq_true] at h'
          rw [List.all_cons, h'.2, Bool.and_true]
          unfold nameB; rw [h'.1]; rfl
      have HW := Lib.hid (wrong_name (s.data.toList.length + 1) s.data.toList 0 hall)
      have hcv := fun w => run_bytes_of_string (P := Tryd.prog) w 9 53 5 s (by kernel_rfl) (by kernel_rfl) (by kernel_rfl)
      have HCV := Lib.hid hcv
      have hd : decide ((s.size : Int) ≤ 64) = true := by simp; omega
      clear HN hcv hn hall
      go_enter Tryd.func35, Tryd.ntmps35
      go_wp2_with (go_at_call 46; refine (HN'.out _).mono ?_; rintro e w1 ⟨rfl, hb1⟩; have H1 := Lib.hid hb1; have hcv := HCV.out w1; have hg1 := grownCap_ge w1 s.size 0 5; have hg2 := grownCap_le_maxLen w1 s.size 0 5 (by unfold maxLen; omega); generalize grownCap w1 s.size 0 5 = g at hcv hg1 hg2; have HRD := Lib.hid (rd_bytes w1.drew s 5 g ((bytesRow s g).size, (bytesRow s g).size + 1) hg1 hg2); have HB2 := Lib.hid (show Below w1.heap.size w1 (w1.drew.alloc (.cells (bytesRow s g) 5 ((bytesRow s g).size, (bytesRow s g).size + 1))) from ((Below.refl _ _).drew).alloc (Nat.le_refl _) _); clear hg1 hg2 hb1)
      refine (rwrong_c _ _ _ HRD.out (by rw [size_list]; exact hs)).mono ?_
      rintro e w3 ⟨rfl, hb3⟩
      have H3 := Lib.hid ((H1.out.trans (HB2.out.mono H1.out.size)).trans (hb3.mono (H1.out.trans (HB2.out.mono H1.out.size)).size))
      have hneg := HW.out
      generalize wrong (s.data.toList.length + 1) s.data.toList 0 = z at hneg
      have hdz : decide (z < 0) = true := decide_eq_true hneg
      clear hb3
      go_wp2_with fail
      go_ret
      exact ⟨by rw [HO2.out]; rfl, H3.out⟩
    · have HO2 := Lib.hid (show nameOk s.data.toList = false from by rw [HO.out, decide_eq_false h64]; rfl)
      have hd : decide ((s.size : Int) ≤ 64) = false := by simp; omega
      clear HN hn
      go_enter Tryd.func35, Tryd.ntmps35
      go_wp2_with (go_at_call 46; refine (HN'.out _).mono ?_; rintro e w1 ⟨rfl, hb1⟩; have H1 := Lib.hid hb1; clear hb1)
      go_ret
      exact ⟨by rw [HO2.out]; first | rfl | (simp; omega), H1.out⟩
  · rw [Bool.not_eq_true] at hn
    rw [hn] at HN
    have HN' := Lib.hid HN
    have HO2 := Lib.hid (show nameOk s.data.toList = false from by rw [HO.out, hn, Bool.and_false])
    clear HN hn
    go_enter Tryd.func35, Tryd.ntmps35
    go_wp2_with (go_at_call 46; refine (HN'.out _).mono ?_; rintro e w1 ⟨rfl, hb1⟩; have H1 := Lib.hid hb1; clear hb1)
    go_ret
    exact ⟨by rw [HO2.out]; rfl, H1.out⟩
end Go.Proofs.YtjbkepjkmihojaaDoor
