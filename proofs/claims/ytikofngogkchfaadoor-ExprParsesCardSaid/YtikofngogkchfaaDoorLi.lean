/- lexer: the reference's text. -/
import Derived.Test.YtikofngogkchfaaDoorLf
import Derived.Test.YtikofngogkchfaaDoorLh
import Derived.Test.YtikofngogkchfaaDoorLe
import Derived.Test.YtikofngogkchfaaDoorCt
import Derived.Test.YtikofngogkchfaaDoorNu
namespace Go.Proofs.YtikofngogkchfaaDoor
open Go.RowKit
set_option linter.unusedVariables false

/-- What the reference's word hands back: whether there is one, and if so, which. -/
def WordAs (R : Wd × Nat) (e : Ending) : Prop := (R.2 = 0 ∧ ∃ X n, e = .returned (tripV X n false)) ∨ (R.2 ≠ 0 ∧ e = .returned (tripV R.1 R.2 true))
theorem wa_no {R : Wd × Nat} (h : R.2 = 0) (X : Wd) (n : Nat) : WordAs R (.returned (tripV X n false)) := Or.inl ⟨h, X, n, rfl⟩
theorem wa_yes {R : Wd × Nat} {X : Wd} {n : Nat} (h : R = (X, n)) (hn : n ≠ 0) : WordAs R (.returned (tripV X n true)) := by
  subst h
  exact Or.inr ⟨hn, rfl⟩
/-- What '[]byte(s)' hands back. -/
theorem rd_bytes (w : World) (s : ByteArray) (T : TypeId) (g : Nat) (z : Nat × Nat) (h1 : s.size ≤ g) (h2 : g ≤ maxLen) :
    Rd (w.alloc (.cells (bytesRow s g) T z)) (.slice (some ⟨w.heap.size, 0, none⟩) s.size g) s.data.toList := by
  have hl : s.data.toList.length = s.size := Array.length_toList
  refine ⟨_, g, by rw [hl], by omega, h2, by simp, fun hp => ⟨w.heap.size, 0, rfl, fun i hi => ?_⟩⟩
  have hj : i < s.data.size := by rw [hl] at hi; exact hi
  have hc := bytesRow_at s g i hj
  simp only [World.cell?, heap_alloc_new, Nat.zero_add]
  simp [hc]
/-- '[]byte(s)' in one world. -/
theorem conv_bytes (w : World) (s : ByteArray) (hs : s.size ≤ 140737488355328) : ∃ g z, (convert 9 69 (.string s)).run Tryd.prog w = .ok (.slice (some ⟨w.heap.size, 0, none⟩) s.size g) (w.drew.alloc (.cells (bytesRow s g) 5 z)) ∧ Rd (w.drew.alloc (.cells (bytesRow s g) 5 z)) (.slice (some ⟨w.heap.size, 0, none⟩) s.size g) s.data.toList := by
  have hcv := run_bytes_of_string (P := Tryd.prog) w 9 69 5 s (by kernel_rfl) (by kernel_rfl) (by kernel_rfl)
  exact ⟨_, _, hcv, rd_bytes w.drew s _ _ _ (grownCap_ge w s.size 0 _) (grownCap_le_maxLen w s.size 0 _ (by unfold maxLen; omega))⟩
theorem sub_cut (s : ByteArray) (k n : Nat) : s.extract k (k + n) = ⟨((s.data.toList.drop k).take n).toArray⟩ := by
  apply ByteArray.ext
  rw [ByteArray.data_extract]
  apply Array.toList_inj.1
  rw [Array.toList_extract, List.extract_eq_take_drop]
  simp

/-- The rest of the text hangs on nothing before it. -/
def Fresh (T r : List UInt8) : Prop := ∀ t n, litU false r = some (t, n) → valid (T ++ t) = valid t
theorem fresh_start (r : List UInt8) : Fresh [] r := fun t n _ => rfl
theorem fresh_end {T r : List UInt8} {c : UInt8} (h : Fresh T (c :: r)) (hc : c.toNat = 34) : valid T = true := by
  have := h [] 1 (by unfold litU; rw [if_pos hc])
  rw [List.append_nil] at this
  rw [this]
  rfl
theorem fresh_esc {T r : List UInt8} {c d : UInt8} (h : Fresh T (c :: d :: r)) (hc : c.toNat = 92) (hd : d.toNat = 34 ∨ d.toNat = 92) : Fresh (T ++ [d]) r := by
  intro t n ht
  have e : litU false (c :: d :: r) = some (d :: t, n + 1 + 1) := by
    conv => lhs; unfold litU
    rw [if_neg (by omega), if_pos hc]
    conv => lhs; arg 2; unfold litU
    rw [if_pos hd, ht]
    rfl
  have h1 := h _ _ e
  rw [List.append_assoc, List.singleton_append, h1]
  have hD : D ([d] ++ t) = (d.toNat, 1) := by
    rw [D_one _ (by simp) (by simp [at8]; omega)]
    simp [at8]
  exact valid_char [d] t d.toNat (by simp) hD (by rcases hd with h | h <;> rw [h] <;> decide)
theorem fresh_char {T r : List UInt8} {c : UInt8} {x n : Nat} (h : Fresh T (c :: r)) (h1 : c.toNat ≠ 34) (h2 : c.toNat ≠ 92) (hD : D (c :: r) = (x, n)) (hn : n ≠ 0) (hx : xmlB x = true) :
    Fresh (T ++ (c :: r).take n) ((c :: r).drop n) := by
  intro t m ht
  have e := lit_char c r x n h1 h2 hD hn
  rw [ht] at e
  have h3 := h _ _ e
  have hle := D_le (c :: r)
  rw [hD] at hle
  simp only at hle
  have hlen : ((c :: r).take n).length = n := by rw [List.length_take]; omega
  rw [List.append_assoc, h3]
  have hne : (c :: r).take n ≠ [] := by
    intro hh
    rw [hh] at hlen
    simp at hlen
    omega
  refine valid_char _ t x hne ?_ hx
  rw [hlen]
  refine D_frame (c :: r) _ x n hD hn hle.2.2 (by rw [List.length_append, hlen]; omega) ?_
  rw [List.take_append_of_le_length (by rw [hlen]; exact Nat.le_refl _), List.take_of_length_le (by rw [hlen]; exact Nat.le_refl _)]
theorem litJ_char {k : Nat} {T r : List UInt8} {c : UInt8} {x n : Nat} (h1 : c.toNat ≠ 34) (h2 : c.toNat ≠ 92) (hD : D (c :: r) = (x, n)) (hn : n ≠ 0) (hk : 1 ≤ k) :
    litJ k T (litU false (c :: r)) = litJ (k + n) (T ++ (c :: r).take n) (litU false ((c :: r).drop n)) := by
  rw [lit_char c r x n h1 h2 hD hn]
  cases litU false ((c :: r).drop n) with
  | none => rfl
  | some p => simp [litJ]; omega
theorem litF_bad {r q T : List UInt8} {c : UInt8} {k : Nat} (hJ : litJ k T (litU false (c :: q)) = litU false r) (hF : Fresh T (c :: q)) (h1 : c.toNat ≠ 34) (h2 : c.toNat ≠ 92) (hb : (D (c :: q)).2 = 0 ∨ xmlB (D (c :: q)).1 = false) : litF r = (noW, 0) := by
  cases h : litU false (c :: q) with
  | none =>
    rw [h] at hJ
    exact litF_none hJ.symm
  | some p =>
    obtain ⟨t, m⟩ := p
    rw [h] at hJ
    have hv := hF t m h
    rw [lit_bad c q t m h1 h2 h hb] at hv
    rw [litF_some hJ.symm, if_neg]
    intro hh
    have h3 := (valid_iff (T ++ t)).1 hh.2
    rw [h3] at hv
    cases hv
theorem litF_good {r T : List UInt8} {k : Nat} (hJ : litU false r = some (T, k)) (hv : valid T = true) : litF r = if T.length ≤ 256 then (⟨3, T, 0⟩, k + 1) else (noW, 0) := by
  rw [litF_some hJ]
  by_cases h : T.length ≤ 256
  · rw [if_pos ⟨h, (valid_iff T).2 hv⟩, if_pos h]
  · rw [if_neg (fun hh => h hh.1), if_neg h]
def litI (w0 wr : World) : Prop := wr.heap[w0.heap.size]? = some box3 ∧ Below w0.heap.size w0 wr

set_option maxRecDepth 100000 in
set_option maxHeartbeats 1000000 in
theorem rlit_c (w : World) (s : ByteArray) (hs : s.size ≤ 400) (hp : 0 < s.size) : Calls Tryd.prog 43 #[.string s] w fun e w' => WordAs (litF (s.data.toList.drop 1)) e ∧ Below w.heap.size w w' := by
  have HSZ := Lib.hid (size_list s)
  go_enter Tryd.func43, Tryd.ntmps43
  go_wp2_with fail
  go_loopw [5, 6] (fun o i wr => ∃ (k : Nat) (T : List UInt8), o = .string ⟨T.toArray⟩ ∧ i = .int .i64 k ∧ 1 ≤ k ∧ k ≤ s.size ∧ T.length ≤ k ∧ litJ k T (litU false (s.data.toList.drop k)) = litU false (s.data.toList.drop 1) ∧ Fresh T (s.data.toList.drop k) ∧ litI w wr) (fun _ i _ => s.size - (intOf i).toNat)
  case atStart => exact ⟨1, [], rfl, rfl, by omega, by omega, by simp, litJ_start _, fresh_start _, heap_alloc_new _ _, box_below _ _⟩
  case round =>
    obtain ⟨k, T, rfl, rfl, hk1, hk, hTl, hJ, hFr, hI⟩ := hrel
    have HJ := Lib.hid hJ
    have HFR := Lib.hid hFr
    have HI := Lib.hid hI
    have hTn : T.length ≤ 400 := by omega
    have hlt0 := ltB hI.1
    obtain ⟨⟨b0, b1, b2⟩, f0, f1, f2⟩ := box3_cells hI.1
    clear hJ hFr hI
    by_cases hlt : k < s.size
    · have HD := Lib.hid (drop_next s k hlt)
      have h8 := (s[k]).toNat_lt
      obtain ⟨c, hc⟩ : ∃ c, c = s[k] := ⟨_, rfl⟩
      have hcn : c.toNat = s[k].toNat := by rw [hc]
      rw [← hc] at HD
      by_cases h34 : c.toNat = 34
      · have HR := Lib.hid (litF_good (show litU false (s.data.toList.drop 1) = some (T, k) from by rw [← HJ.out, HD.out]; exact litJ_end k T _ c h34 hk1) (by have := HFR.out; rw [HD.out] at this; exact fresh_end this h34))
        have t1 : ((s[k].toNat : Int) == 34) = true := by rw [← hcn, h34]; rfl
        by_cases hbig : 256 < T.length
        · have HE := Lib.hid (show litF (s.data.toList.drop 1) = (noW, 0) from by rw [HR.out, if_neg (by omega)])
          have hd : decide ((T.length : Int) ≤ (256 : Int)) = false := by simp; omega
          clear hc hcn h34 hTl HR
          go_wp2_with fail
          refine bodyPost_ret (v := tripV ⟨3, T, 0⟩ (k + 1) false) (by simp [results, Tryd.results43, go_sem, tripV, Wd.val, b0, b1, b2]) rfl ⟨wa_no (by first | rw [HE.out] | rw [← List.drop_one, HE.out]) _ _, ?_⟩
          exact below3 HI.out.2 (by omega) _ _ _
        · have HE := Lib.hid (show litF (s.data.toList.drop 1) = (⟨3, T, 0⟩, k + 1) from by rw [HR.out, if_pos (by omega)])
          have hd : decide ((T.length : Int) ≤ (256 : Int)) = true := by simp; omega
          clear hc hcn h34 hTl HR
          go_wp2_with fail
          refine bodyPost_ret (v := tripV ⟨3, T, 0⟩ (k + 1) true) (by simp [results, Tryd.results43, go_sem, tripV, Wd.val, b0, b1, b2]) rfl ⟨wa_yes HE.out (by omega), ?_⟩
          exact below3 HI.out.2 (by omega) _ _ _
      · have t1 : ((s[k].toNat : Int) == 34) = false := by rw [← hcn]; simp; omega
        by_cases h92 : c.toNat = 92
        · have t2 : ((s[k].toNat : Int) == 92) = true := by rw [← hcn, h92]; rfl
          by_cases hl1 : k + 1 < s.size
          · have HD2 := Lib.hid (drop_next s (k + 1) hl1)
            have h8' := (s[k + 1]).toNat_lt
            have HCU := Lib.hid (one_cut s (k + 1) hl1)
            obtain ⟨d, hdd⟩ : ∃ d, d = s[k + 1] := ⟨_, rfl⟩
            have hdn : d.toNat = s[k + 1].toNat := by rw [hdd]
            rw [← hdd] at HD2 HCU
            by_cases hq : d.toNat = 34 ∨ d.toNat = 92
            · have HN := Lib.hid (show litJ (k + 2) (T ++ [d]) (litU false (s.data.toList.drop (k + 2))) = litU false (s.data.toList.drop 1) from by rw [← HJ.out, HD.out, HD2.out]; exact (litJ_esc k T _ c d h92 hq hk1).symm)
              have HF2 := Lib.hid (show Fresh (T ++ [d]) (s.data.toList.drop (k + 2)) from by have := HFR.out; rw [HD.out, HD2.out] at this; exact fresh_esc this h92 hq)
              have HTD := Lib.hid (show (T ++ [d]).length ≤ k + 2 from by simp; omega)
              have hcase : ((s[k + 1].toNat : Int) != 34) = false ∨ (((s[k + 1].toNat : Int) != 34) = true ∧ ((s[k + 1].toNat : Int) != 92) = false) := by
                rw [← hdn]
                rcases hq with h | h
                · left; rw [h]; rfl
                · right; rw [h]; exact ⟨rfl, rfl⟩
              clear hc hcn h34 h92 hdd hdn hq hTl
              rcases hcase with u1 | ⟨u1, u2⟩
              all_goals
                go_wp2_with fail
                go_roundw
                case rel => exact ⟨k + 2, T ++ [d], by rw [← cat, ← HCU.out], by go_num, by omega, by omega, HTD.out, HN.out, HF2.out, HI.out⟩
                case measure => simp [intOf]; omega
            · have HE := Lib.hid (litF_none (show litU false (s.data.toList.drop 1) = none from by rw [← HJ.out, HD.out, HD2.out]; exact litJ_bad k T _ c d h92 hq))
              have u1 : ((s[k + 1].toNat : Int) != 34) = true := by rw [← hdn]; simp; omega
              have u2 : ((s[k + 1].toNat : Int) != 92) = true := by rw [← hdn]; simp; omega
              clear hc hcn h34 h92 hdd hdn hq hTl
              go_wp2_with fail
              refine bodyPost_ret (v := tripV noW 0 false) (by simp [results, Tryd.results43, go_sem, tripV, noW, Wd.val, b0, b1, b2]) rfl ⟨wa_no (by first | rw [HE.out] | rw [← List.drop_one, HE.out]) _ _, ?_⟩
              exact below3 HI.out.2 (by omega) _ _ _
          · have HE := Lib.hid (litF_none (show litU false (s.data.toList.drop 1) = none from by rw [← HJ.out, HD.out, show k + 1 = s.size from by omega, drop_all]; exact litJ_last k T c h92))
            clear hc hcn h34 h92 hTl
            go_wp2_with fail
            refine bodyPost_ret (v := tripV noW 0 false) (by simp [results, Tryd.results43, go_sem, tripV, noW, Wd.val, b0, b1, b2]) rfl ⟨wa_no (by first | rw [HE.out] | rw [← List.drop_one, HE.out]) _ _, ?_⟩
            exact below3 HI.out.2 (by omega) _ _ _
        · have t2 : ((s[k].toNat : Int) == 92) = false := by rw [← hcn]; simp; omega
          obtain ⟨g, z, hcv, hrd⟩ := conv_bytes wr (s.extract k s.size) (by rw [ByteArray.size_extract]; omega)
          rw [drop_cut] at hrd
          have hsz : (s.extract k s.size).size = s.size - k := by rw [ByteArray.size_extract]; omega
          rw [hsz] at hcv hrd
          clear hsz
          have HRD := Lib.hid hrd
          have HW1 := Lib.hid (fun o => (show litI w (wr.drew.alloc o) from ⟨keepB (Below.alloc ((Below.refl _ _).drew) (Nat.le_refl _) o) HI.out.1, HI.out.2.drew.alloc (by have := HI.out.2.size; exact this) _⟩))
          have hle := D_le (s.data.toList.drop k)
          rw [List.length_drop, size_list] at hle
          obtain ⟨⟨x, n⟩, hD⟩ : ∃ p, p = D (s.data.toList.drop k) := ⟨_, rfl⟩
          have HDC := Lib.hid (fun (w : World) (v : Value) (h : Rd w v (s.data.toList.drop k)) => rdecode_c w v _ h)
          rw [← hD] at HDC hle
          simp only at HDC hle
          have hn4 : n ≤ 4 := hle.2.1
          have hkn : k + n ≤ s.size := by omega
          have HSC := Lib.hid (sub_cut s k n)
          clear hrd hle
          by_cases hn0 : n = 0
          · have HE := Lib.hid (litF_bad (show litJ k T (litU false (c :: s.data.toList.drop (k + 1))) = litU false (s.data.toList.drop 1) from by rw [← HD.out]; exact HJ.out) (by rw [← HD.out]; exact HFR.out) h34 h92 (by rw [← HD.out, ← hD]; left; exact hn0))
            have tn : ((n : Int) == 0) = true := by simp; exact hn0
            clear hc hcn h34 h92 hTl hD hn0
            go_wp2_with fail
            refine (HDC.out _ _ HRD.out).mono ?_
            rintro e w2 ⟨rfl, hb⟩
            have HW2 := Lib.hid (show litI w w2 from ⟨keepB hb (HW1.out _).1, (HW1.out _).2.trans (hb.mono (HW1.out _).2.size)⟩)
            clear hb b0 b1 b2 f0 f1 f2
            obtain ⟨⟨b0, b1, b2⟩, f0, f1, f2⟩ := box3_cells HW2.out.1
            go_wp2_with fail
            refine bodyPost_ret (v := tripV noW 0 false) (by simp [results, Tryd.results43, go_sem, tripV, noW, Wd.val, b0, b1, b2]) rfl ⟨wa_no (by first | rw [HE.out] | rw [← List.drop_one, HE.out]) _ _, ?_⟩
            exact below3 HW2.out.2 (by omega) _ _ _
          · have tn : ((n : Int) == 0) = false := by simp; exact hn0
            have HOX := fun w => ofXML_c w (x : Int)
            by_cases hx : xmlB x = true
            · have hD' : D (c :: s.data.toList.drop (k + 1)) = (x, n) := by rw [← HD.out, ← hD]
              have HN := Lib.hid (show litJ (k + n) (T ++ (s.data.toList.drop k).take n) (litU false (s.data.toList.drop (k + n))) = litU false (s.data.toList.drop 1) from by
                rw [← HJ.out, ← List.drop_drop, HD.out]
                exact (litJ_char h34 h92 hD' hn0 hk1).symm)
              have HF2 := Lib.hid (show Fresh (T ++ (s.data.toList.drop k).take n) (s.data.toList.drop (k + n)) from by
                have := HFR.out
                rw [HD.out] at this
                rw [← List.drop_drop, HD.out]
                exact fresh_char this h34 h92 hD' hn0 hx)
              have HTD := Lib.hid (show (T ++ (s.data.toList.drop k).take n).length ≤ k + n from by rw [List.length_append, List.length_take]; omega)
              rw [hx] at HOX
              have HOX' := Lib.hid HOX
              clear HOX hc hcn h34 h92 hTl hD hD' hx
              go_wp2_with fail
              refine (HDC.out _ _ HRD.out).mono ?_
              rintro e w2 ⟨rfl, hb⟩
              have HW2 := Lib.hid (show litI w w2 from ⟨keepB hb (HW1.out _).1, (HW1.out _).2.trans (hb.mono (HW1.out _).2.size)⟩)
              clear hb b0 b1 b2 f0 f1 f2
              go_wp2_with fail
              refine (HOX'.out _).mono ?_
              rintro e w3 ⟨rfl, hb⟩
              have HW3 := Lib.hid (show litI w w3 from ⟨keepB hb HW2.out.1, HW2.out.2.trans (hb.mono HW2.out.2.size)⟩)
              clear hb
              go_wp2_with fail
              go_roundw
              case rel => exact ⟨k + n, T ++ (s.data.toList.drop k).take n, by rw [← cat, ← HSC.out], by go_num, by omega, by omega, HTD.out, HN.out, HF2.out, HW3.out⟩
              case measure => simp [intOf]; omega
            · rw [Bool.not_eq_true] at hx
              have HE := Lib.hid (litF_bad (show litJ k T (litU false (c :: s.data.toList.drop (k + 1))) = litU false (s.data.toList.drop 1) from by rw [← HD.out]; exact HJ.out) (by rw [← HD.out]; exact HFR.out) h34 h92 (by rw [← HD.out, ← hD]; right; exact hx))
              rw [hx] at HOX
              have HOX' := Lib.hid HOX
              clear HOX hc hcn h34 h92 hTl hD hx
              go_wp2_with fail
              refine (HDC.out _ _ HRD.out).mono ?_
              rintro e w2 ⟨rfl, hb⟩
              have HW2 := Lib.hid (show litI w w2 from ⟨keepB hb (HW1.out _).1, (HW1.out _).2.trans (hb.mono (HW1.out _).2.size)⟩)
              clear hb b0 b1 b2 f0 f1 f2
              go_wp2_with fail
              refine (HOX'.out _).mono ?_
              rintro e w3 ⟨rfl, hb⟩
              have HW3 := Lib.hid (show litI w w3 from ⟨keepB hb HW2.out.1, HW2.out.2.trans (hb.mono HW2.out.2.size)⟩)
              clear hb
              obtain ⟨⟨b0, b1, b2⟩, f0, f1, f2⟩ := box3_cells HW3.out.1
              go_wp2_with fail
              refine bodyPost_ret (v := tripV noW 0 false) (by simp [results, Tryd.results43, go_sem, tripV, noW, Wd.val, b0, b1, b2]) rfl ⟨wa_no (by first | rw [HE.out] | rw [← List.drop_one, HE.out]) _ _, ?_⟩
              exact below3 HW3.out.2 (by omega) _ _ _
    · obtain rfl : k = s.size := by omega
      have HE := Lib.hid (litF_none (show litU false (s.data.toList.drop 1) = none from by rw [← HJ.out, drop_all]; exact litJ_nil _ T false))
      go_wp2_with fail
      refine bodyPost_ret (v := tripV noW 0 false) (by simp [results, Tryd.results43, go_sem, tripV, noW, Wd.val, b0, b1, b2]) rfl ⟨wa_no (by first | rw [HE.out] | rw [← List.drop_one, HE.out]) _ _, ?_⟩
      exact below3 HI.out.2 (by omega) _ _ _
end Go.Proofs.YtikofngogkchfaaDoor
