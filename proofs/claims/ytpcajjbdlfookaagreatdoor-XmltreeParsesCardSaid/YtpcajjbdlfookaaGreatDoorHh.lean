/- xmllex: lines and flat. -/
import Derived.Test.YtpcajjbdlfookaaGreatDoorHg
import Derived.Test.YtpcajjbdlfookaaGreatDoorHa
import Derived.Test.YtpcajjbdlfookaaGreatDoorChg
import Derived.Lib.SlBytesConst
namespace Go.Proofs.YtpcajjbdlfookaaGreatDoor
open Go.RowKit
set_option linter.unusedVariables false

theorem rd_new (w : World) (xs : List UInt8) (cs : Array Value) (T : TypeId) (m1 m2 n : Nat) (hcs : cs.toList = bcells xs) (hn : xs.length = n) (hm : n ≤ 1000) : Rd (w.alloc (.cells cs T (m1, m2))) (.slice (some ⟨w.heap.size, 0, none⟩) n n) xs := by
  subst hn
  refine ⟨_, xs.length, rfl, Nat.le_refl _, by unfold maxLen; omega, by simp, fun _ => ⟨w.heap.size, 0, rfl, fun i hi => ?_⟩⟩
  rw [Nat.zero_add, World.cell?_alloc_mark, ← Array.getElem?_toList, hcs]
  simp [bcells, hi]
theorem bel_alloc (w : World) (o : Obj) : Below w.heap.size w (w.alloc o) := (Below.refl _ _).alloc (Nat.le_refl _) _

set_option maxRecDepth 100000 in
theorem replace_c (w : World) (v uo un : Value) (xs old : List UInt8) (h : Rd w v xs) (ho : Rd w uo old) (hn : Rd w un [10]) (hm : MX w) (hl : xs.length ≤ 8388608) (hol : old.length = 1 ∨ old.length = 2) :
    Calls Tryz.prog 136 #[v, uo, un, .int .i64 (-1)] w fun e w' => ∃ v', e = .returned v' ∧ OwnB w.heap.size w' v' (Lib.replaceK old [10] (Lib.count xs old) xs) ∧ Below w.heap.size w w' := by
  rcases Nat.eq_zero_or_pos (Lib.count xs old) with hc | hc
  · rw [hc]
    exact replace_none w v uo un xs old h ho hm hl hol hc
  · obtain ⟨p, c, rfl⟩ := rd_form h
    have hx : 0 < xs.length := by
      rcases Nat.eq_zero_or_pos xs.length with h0 | h0
      · rw [List.eq_nil_of_length_eq_zero h0, Lib.count_miss (idx_nil (by omega))] at hc
        omega
      · exact h0
    obtain ⟨_, _, hin, _⟩ := rd_in h
    obtain ⟨b, o, hb, _⟩ := hin hx
    subst hb
    exact replace_some w b o c uo un xs old h ho hn hm hl hol hc
theorem replaceAll_c (w : World) (v uo un : Value) (xs old : List UInt8) (h : Rd w v xs) (ho : Rd w uo old) (hn : Rd w un [10]) (hm : MX w) (hl : xs.length ≤ 8388608) (hol : old.length = 1 ∨ old.length = 2) :
    Calls Tryz.prog 125 #[v, uo, un] w fun e w' => ∃ v', e = .returned v' ∧ OwnB w.heap.size w' v' (Lib.replaceK old [10] (Lib.count xs old) xs) ∧ Below w.heap.size w w' := by
  have HC := Lib.hid (replace_c w v uo un xs old h ho hn hm hl hol)
  clear h ho hn hm hl hol
  go_enter Tryz.func125, Tryz.ntmps125
  go_wp2_with (go_at_call 136; refine HC.out.mono ?_; rintro e w1 ⟨v1, rfl, ho, hb⟩; have HO := Lib.hid (And.intro ho hb); clear ho hb)
  go_ret
  exact ⟨_, rfl, HO.out.1, HO.out.2⟩

set_option maxRecDepth 100000 in
/-- Line ends: a text of the call's own. -/
theorem lines_c (w : World) (v : Value) (xs : List UInt8) (h : Rd w v xs) (hm : MX w) (hl : xs.length ≤ 8388608) :
    Calls Tryz.prog 109 #[v] w fun e w' => ∃ v', e = .returned v' ∧ OwnB w.heap.size w' v' (lns xs) ∧ Below w.heap.size w w' := by
  have kc := fun (w : World) (C : Array Value) (n c : Nat) => Lib.run_convert_bytes_const (P := Tryz.prog) w 22 5 C n c Tryz.underlying22 Tryz.underlying5
  have kc2 : ∀ (w : World) (o : Obj) (C : Array Value) (n c : Nat), (convert 22 22 (.slice (some ⟨w.heap.size + 1, 0, none⟩) n c)).run Tryz.prog ((w.alloc o).alloc (.cells C 5)) = .ok (.slice (some ⟨w.heap.size + 1, 0, none⟩) n c) ((w.alloc o).alloc (.cells C 5 (C.size, C.size + 1))) := fun w o C n c => by
    have := kc (w.alloc o) C n c
    rwa [World.size_alloc] at this
  have HR := Lib.hid h
  have HM := Lib.hid hm
  have HL := Lib.hid hl
  clear h hm hl
  go_enter Tryz.func109, Tryz.ntmps109
  go_wp2_with fail
  have b1 := bel_alloc w (.cells #[.int .u8 13, .int .u8 10] 5 (2, 3))
  have b2 := bel_alloc (w.alloc (.cells #[.int .u8 13, .int .u8 10] 5 (2, 3))) (.cells #[.int .u8 10] 5 (1, 2))
  have b12 := b1.trans (b2.mono b1.size)
  have r2 := rd_new (w.alloc (.cells #[.int .u8 13, .int .u8 10] 5 (2, 3))) [10] #[.int .u8 10] 5 1 2 1 rfl rfl (by omega)
  rw [World.size_alloc] at r2
  refine (replaceAll_c _ _ _ _ xs [13, 10] (HR.out.below b12) ((rd_new w [13, 10] #[.int .u8 13, .int .u8 10] 5 2 3 2 rfl rfl (by omega)).below b2) r2 (HM.out.below b12) HL.out (.inr rfl)).mono ?_
  rintro e w1 ⟨v1, rfl, hown, hb⟩
  rw [repl_crlf _ _ rfl] at hown
  have HB := Lib.hid (b12.trans (hb.mono b12.size))
  have HO := Lib.hid hown.rd
  clear b1 b2 b12 r2 hown hb
  go_wp2_with fail
  have b1 := bel_alloc w1 (.cells #[.int .u8 13] 5 (1, 2))
  have b2 := bel_alloc (w1.alloc (.cells #[.int .u8 13] 5 (1, 2))) (.cells #[.int .u8 10] 5 (1, 2))
  have b12 := b1.trans (b2.mono b1.size)
  have r2 := rd_new (w1.alloc (.cells #[.int .u8 13] 5 (1, 2))) [10] #[.int .u8 10] 5 1 2 1 rfl rfl (by omega)
  rw [World.size_alloc] at r2
  refine (replaceAll_c _ _ _ _ (crlf xs) [13] (HO.out.below b12) ((rd_new w1 [13] #[.int .u8 13] 5 1 2 1 rfl rfl (by omega)).below b2) r2 ((HM.out.below HB.out).below b12) (Nat.le_trans (crlf_len xs) HL.out) (.inl rfl)).mono ?_
  rintro e w2 ⟨v2, rfl, hown, hb⟩
  rw [repl_cr _ _ rfl, ← lns_crlf] at hown
  have HB2 := Lib.hid (HB.out.trans ((b12.trans (hb.mono b12.size)).mono HB.out.size))
  have HO2 := Lib.hid (hown.mono (Nat.le_trans HB.out.size b12.size))
  clear b1 b2 b12 r2 hown hb
  go_wp2
  go_ret
  exact ⟨_, rfl, HO2.out, HB2.out⟩

/-- A byte of one's own written over. -/
theorem ownB_set {B : Nat} {w : World} {g n c : Nat} {l : List UInt8} (h : OwnB B w (.slice (some ⟨g, 0, none⟩) n c) l) (k : Nat) (hk : k < l.length) (x : UInt8) : OwnB B (w.setCell ⟨g, k, none⟩ (.int .u8 (x.toNat : Int))) (.slice (some ⟨g, 0, none⟩) n c) (l.set k x) := by
  rcases h with ⟨h, _⟩ | ⟨g', c', hv, h1, h2, h3, h4, h5⟩
  · simp at h
  · simp only [Value.slice.injEq, Option.some.injEq, Addr.mk.injEq, and_true] at hv
    obtain ⟨rfl, rfl, rfl⟩ := hv
    refine .inr ⟨g, c, by rw [List.length_set], h1, by rw [List.length_set]; exact h2, h3, fun i hi => ?_, fun j hj => ?_⟩
    · rw [List.length_set] at hi
      by_cases e : k = i
      · subst e
        rw [World.cell?_setCell_same w _ _ (h4 k hk)]
        simp
      · rw [World.cell?_setCell_other w _ _ _ (fun q => e (congrArg Addr.off q)), h4 i hi]
        simp [e]
    · rw [List.length_set] at hj
      have := h5 j hj
      rw [World.frozen?_setCell]
      exact this
theorem ownB_at {B : Nat} {w : World} {g n c : Nat} {l : List UInt8} (h : OwnB B w (.slice (some ⟨g, 0, none⟩) n c) l) : n = l.length ∧ B ≤ g ∧ n ≤ c ∧ c ≤ maxLen ∧ ∀ k (hk : k < l.length), w.cell? ⟨g, k, none⟩ = some (.int .u8 (l[k].toNat : Int)) ∧ w.frozen? ⟨g, k, none⟩ = false := by
  rcases h with ⟨h, _⟩ | ⟨g', c', hv, h1, h2, h3, h4, h5⟩
  · simp at h
  · simp only [Value.slice.injEq, Option.some.injEq, Addr.mk.injEq, and_true] at hv
    obtain ⟨rfl, rfl, rfl⟩ := hv
    exact ⟨rfl, h1, h2, h3, fun k hk => ⟨h4 k hk, h5 k hk⟩⟩
/-- The text while it is made flat. -/
def flK (l : List UInt8) (k : Nat) : List UInt8 := (l.take k).map tr ++ l.drop k
theorem flK_len (l : List UInt8) (k : Nat) : (flK l k).length = l.length := by simp [flK]; omega
theorem flK_at (l : List UInt8) (k : Nat) (h : k < l.length) : (flK l k)[k]'(by rw [flK_len]; exact h) = l[k] := by
  unfold flK
  rw [List.getElem_append_right (by simp; omega)]
  simp
  congr 1
  omega
theorem flK_set (l : List UInt8) (k : Nat) (h : k < l.length) : (flK l k).set k (tr l[k]) = flK l (k + 1) := by
  unfold flK
  rw [List.set_append_right _ _ (by simp; omega), List.length_map, List.length_take, show k - min k l.length = 0 by omega, List.drop_eq_getElem_cons h, List.set_cons_zero, List.take_succ_eq_append_getElem h, List.map_append]
  simp
theorem flK_same (l : List UInt8) (k : Nat) (h : k < l.length) (ht : tr l[k] = l[k]) : flK l (k + 1) = flK l k := by
  rw [← flK_set l k h, ht]
  have := flK_at l k h
  conv => lhs; rw [← this]
  exact List.set_getElem_self ..
set_option maxRecDepth 100000 in
theorem flat_c (w : World) (v : Value) (xs : List UInt8) (h : Rd w v xs) (hm : MX w) (hl : xs.length ≤ 8388608) :
    Calls Tryz.prog 147 #[v] w fun e w' => ∃ v', e = .returned v' ∧ OwnB w.heap.size w' v' (pl true xs) ∧ Below w.heap.size w w' := by
  have HC := Lib.hid (lines_c w v xs h hm hl)
  have hll := Nat.le_trans (lns_len xs) hl
  have HP := Lib.hid (show pl true xs = flK (lns xs) (lns xs).length from by simp [pl, flK])
  obtain ⟨l, hle⟩ : ∃ l, l = lns xs := ⟨_, rfl⟩
  rw [← hle] at HC HP hll
  clear h hm hl hle
  go_enter Tryz.func147, Tryz.ntmps147
  go_wp2_with fail
  refine HC.out.mono ?_
  rintro e w1 ⟨v1, rfl, hown, hb⟩
  have HB := Lib.hid hb
  clear hb HC
  rcases hown with ⟨rfl, rfl⟩ | ⟨g, c, hv, hr⟩
  · have HW := Lib.hid (show OwnB w.heap.size w1 (.slice none 0 0) (pl true xs) from .inl ⟨rfl, by rw [HP.out]; rfl⟩)
    go_wp2_with fail
    go_loopw [9] (fun s9 wr => s9 = .int .i64 0 ∧ wr = w1) (fun _ _ => 0)
    case atStart => exact ⟨rfl, rfl⟩
    case round =>
      obtain ⟨rfl, rfl⟩ := hrel
      go_wp2
      go_ret
      exact ⟨_, rfl, HW.out, HB.out⟩
  · have hown : OwnB w.heap.size w1 v1 l := .inr ⟨g, c, hv, hr⟩
    rw [hv] at hown
    subst hv
    obtain ⟨hn, hBg, hnc, hcm, _⟩ := ownB_at hown
    obtain ⟨n, hn'⟩ : ∃ n, n = l.length := ⟨_, rfl⟩
    rw [← hn'] at hown hnc ⊢
    have HO := Lib.hid hown
    have HN := Lib.hid hn'
    have hnl : n ≤ 8388608 := by omega
    unfold maxLen at hcm
    clear hown hr hn hn' hll
    go_wp2_with fail
    go_loopw [9] (fun s9 wr => ∃ k : Nat, k ≤ n ∧ s9 = .int .i64 k ∧ OwnB w.heap.size wr (.slice (some ⟨g, 0, none⟩) n c) (flK l k) ∧ Below w.heap.size w wr) (fun s9 _ => n - (intOf s9).toNat)
    case atStart => exact ⟨0, by omega, rfl, by simpa [flK] using HO.out, HB.out⟩
    case round =>
      obtain ⟨k, hk, rfl, hown, hb⟩ := hrel
      have HW := Lib.hid hown
      have HBr := Lib.hid hb
      by_cases hlt : k < n
      · have hkl : k < l.length := by have := HN.out; omega
        obtain ⟨_, _, _, _, hcell⟩ := ownB_at hown
        obtain ⟨c1, f1⟩ := hcell k (by rw [flK_len]; exact hkl)
        rw [flK_at l k hkl] at c1
        obtain ⟨x, hx⟩ : ∃ x, x = l[k] := ⟨_, rfl⟩
        rw [← hx] at c1
        have hxl := x.toNat_lt
        have HS := Lib.hid (fun (y : UInt8) (hy : tr x = y) => show OwnB w.heap.size (wr.setCell ⟨g, k, none⟩ (.int .u8 (y.toNat : Int))) (.slice (some ⟨g, 0, none⟩) n c) (flK l (k + 1)) from by rw [← flK_set l k hkl, ← hx, hy]; exact ownB_set hown k (by rw [flK_len]; exact hkl) y)
        have HZ := Lib.hid (fun (hy : tr x = x) => show OwnB w.heap.size wr (.slice (some ⟨g, 0, none⟩) n c) (flK l (k + 1)) from by rw [flK_same l k hkl (by rw [← hx]; exact hy)]; exact hown)
        clear hcell hown hb hx hkl
        by_cases h10 : x = 10
        · subst h10
          have hz := HS.out 32 rfl
          have HZZ := Lib.hid hz
          clear hz
          go_wp2_with fail
          go_roundw
          case rel => exact ⟨k + 1, by omega, by go_num, HZZ.out, HBr.out.setCell (p := ⟨g, k, none⟩) hBg _⟩
          case measure => simp [intOf]; omega
        · by_cases h9 : x = 9
          · subst h9
            have hz := HS.out 32 rfl
            have HZZ := Lib.hid hz
            clear hz
            go_wp2_with fail
            go_roundw
            case rel => exact ⟨k + 1, by omega, by go_num, HZZ.out, HBr.out.setCell (p := ⟨g, k, none⟩) hBg _⟩
            case measure => simp [intOf]; omega
          · have hz := HZ.out (by rw [tr, if_neg (by simp [h9, h10])])
            have HZZ := Lib.hid hz
            have t10 : ((x.toNat : Int) == 10) = false := by
              rw [beq_eq_false_iff_ne]
              intro e
              exact h10 (UInt8.toNat_inj.1 (by simp; omega))
            have t9 : ((x.toNat : Int) == 9) = false := by
              rw [beq_eq_false_iff_ne]
              intro e
              exact h9 (UInt8.toNat_inj.1 (by simp; omega))
            clear hz h9 h10
            go_wp2_with fail
            go_roundw
            case rel => exact ⟨k + 1, by omega, by go_num, HZZ.out, HBr.out⟩
            case measure => simp [intOf]; omega
      · obtain rfl : k = n := by omega
        have HF := Lib.hid (show OwnB w.heap.size wr (.slice (some ⟨g, 0, none⟩) k c) (pl true xs) from by rw [HP.out, ← HN.out]; exact hown)
        clear hown hb
        go_wp2_with fail
        go_ret
        exact ⟨_, rfl, HF.out, HBr.out⟩
end Go.Proofs.YtpcajjbdlfookaaGreatDoor
