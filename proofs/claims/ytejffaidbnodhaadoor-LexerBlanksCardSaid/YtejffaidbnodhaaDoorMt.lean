/- lexer: value's quoted, Print of a text. -/
import Derived.Test.YtejffaidbnodhaaDoorLp
import Derived.Test.YtejffaidbnodhaaDoorShelb
import Derived.Test.YtejffaidbnodhaaDoorMs
import Derived.Test.YtejffaidbnodhaaDoorNu
namespace Go.Proofs.YtejffaidbnodhaaDoor
open Go.RowKit
set_option linter.unusedVariables false

def qc (c : UInt8) : List UInt8 := if c = 34 ∨ c = 92 then [92, c] else [c]
/-- The bytes between the quotes. -/
def qs (l : List UInt8) : List UInt8 := l.flatMap qc
def quoteL (l : List UInt8) : List UInt8 := 34 :: (qs l ++ [34])
theorem qc_len (c : UInt8) : (qc c).length ≤ 2 := by unfold qc; split <;> simp
theorem qs_len (l : List UInt8) : (qs l).length ≤ 2 * l.length := by
  induction l with
  | nil => simp [qs]
  | cons c r ih =>
    have := qc_len c
    have e : qs (c :: r) = qc c ++ qs r := by simp [qs]
    rw [e, List.length_append, List.length_cons]
    omega
theorem take_next (s : ByteArray) (k : Nat) (h : k < s.size) : s.data.toList.take (k + 1) = s.data.toList.take k ++ [s[k]] := by
  have hl : k < s.data.toList.length := by rw [Array.length_toList]; exact h
  rw [List.take_add_one, List.getElem?_eq_getElem hl]
  rfl
theorem qs_next (s : ByteArray) (k : Nat) (h : k < s.size) : qs (s.data.toList.take (k + 1)) = qs (s.data.toList.take k) ++ qc s[k] := by
  rw [take_next s k h]
  simp [qs]
theorem take_all (s : ByteArray) : s.data.toList.take s.size = s.data.toList := by
  apply List.take_of_length_le
  rw [Array.length_toList]
  exact Nat.le_refl _

abbrev BA (B b : Nat) (l : List UInt8) (w : World) : Prop := Lib.BuilderAt 73 5 B b (.pointer (some ⟨b, 0, none⟩)) (Lib.byteCells l) w
theorem bytes_one (l : List UInt8) (c : UInt8) : Lib.byteCells l ++ [.int .u8 (c.toNat : Int)] = Lib.byteCells (l ++ [c]) := by simp [Lib.byteCells]
theorem wbyte (w : World) (B b : Nat) (l : List UInt8) (c : UInt8) (h : BA B b l w) (hl : l.length ≤ 4194304) (hB : B ≤ w.heap.size) :
    Calls Tryd.prog 64 #[.pointer (some ⟨b, 0, none⟩), .int .u8 (c.toNat : Int)] w fun e w' => e = .returned .nilIface ∧ BA B b (l ++ [c]) w' ∧ Below B w w' := by
  have := writeByte_c B b (Lib.byteCells l) (c.toNat : Int) w (.inr h) (by rw [Lib.byteCells_length]; omega) hB
  rw [bytes_one] at this
  exact this

set_option maxRecDepth 100000 in
set_option maxHeartbeats 2000000 in
theorem quoted_c (w : World) (s : ByteArray) (hs : s.size ≤ 1048576) : Calls Tryd.prog 49 #[.string s] w fun e w' => e = .returned (.string ⟨(quoteL s.data.toList).toArray⟩) ∧ Below w.heap.size w w' := by
  have HF := Lib.hid (writeByte_c w.heap.size w.heap.size [] 34 _ (Lib.fresh_isBuilder 73 5 w) (by simp) (by simp))
  have HB0 := Lib.hid (box_below w (.cells #[.pointer none, .slice none 0 0] 73))
  go_enter Tryd.func49, Tryd.ntmps49
  go_wp2_with fail
  refine HF.out.mono ?_
  rintro e w1 ⟨rfl, hb, hbl⟩
  have HB1 := Lib.hid (show BA w.heap.size w.heap.size [34] w1 from hb)
  have HX1 := Lib.hid (HB0.out.trans hbl)
  clear hb hbl
  go_wp2_with fail
  go_loopw [8] (fun i wr => ∃ k : Nat, k ≤ s.size ∧ i = .int .i64 k ∧ BA w.heap.size w.heap.size (34 :: qs (s.data.toList.take k)) wr ∧ Below w.heap.size w wr) (fun i _ => s.size - (intOf i).toNat)
  case atStart => exact ⟨0, by omega, rfl, HB1.out, HX1.out⟩
  case round =>
    obtain ⟨k, hk, rfl, hba, hbl⟩ := hrel
    have HBA := Lib.hid hba
    have HBL := Lib.hid hbl
    have hL : (34 :: qs (s.data.toList.take k)).length ≤ 2097200 := by
      have := qs_len (s.data.toList.take k)
      rw [List.length_take] at this
      simp only [List.length_cons]
      omega
    have HL := Lib.hid hL
    clear hba hbl hL
    by_cases hlt : k < s.size
    · have HN := Lib.hid (qs_next s k hlt)
      obtain ⟨c, hc⟩ : ∃ c, c = s[k] := ⟨_, rfl⟩
      rw [← hc] at HN
      have hcl : s[k].toNat = c.toNat := by rw [hc]
      have hc8 := (s[k]).toNat_lt
      by_cases hq : c = 34 ∨ c = 92
      · have HQ := Lib.hid (show qc c = [92] ++ [c] from by unfold qc; rw [if_pos hq]; rfl)
        have HW1 := Lib.hid (fun wr' (h : BA w.heap.size w.heap.size (34 :: qs (s.data.toList.take k)) wr') (hB : w.heap.size ≤ wr'.heap.size) => wbyte wr' _ _ _ 92 h (by have := HL.out; omega) hB)
        have HW2 := Lib.hid (fun wr' (h : BA w.heap.size w.heap.size ((34 :: qs (s.data.toList.take k)) ++ [92]) wr') (hB : w.heap.size ≤ wr'.heap.size) => (hcl ▸ wbyte wr' _ _ _ c h (by have := HL.out; rw [List.length_append]; simp only [List.length_singleton]; omega) hB : Calls Tryd.prog 64 #[.pointer (some ⟨w.heap.size, 0, none⟩), .int .u8 (s[k].toNat : Int)] wr' fun e w' => e = .returned .nilIface ∧ BA w.heap.size w.heap.size (((34 :: qs (s.data.toList.take k)) ++ [92]) ++ [c]) w' ∧ Below w.heap.size wr' w'))
        have hv : s[k].toNat = 34 ∨ (s[k].toNat = 92 ∧ ((s[k].toNat : Int) == 34) = false) := by
          rcases hq with h | h
          · left; rw [hcl, h]; rfl
          · right; rw [hcl, h]; exact ⟨rfl, rfl⟩
        clear hc hcl hq
        rcases hv with hv | ⟨hv, hv2⟩
        · have t1 : ((s[k].toNat : Int) == 34) = true := by rw [hv]; rfl
          clear hv
          go_wp2_with fail
          refine (HW1.out _ HBA.out HBL.out.size).mono ?_
          rintro e w2 ⟨rfl, hba, hbl⟩
          have HB2 := Lib.hid hba
          have HX2 := Lib.hid (HBL.out.trans hbl)
          clear hba hbl
          go_wp2_with fail
          refine (HW2.out _ HB2.out HX2.out.size).mono ?_
          rintro e w3 ⟨rfl, hba, hbl⟩
          have HB3 := Lib.hid hba
          have HX3 := Lib.hid (HX2.out.trans hbl)
          clear hba hbl
          go_wp2_with fail
          go_roundw
          case rel => exact ⟨k + 1, by omega, by go_num, by rw [HN.out, HQ.out]; have := HB3.out; simpa using this, HX3.out⟩
          case measure => simp [intOf]; omega
        · have t1 : ((s[k].toNat : Int) == 92) = true := by rw [hv]; rfl
          clear hv
          go_wp2_with fail
          refine (HW1.out _ HBA.out HBL.out.size).mono ?_
          rintro e w2 ⟨rfl, hba, hbl⟩
          have HB2 := Lib.hid hba
          have HX2 := Lib.hid (HBL.out.trans hbl)
          clear hba hbl
          go_wp2_with fail
          refine (HW2.out _ HB2.out HX2.out.size).mono ?_
          rintro e w3 ⟨rfl, hba, hbl⟩
          have HB3 := Lib.hid hba
          have HX3 := Lib.hid (HX2.out.trans hbl)
          clear hba hbl
          go_wp2_with fail
          go_roundw
          case rel => exact ⟨k + 1, by omega, by go_num, by rw [HN.out, HQ.out]; have := HB3.out; simpa using this, HX3.out⟩
          case measure => simp [intOf]; omega
      · have HQ := Lib.hid (show qc c = [c] from by unfold qc; rw [if_neg hq])
        have t1 : ((s[k].toNat : Int) == 34) = false := by
          rw [hcl]; simp only [beq_eq_false_iff_ne, ne_eq]; intro h; apply hq; left; exact UInt8.toNat_inj.1 (show c.toNat = 34 by omega)
        have t2 : ((s[k].toNat : Int) == 92) = false := by
          rw [hcl]; simp only [beq_eq_false_iff_ne, ne_eq]; intro h; apply hq; right; exact UInt8.toNat_inj.1 (show c.toNat = 92 by omega)
        have HW2 := Lib.hid (fun wr' (h : BA w.heap.size w.heap.size (34 :: qs (s.data.toList.take k)) wr') (hB : w.heap.size ≤ wr'.heap.size) => (hcl ▸ wbyte wr' _ _ _ c h (by have := HL.out; omega) hB : Calls Tryd.prog 64 #[.pointer (some ⟨w.heap.size, 0, none⟩), .int .u8 (s[k].toNat : Int)] wr' fun e w' => e = .returned .nilIface ∧ BA w.heap.size w.heap.size ((34 :: qs (s.data.toList.take k)) ++ [c]) w' ∧ Below w.heap.size wr' w'))
        clear hc hcl hq
        go_wp2_with fail
        refine (HW2.out _ HBA.out HBL.out.size).mono ?_
        rintro e w3 ⟨rfl, hba, hbl⟩
        have HB3 := Lib.hid hba
        have HX3 := Lib.hid (HBL.out.trans hbl)
        clear hba hbl
        go_wp2_with fail
        go_roundw
        case rel => exact ⟨k + 1, by omega, by go_num, by rw [HN.out, HQ.out]; have := HB3.out; simpa using this, HX3.out⟩
        case measure => simp [intOf]; omega
    · obtain rfl : k = s.size := by omega
      rw [take_all] at HBA HL
      have HW := Lib.hid (fun wr' (h : BA w.heap.size w.heap.size (34 :: qs s.data.toList) wr') (hB : w.heap.size ≤ wr'.heap.size) => wbyte wr' _ _ _ 34 h (by have := HL.out; omega) hB)
      go_wp2_with fail
      refine (HW.out _ HBA.out HBL.out.size).mono ?_
      rintro e w3 ⟨rfl, hba, hbl⟩
      have HB3 := Lib.hid (show Lib.IsBuilder 73 5 w.heap.size w.heap.size (Lib.byteCells (quoteL s.data.toList)) w3 from .inr hba)
      have HX3 := Lib.hid (HBL.out.trans hbl)
      clear hba hbl
      go_wp2_with fail
      refine (Tryd.Builder_String_any _ _ _ _ HB3.out HX3.out.size).mono ?_
      rintro e w4 ⟨rfl, hbl⟩
      have HX4 := Lib.hid (HX3.out.trans hbl)
      clear hbl
      go_wp2_with fail
      go_ret
      exact ⟨rfl, HX4.out⟩

theorem qs_esc (l : List UInt8) : qs l = escL l := by
  induction l with
  | nil => rfl
  | cons c t ih =>
    have e : qs (c :: t) = qc c ++ qs t := rfl
    rw [e, ih]
    unfold qc
    by_cases h : c.toNat = 34 ∨ c.toNat = 92
    · have h' : c = 34 ∨ c = 92 := h.imp (fun h => UInt8.toNat_inj.1 h) (fun h => UInt8.toNat_inj.1 h)
      conv => rhs; unfold escL
      rw [if_pos h, if_pos h']
      rfl
    · have h' : ¬ (c = 34 ∨ c = 92) := fun h2 => h (h2.imp (fun h => by rw [h]; rfl) (fun h => by rw [h]; rfl))
      conv => rhs; unfold escL
      rw [if_neg h, if_neg h']
      rfl
theorem quote_spell (t : List UInt8) : quoteL t = spellW ⟨3, t, 0⟩ := by
  unfold quoteL
  rw [qs_esc]
  rfl
set_option maxRecDepth 100000 in
theorem printT_c (w : World) (s : ByteArray) (hs : s.size ≤ 1048576) : Calls Tryd.prog 29 #[.agg #[.int .i64 3, .int .i64 0, .bool false, .string s]] w fun e w' => e = .returned (.string ⟨(quoteL s.data.toList).toArray⟩) ∧ Below w.heap.size w w' := by
  have HB := Lib.hid (fun (o : Obj) => box_below w o)
  have HC := Lib.hid (fun w => quoted_c w s hs)
  clear hs
  go_enter Tryd.func29, Tryd.ntmps29
  go_wp2_with fail
  refine (HC.out _).mono ?_
  rintro e w2 ⟨rfl, hb⟩
  have HX := Lib.hid ((HB.out _).trans (hb.mono (by simp)))
  clear hb
  go_wp2_with fail
  go_ret
  exact ⟨rfl, HX.out⟩
theorem vtext_c (w : World) (n : ByteArray) : Calls Tryd.prog 30 #[.string n] w fun e w' => e = .returned (.agg #[.int .i64 3, .int .i64 0, .bool false, .string n]) ∧ w' = w.alloc (.cells #[.int .i64 3, .int .i64 0, .bool false, .string n] 34) := by
  go_enter Tryd.func30, Tryd.ntmps30
  go_wp2
  refine bodyPost_ret (v := .agg #[.int .i64 3, .int .i64 0, .bool false, .string n]) (by simp [results, Tryd.results30, go_sem]) rfl ⟨rfl, rfl⟩
end Go.Proofs.YtejffaidbnodhaaDoor
