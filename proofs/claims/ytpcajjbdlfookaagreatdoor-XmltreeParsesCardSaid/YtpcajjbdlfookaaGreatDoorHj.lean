/- strconv.ParseUint at base 10 or 16, of at most 32 bits. -/
import Derived.Test.YtpcajjbdlfookaaGreatDoorHa
import Derived.Test.YtpcajjbdlfookaaGreatDoorBy
import Derived.Test.YtpcajjbdlfookaaGreatDoorShelf
import Derived.Lib.ConvBytes
import Derived.Lib.Strings
import Derived.Lib.Walk
import Derived.Laws.Strings3
import Derived.Laws.Closers25
import Derived.Laws.Closers25b
import Derived.BigCall
import Derived.BigGuard
import Derived.Lib.Hide
namespace Go.Proofs.YtpcajjbdlfookaaGreatDoor
open Go.RowKit
set_option linter.unusedVariables false

theorem bytesW_below (w : World) (e : TypeId) (s : ByteArray) : Below w.heap.size w (Lib.bytesWorld w e s) := ⟨rfl, rfl, rfl, by rw [Lib.bytesWorld_size]; omega, fun k hk => Lib.bytesWorld_at_old w e s k hk⟩
theorem bytesW_rd (w : World) (e : TypeId) (s : ByteArray) (hs : s.size ≤ 4194304) : Rd (Lib.bytesWorld w e s) (.slice (some ⟨w.heap.size, 0, none⟩) s.size (grownCap w s.size 0 e)) s.data.toList := by
  have hl : s.data.toList.length = s.size := by rw [Array.length_toList]; rfl
  refine ⟨_, _, by rw [hl], by rw [hl]; exact grownCap_ge _ _ _ _, grownCap_le_maxLen _ _ _ _ (by unfold maxLen; omega), by simp, fun _ => ⟨w.heap.size, 0, rfl, fun i hi => ?_⟩⟩
  rw [Nat.zero_add, Lib.bytesWorld_cell w e s i (by omega), show s.data.toList.getD i 0 = s.data.toList[i] from by simp only [List.getD, List.getElem?_eq_getElem hi, Option.getD_some]]

def lowN (n : Nat) : Nat := if (n / 32) % 2 = 1 then n else n + 32
theorem low_bits : ∀ n : Fin 256, bits .or .u8 (n.val : Int) 32 = ((lowN n.val : Nat) : Int) := by decide +kernel
theorem lower_c (w : World) (c : UInt8) : Calls Tryz.prog 167 #[.int .u8 (c.toNat : Int)] w fun e w' => e = .returned (.int .u8 (lowN c.toNat : Nat)) ∧ w' = w := by
  have h := Lib.hid (low_bits ⟨c.toNat, c.toNat_lt⟩)
  go_enter Tryz.func167, Tryz.ntmps167
  go_wp2
  go_ret
  exact ⟨by rw [← h.out]; rfl, rfl⟩
theorem low_hex : ∀ n : Fin 256, ¬ (48 ≤ n.val ∧ n.val ≤ 57) → ((97 ≤ lowN n.val ∧ lowN n.val ≤ 102) ↔ ((97 ≤ n.val ∧ n.val ≤ 102) ∨ (65 ≤ n.val ∧ n.val ≤ 70))) := by decide +kernel
theorem low_val : ∀ n : Fin 256, ((97 ≤ n.val ∧ n.val ≤ 102) → lowN n.val = n.val) ∧ ((65 ≤ n.val ∧ n.val ≤ 70) → lowN n.val = n.val + 32) ∧ lowN n.val ≤ 255 := by decide +kernel
theorem dgt_dig {B : Nat} {c : UInt8} (hB : B = 10 ∨ B = 16) (h : 48 ≤ c.toNat ∧ c.toNat ≤ 57) : dgt B c = some (c.toNat - 48) := by
  unfold dgt
  rw [if_pos h]
  dsimp only
  rw [if_pos (by omega)]
theorem dgt_hex {c : UInt8} (h : ¬ (48 ≤ c.toNat ∧ c.toNat ≤ 57)) (h2 : 97 ≤ lowN c.toNat ∧ lowN c.toNat ≤ 102) : dgt 16 c = some (lowN c.toNat - 87) := by
  have h3 := (low_hex ⟨c.toNat, c.toNat_lt⟩ h).1 h2
  obtain ⟨v1, v2, _⟩ := low_val ⟨c.toNat, c.toNat_lt⟩
  dsimp only at h3 v1 v2
  unfold dgt
  rw [if_neg h]
  rcases h3 with h3 | h3
  · rw [if_pos h3, v1 h3]
    dsimp only
    rw [if_pos (by omega)]
  · rw [if_neg (show ¬ (97 ≤ c.toNat ∧ c.toNat ≤ 102) by omega), if_pos h3, v2 h3]
    dsimp only
    rw [if_pos (by omega)]
    first | rfl | (congr 1; done) | (congr 1; omega)
theorem dgt_no {B : Nat} {c : UInt8} (hB : B = 10 ∨ B = 16) (h : ¬ (48 ≤ c.toNat ∧ c.toNat ≤ 57)) (h2 : B = 10 ∨ ¬ (97 ≤ lowN c.toNat ∧ lowN c.toNat ≤ 102)) : dgt B c = none := by
  unfold dgt
  rw [if_neg h]
  rcases hB with rfl | rfl
  · dsimp only
    split
    · rw [if_neg (by omega)]
    · split
      · rw [if_neg (by omega)]
      · rw [if_neg (by omega)]
  · have h3 := mt (low_hex ⟨c.toNat, c.toNat_lt⟩ h).2 (by simpa using h2)
    dsimp only at h3
    rw [if_neg (show ¬ (97 ≤ c.toNat ∧ c.toNat ≤ 102) by omega), if_neg (show ¬ (65 ≤ c.toNat ∧ c.toNat ≤ 70) by omega)]
    rfl

def puN (B : Nat) (xs : List UInt8) : Option Nat := if xs = [] then none else numB B 4294967295 0 xs
def PUret (R : Option Nat) (e : Ending) : Prop := match R with
  | some n => e = .returned (.tuple #[.int .u64 (n : Nat), .nilIface])
  | none => ∃ (m : Int) (k : Int), (k = 1 ∨ k = 2) ∧ e = .returned (.tuple #[.int .u64 m, .iface 198 (.int .i64 k)])

set_option maxHeartbeats 8000000 in
set_option maxRecDepth 100000 in
theorem puint_c (w : World) (B : Nat) (hB : B = 10 ∨ B = 16) (t : ByteArray) (hmax : t.size ≤ 9223372036854775806) :
    Calls Tryz.prog 163 #[.string t, .int .i64 (B : Nat), .int .i64 32] w fun e w' => PUret (puN B t.data.toList) e ∧ Below w.heap.size w w' := by
  have hB0 := hB
  by_cases hne : t.size = 0
  · have HE := Lib.hid (show puN B t.data.toList = none from by
      have : t.data.toList = [] := List.eq_nil_of_length_eq_zero (by rw [Array.length_toList]; exact hne)
      unfold puN
      rw [if_pos this])
    have hemp : t.toList.isEmpty = true := by
      rw [← decide_eq_emptyBytes]
      exact decide_eq_true (by
        obtain ⟨⟨l⟩⟩ := t
        cases l with
        | nil => rfl
        | cons x l => simp [ByteArray.size] at hne)
    clear hne hB0
    rcases hB with rfl | rfl
    all_goals
      go_enter Tryz.func163, Tryz.ntmps163
      go_wp2
      go_ret2
      exact ⟨by rw [HE.out]; exact ⟨_, 2, .inr rfl, rfl⟩, Below.refl _ _⟩
  · have hemp : t.toList.isEmpty = false := by
      rw [← decide_eq_emptyBytes]
      exact decide_eq_false (fun h => hne (by rw [h]; rfl))
    have hcv := Lib.run_convert_string_bytes (P := Tryz.prog) w 9 22 5 t (u := .string) Tryz.underlying9 Tryz.underlying22 Tryz.underlying5
    have hBy : ∀ j, j < t.size → (Lib.bytesWorld w 5 t).cell? ⟨w.heap.size, j, none⟩ = some (.int .u8 (t.data.toList.getD j 0).toNat) := fun j hj => Lib.bytesWorld_cell w 5 t j hj
    have HBW := Lib.hid (show Below w.heap.size w (Lib.bytesWorld w 5 t) from bytesW_below w 5 t)
    obtain ⟨W1, hW1⟩ : ∃ W1, W1 = Lib.bytesWorld w 5 t := ⟨_, rfl⟩
    rw [← hW1] at hcv hBy HBW
    clear hW1
    obtain ⟨bs, hL⟩ : ∃ bs, bs = t.data.toList := ⟨_, rfl⟩
    have hLn : bs.length = t.size := by rw [hL, Array.length_toList]; rfl
    rw [← hL] at hBy ⊢
    have HP := Lib.hid (show puN B bs = numB B 4294967295 0 bs from by unfold puN; rw [if_neg (by intro e; rw [e] at hLn; simp at hLn; omega)])
    clear hL
    have hmv : IntKind.u64.wrap (IntKind.u64.wrap 4294967296 - 1) = 4294967295 := by
      rw [IntKind.wrap_u64, IntKind.wrap_u64]
      decide
    rcases hB with rfl | rfl
    · go_enter Tryz.func163, Tryz.ntmps163
      go_wp2
      go_loop [12, 13, 101] (fun vu vn vi => ∃ (k acc : Nat) (a : Int), vu = .bool false ∧ vn = .int .u64 a ∧ vi = .int .i64 k ∧ k ≤ t.size ∧ Hid (a = (acc : Int) ∧ acc ≤ 4294967295 ∧ numB 10 4294967295 0 bs = numB 10 4294967295 acc (bs.drop k)))
        (fun _ _ vi => t.size - (intOf vi).toNat)
      case atStart => exact ⟨0, 0, 0, rfl, rfl, rfl, by omega, rfl, by omega, rfl⟩
      case round =>
        obtain ⟨k, acc, a, rfl, rfl, rfl, hk, hh⟩ := hrel
        obtain ⟨ha, hacc, hdec⟩ := hh.out
        clear hh
        have a0 : 0 ≤ a := by omega
        have a1 : a ≤ 4294967295 := by omega
        by_cases hkn : k < t.size
        · have hc := hBy k hkn
          have hdrop : bs.drop k = bs[k]'(by omega) :: bs.drop (k + 1) := List.drop_eq_getElem_cons (by omega)
          have hget : bs.getD k 0 = bs[k]'(by omega) := by simp [List.getD, List.getElem?_eq_getElem (show k < bs.length by omega)]
          rw [hdrop] at hdec
          rw [hget] at hc
          generalize bs[k]'(by omega) = c at hc hdec
          have hc256 : c.toNat < 256 := c.toNat_lt
          clear hBy hdrop hget
          rw [numB] at hdec
          have HLow := Lib.hid (fun w => lower_c w c)
          have hL255 := (low_val ⟨c.toNat, c.toNat_lt⟩).2.2
          dsimp only at hL255
          by_cases hdig : 48 ≤ c.toNat ∧ c.toNat ≤ 57
          · rw [dgt_dig (B := 10) (.inl rfl) hdig] at hdec
            dsimp only at hdec
            obtain ⟨hd0, hd1⟩ := hdig
            by_cases hov : 4294967295 < acc * 10 + (c.toNat - 48)
            · rw [if_pos hov] at hdec
              have HD := Lib.hid hdec
              have iov : 4294967295 < a * 10 + ((c.toNat : Int) - 48) := by omega
              clear hacc hov ha hdec
              go_wp2
              go_ret2
              exact ⟨by rw [HP.out, HD.out]; exact ⟨_, 1, .inl rfl, rfl⟩, HBW.out⟩
            · rw [if_neg hov] at hdec
              have HN : Hid (a * 10 + ((c.toNat : Int) - 48) = ((acc * 10 + (c.toNat - 48) : Nat) : Int) ∧ acc * 10 + (c.toNat - 48) ≤ 4294967295 ∧ numB 10 4294967295 0 bs = numB 10 4294967295 (acc * 10 + (c.toNat - 48)) (bs.drop (k + 1))) := Lib.hid ⟨by omega, by omega, hdec⟩
              have iov : a * 10 + ((c.toNat : Int) - 48) ≤ 4294967295 := by omega
              clear hacc hov hdec ha
              go_wp2
              refine ⟨⟨k + 1, acc * 10 + (c.toNat - 48), a * 10 + ((c.toNat : Int) - 48), rfl, (by first | rfl | (congr 1; omega)), (by first | rfl | (congr 1; omega)), by omega, HN⟩, by simp [intOf]; omega⟩
          · have HDn := Lib.hid (show dgt 10 c = none from dgt_no (.inl rfl) hdig (.inl rfl))
            rw [HDn.out] at hdec
            have HD := Lib.hid hdec
            clear hacc ha hdec
            by_cases h95 : c.toNat = 95
            all_goals
              first | have t95 : ((c.toNat : Int) == 95) = true := by (simp; omega) | have t95 : ((c.toNat : Int) == 95) = false := by (simp; omega)
              clear h95
              go_wp2_with (go_at_call 167; refine (HLow.out _).mono ?_; rintro e w' ⟨rfl, rfl⟩)
              all_goals go_ret2
              all_goals exact ⟨by rw [HP.out, HD.out]; exact ⟨_, 2, .inr rfl, rfl⟩, HBW.out⟩
        · have hkk : k = t.size := by omega
          subst hkk
          have hF : numB 10 4294967295 acc (bs.drop t.size) = some acc := by rw [List.drop_eq_nil_of_le (by omega)]; rfl
          rw [hF] at hdec
          have HD := Lib.hid hdec
          subst ha
          clear hacc hF a0 a1 hdec
          go_wp2
          go_ret2
          exact ⟨by rw [HP.out, HD.out]; rfl, HBW.out⟩
    · go_enter Tryz.func163, Tryz.ntmps163
      go_wp2
      go_loop [12, 13, 101] (fun vu vn vi => ∃ (k acc : Nat) (a : Int), vu = .bool false ∧ vn = .int .u64 a ∧ vi = .int .i64 k ∧ k ≤ t.size ∧ Hid (a = (acc : Int) ∧ acc ≤ 4294967295 ∧ numB 16 4294967295 0 bs = numB 16 4294967295 acc (bs.drop k)))
        (fun _ _ vi => t.size - (intOf vi).toNat)
      case atStart => exact ⟨0, 0, 0, rfl, rfl, rfl, by omega, rfl, by omega, rfl⟩
      case round =>
        obtain ⟨k, acc, a, rfl, rfl, rfl, hk, hh⟩ := hrel
        obtain ⟨ha, hacc, hdec⟩ := hh.out
        clear hh
        have a0 : 0 ≤ a := by omega
        have a1 : a ≤ 4294967295 := by omega
        by_cases hkn : k < t.size
        · have hc := hBy k hkn
          have hdrop : bs.drop k = bs[k]'(by omega) :: bs.drop (k + 1) := List.drop_eq_getElem_cons (by omega)
          have hget : bs.getD k 0 = bs[k]'(by omega) := by simp [List.getD, List.getElem?_eq_getElem (show k < bs.length by omega)]
          rw [hdrop] at hdec
          rw [hget] at hc
          generalize bs[k]'(by omega) = c at hc hdec
          have hc256 : c.toNat < 256 := c.toNat_lt
          clear hBy hdrop hget
          rw [numB] at hdec
          have HLow := Lib.hid (fun w => lower_c w c)
          have hL255 := (low_val ⟨c.toNat, c.toNat_lt⟩).2.2
          dsimp only at hL255
          by_cases hdig : 48 ≤ c.toNat ∧ c.toNat ≤ 57
          · rw [dgt_dig (B := 16) (.inr rfl) hdig] at hdec
            dsimp only at hdec
            obtain ⟨hd0, hd1⟩ := hdig
            by_cases hov : 4294967295 < acc * 16 + (c.toNat - 48)
            · rw [if_pos hov] at hdec
              have HD := Lib.hid hdec
              have iov : 4294967295 < a * 16 + ((c.toNat : Int) - 48) := by omega
              clear hacc hov ha hdec
              go_wp2
              go_ret2
              exact ⟨by rw [HP.out, HD.out]; exact ⟨_, 1, .inl rfl, rfl⟩, HBW.out⟩
            · rw [if_neg hov] at hdec
              have HN : Hid (a * 16 + ((c.toNat : Int) - 48) = ((acc * 16 + (c.toNat - 48) : Nat) : Int) ∧ acc * 16 + (c.toNat - 48) ≤ 4294967295 ∧ numB 16 4294967295 0 bs = numB 16 4294967295 (acc * 16 + (c.toNat - 48)) (bs.drop (k + 1))) := Lib.hid ⟨by omega, by omega, hdec⟩
              have iov : a * 16 + ((c.toNat : Int) - 48) ≤ 4294967295 := by omega
              clear hacc hov hdec ha
              go_wp2
              refine ⟨⟨k + 1, acc * 16 + (c.toNat - 48), a * 16 + ((c.toNat : Int) - 48), rfl, (by first | rfl | (congr 1; omega)), (by first | rfl | (congr 1; omega)), by omega, HN⟩, by simp [intOf]; omega⟩
          · by_cases h6 : 97 ≤ lowN c.toNat ∧ lowN c.toNat ≤ 102
            · rw [dgt_hex hdig h6] at hdec
              dsimp only at hdec
              have t95 : ((c.toNat : Int) == 95) = false := by
                have := (low_hex ⟨c.toNat, c.toNat_lt⟩ hdig).1 h6
                dsimp only at this
                simp
                omega
              obtain ⟨h60, h61⟩ := h6
              obtain ⟨L, hLL⟩ : ∃ L, L = lowN c.toNat := ⟨_, rfl⟩
              rw [← hLL] at hdec h60 h61 HLow hL255
              by_cases hov : 4294967295 < acc * 16 + (L - 87)
              · rw [if_pos hov] at hdec
                have HD := Lib.hid hdec
                have iov : 4294967295 < a * 16 + ((L : Int) - 97 + 10) := by omega
                clear hacc hov ha hdec hLL
                go_wp2_with (go_at_call 167; refine (HLow.out _).mono ?_; rintro e w' ⟨rfl, rfl⟩)
                all_goals go_ret2
                all_goals exact ⟨by rw [HP.out, HD.out]; exact ⟨_, 1, .inl rfl, rfl⟩, HBW.out⟩
              · rw [if_neg hov] at hdec
                have HN : Hid (a * 16 + ((L : Int) - 97 + 10) = ((acc * 16 + (L - 87) : Nat) : Int) ∧ acc * 16 + (L - 87) ≤ 4294967295 ∧ numB 16 4294967295 0 bs = numB 16 4294967295 (acc * 16 + (L - 87)) (bs.drop (k + 1))) := Lib.hid ⟨by omega, by omega, hdec⟩
                have iov : a * 16 + ((L : Int) - 97 + 10) ≤ 4294967295 := by omega
                clear hacc hov hdec ha hLL
                go_wp2_with (go_at_call 167; refine (HLow.out _).mono ?_; rintro e w' ⟨rfl, rfl⟩)
                all_goals refine ⟨⟨k + 1, acc * 16 + (L - 87), a * 16 + ((L : Int) - 97 + 10), rfl, (by first | rfl | (congr 1; omega)), (by first | rfl | (congr 1; omega)), by omega, HN⟩, by simp [intOf]; omega⟩
            · have HDn := Lib.hid (show dgt 16 c = none from dgt_no (.inr rfl) hdig (.inr h6))
              rw [HDn.out] at hdec
              have HD := Lib.hid hdec
              clear hacc ha hdec
              by_cases h95 : c.toNat = 95
              all_goals
                first | have t95 : ((c.toNat : Int) == 95) = true := by (simp; omega) | have t95 : ((c.toNat : Int) == 95) = false := by (simp; omega)
                clear h95
                go_wp2_with (go_at_call 167; refine (HLow.out _).mono ?_; rintro e w' ⟨rfl, rfl⟩)
                all_goals go_ret2
                all_goals exact ⟨by rw [HP.out, HD.out]; exact ⟨_, 2, .inr rfl, rfl⟩, HBW.out⟩
        · have hkk : k = t.size := by omega
          subst hkk
          have hF : numB 16 4294967295 acc (bs.drop t.size) = some acc := by rw [List.drop_eq_nil_of_le (by omega)]; rfl
          rw [hF] at hdec
          have HD := Lib.hid hdec
          subst ha
          clear hacc hF a0 a1 hdec
          go_wp2
          go_ret2
          exact ⟨by rw [HP.out, HD.out]; rfl, HBW.out⟩
end Go.Proofs.YtpcajjbdlfookaaGreatDoor
