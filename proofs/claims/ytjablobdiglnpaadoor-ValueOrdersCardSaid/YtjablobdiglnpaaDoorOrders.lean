/- Proved: for all integers n and m and all strings s and t, the law ValueOrders returns true: of two integers, or two texts that may be, just one of below, the same, above holds. Conditions: the decoder's two tables of unicode/utf8 hold what Go's text lays (the card ties them). -/
import Derived.Test.YtjablobdiglnpaaDoorKq
import Derived.Test.YtjablobdiglnpaaDoorKo
import Derived.Test.YtjablobdiglnpaaDoorTb
import Derived.ShutString
import Derived.ChangeOld
namespace Go.Proofs.YtjablobdiglnpaaDoor.valueOrders
open Go.ChangeShapes Go.WideShapes Go.ChangeAt Go.RowKit
open Go.ChangeMaps (open_string shut_string)
set_option linter.unusedVariables false

set_option maxRecDepth 100000 in
set_option maxHeartbeats 4000000 in
theorem walk (n m : Int) (s t : ByteArray) (w : World) (hT : Tabs w) (wn : (Lit.int .i64 n).wf = true) (wm : (Lit.int .i64 m).wf = true) (hs : s.size ≤ 140737488351232) (ht : t.size ≤ 140737488351232) :
    Calls Tryd.prog 6 #[.int .i64 n, .int .i64 m, .string s, .string t] w fun e w' => e = .returned (.bool true) ∧ Below w.heap.size w w' := by
  have HT := Lib.hid hT
  have HW := Lib.hid (fun (w : World) (hT : Tabs w) => awake_c w hT)
  have hn : -9223372036854775808 ≤ n ∧ n ≤ 9223372036854775807 := by simpa [Lit.wf, IntKind.min, IntKind.max, IntKind.signed, IntKind.bits] using wn
  have hm : -9223372036854775808 ≤ m ∧ m ≤ 9223372036854775807 := by simpa [Lit.wf, IntKind.min, IntKind.max, IntKind.signed, IntKind.bits] using wm
  have HN := Lib.hid (And.intro (int_ok n hn) (int_ok m hm))
  have hs2 : (s.extract 0 (min (s.size : Int) 100).toNat).size ≤ 9223372036854775807 := by rw [ByteArray.size_extract]; omega
  have ht2 : (t.extract 0 (min (t.size : Int) 100).toNat).size ≤ 9223372036854775807 := by rw [ByteArray.size_extract]; omega
  have HS := Lib.hid (And.intro hs2 ht2)
  clear hT hn hm wn wm hs2 ht2
  go_enter Tryd.func6, Tryd.ntmps6
  go_wp2_with fail
  go_quiet (fail)
  go_wp2_with (first
    | (go_at_call 7; refine (vint_c _ _).mono ?_; rintro e w' ⟨rfl, rfl⟩)
    | (go_at_call 11; refine (vtext_c _ _).mono ?_; rintro e w' ⟨rfl, rfl⟩))
  generalize s.extract 0 (min (s.size : Int) 100).toNat = s2 at *
  generalize t.extract 0 (min (t.size : Int) 100).toNat = t2 at *
  clear hs ht
  have hk0 : ∀ q, Below w.heap.size w (((((w.drewN q).alloc (.cells #[.int .i64 1, .int .i64 n, .bool false, .string ⟨#[]⟩] 23)).alloc (.cells #[.int .i64 1, .int .i64 m, .bool false, .string ⟨#[]⟩] 23)).alloc (.cells #[.int .i64 3, .int .i64 0, .bool false, .string s2] 23)).alloc (.cells #[.int .i64 3, .int .i64 0, .bool false, .string t2] 23)) := fun q => (((((show Below w.heap.size w (w.drewN q) from ⟨rfl, rfl, rfl, Nat.le_refl _, fun _ _ => rfl⟩)).alloc (Nat.le_refl _) _).alloc (by simp) _).alloc (by simp; omega) _).alloc (by simp; omega) _
  have HK0 := Lib.hid hk0
  clear hk0
  go_loopw [46] (fun i wr => ∃ k : Nat, i = .int .i64 k ∧ k ≤ 2 ∧ Below w.heap.size w wr ∧ wr.heap[w.heap.size + 1 + 1 + 1 + 1]? = some (.cells #[.int .i64 1, .int .i64 n, .bool false, .string ⟨#[]⟩, .int .i64 1, .int .i64 m, .bool false, .string ⟨#[]⟩, .int .i64 3, .int .i64 0, .bool false, .string s2, .int .i64 3, .int .i64 0, .bool false, .string t2] 41 (0, 0))) (fun i _ => 2 - (intOf i).toNat)
  case atStart => exact ⟨0, rfl, by omega, (HK0.out _).alloc (by simp; omega) _, by have := heap_alloc_new (((((w.drewN nq).alloc (.cells #[.int .i64 1, .int .i64 n, .bool false, .string ⟨#[]⟩] 23)).alloc (.cells #[.int .i64 1, .int .i64 m, .bool false, .string ⟨#[]⟩] 23)).alloc (.cells #[.int .i64 3, .int .i64 0, .bool false, .string s2] 23)).alloc (.cells #[.int .i64 3, .int .i64 0, .bool false, .string t2] 23)) (.cells #[.int .i64 1, .int .i64 n, .bool false, .string ⟨#[]⟩, .int .i64 1, .int .i64 m, .bool false, .string ⟨#[]⟩, .int .i64 3, .int .i64 0, .bool false, .string s2, .int .i64 3, .int .i64 0, .bool false, .string t2] 41); simpa using this⟩
  case round =>
    obtain ⟨k, rfl, hk, hB, hA⟩ := hrel
    have HB0 := Lib.hid hB
    have HA0 := Lib.hid hA
    have hlt := ltB hA
    clear hB hA
    rcases (by omega : k = 0 ∨ k = 1 ∨ k = 2) with rfl | rfl | rfl
    · obtain ⟨a0, a1, a2, a3, a4, a5, a6, a7⟩ := (box16 HA0.out).1
      have HV := Lib.hid (HB0.out.alloc HB0.out.size (.cells #[.int .i64 1, .int .i64 n, .bool false, .string ⟨#[]⟩, .int .i64 1, .int .i64 m, .bool false, .string ⟨#[]⟩] 41))
      have HTb := Lib.hid (heap_alloc_new wr (.cells #[.int .i64 1, .int .i64 n, .bool false, .string ⟨#[]⟩, .int .i64 1, .int .i64 m, .bool false, .string ⟨#[]⟩] 41))
      have HAr := Lib.hid (keepA HA0.out (.cells #[.int .i64 1, .int .i64 n, .bool false, .string ⟨#[]⟩, .int .i64 1, .int .i64 m, .bool false, .string ⟨#[]⟩] 41))
      have HCX := fun w => rcan_c w (intV n)
      have HCY := fun w => rcan_c w (intV m)
      skip
      have hc := cmp_int n m
      rcases hc.1 with h | h | h
      · obtain ⟨d12, d13, d14, d15, d16⟩ := ords5 (intV n) (intV m) (can_int n) (can_int m) rfl (.inl rfl) (-1) h (by rw [hc.2, h])
        have HD12 := Lib.hid (do_lit 12 1 n false ⟨#[]⟩ 1 m false ⟨#[]⟩ true HN.out.1 HN.out.2 d12)
        have HD13 := Lib.hid (do_lit 13 1 n false ⟨#[]⟩ 1 m false ⟨#[]⟩ true HN.out.1 HN.out.2 d13)
        have HD14 := Lib.hid (do_lit 14 1 n false ⟨#[]⟩ 1 m false ⟨#[]⟩ false HN.out.1 HN.out.2 d14)
        have HD15 := Lib.hid (do_lit 15 1 n false ⟨#[]⟩ 1 m false ⟨#[]⟩ false HN.out.1 HN.out.2 d15)
        have HD16 := Lib.hid (do_lit 16 1 n false ⟨#[]⟩ 1 m false ⟨#[]⟩ false HN.out.1 HN.out.2 d16)
        clear h hc d12 d13 d14 d15 d16
        simp only [can_int] at HCX HCY
        simp only [intV, Vl.val] at HCX HCY
        have HCX' := Lib.hid HCX
        have HCY' := Lib.hid HCY
        clear HCX HCY
        go_wp2_with fail
        refine (HCX'.out _).mono ?_
        rintro e v1 ⟨rfl, hb⟩
        have HV1 := Lib.hid (HV.out.trans (hb.mono HV.out.size))
        have HT1 := Lib.hid (keepB hb HTb.out)
        have HA1 := Lib.hid (keepB hb HAr.out)
        clear hb
        obtain ⟨b0, b1, b2, b3, b4, b5, b6, b7⟩ := box8 HT1.out
        go_wp2_with fail
        refine (HCY'.out _).mono ?_
        rintro e v2 ⟨rfl, hb⟩
        have HV2 := Lib.hid (HV1.out.trans (hb.mono HV1.out.size))
        have HT2 := Lib.hid (keepB hb HT1.out)
        have HA2 := Lib.hid (keepB hb HA1.out)
        clear hb b0 b1 b2 b3 b4 b5 b6 b7
        obtain ⟨b0, b1, b2, b3, b4, b5, b6, b7⟩ := box8 HT2.out
        have hl0 := ltB HT2.out
        go_wp2_with fail
        refine (HD12.out _ (HT.out.below HV2.out)).mono ?_
        rintro e v3 ⟨rfl, hb⟩
        have HV3 := Lib.hid (HV2.out.trans (hb.mono HV2.out.size))
        have HT3 := Lib.hid (keepB hb HT2.out)
        have HA3 := Lib.hid (keepB hb HA2.out)
        clear hb b0 b1 b2 b3 b4 b5 b6 b7 hl0
        obtain ⟨b0, b1, b2, b3, b4, b5, b6, b7⟩ := box8 HT3.out
        have hl1 := ltB HT3.out
        go_wp2_with fail
        refine (HD16.out _ (HT.out.below (HV3.out.alloc HV3.out.size _))).mono ?_
        rintro e v4 ⟨rfl, hb⟩
        have HV4 := Lib.hid ((HV3.out.alloc HV3.out.size _).trans (hb.mono (HV3.out.alloc HV3.out.size _).size))
        have HT4 := Lib.hid (keepB hb (keepA HT3.out _))
        have HA4 := Lib.hid (keepB hb (keepA HA3.out _))
        have HQ12_1 := Lib.hid (keepB hb (heap_alloc_new v3 (.cells #[.int .i64 2, .int .i64 0, .bool true, .string ⟨#[]⟩] 23)))
        clear hb b0 b1 b2 b3 b4 b5 b6 b7 hl1
        obtain ⟨b0, b1, b2, b3, b4, b5, b6, b7⟩ := box8 HT4.out
        have hl2 := ltB HT4.out
        go_wp2_with fail
        refine (HD14.out _ (HT.out.below (HV4.out.alloc HV4.out.size _))).mono ?_
        rintro e v5 ⟨rfl, hb⟩
        have HV5 := Lib.hid ((HV4.out.alloc HV4.out.size _).trans (hb.mono (HV4.out.alloc HV4.out.size _).size))
        have HT5 := Lib.hid (keepB hb (keepA HT4.out _))
        have HA5 := Lib.hid (keepB hb (keepA HA4.out _))
        have HQ12_2 := Lib.hid (keepB hb (keepA HQ12_1.out _))
        have HQ16_2 := Lib.hid (keepB hb (heap_alloc_new v4 (.cells #[.int .i64 2, .int .i64 0, .bool false, .string ⟨#[]⟩] 23)))
        clear hb b0 b1 b2 b3 b4 b5 b6 b7 hl2
        obtain ⟨b0, b1, b2, b3, b4, b5, b6, b7⟩ := box8 HT5.out
        have hl3 := ltB HT5.out
        go_wp2_with fail
        refine (HD13.out _ (HT.out.below (HV5.out.alloc HV5.out.size _))).mono ?_
        rintro e v6 ⟨rfl, hb⟩
        have HV6 := Lib.hid ((HV5.out.alloc HV5.out.size _).trans (hb.mono (HV5.out.alloc HV5.out.size _).size))
        have HT6 := Lib.hid (keepB hb (keepA HT5.out _))
        have HA6 := Lib.hid (keepB hb (keepA HA5.out _))
        have HQ12_3 := Lib.hid (keepB hb (keepA HQ12_2.out _))
        have HQ16_3 := Lib.hid (keepB hb (keepA HQ16_2.out _))
        have HQ14_3 := Lib.hid (keepB hb (heap_alloc_new v5 (.cells #[.int .i64 2, .int .i64 0, .bool false, .string ⟨#[]⟩] 23)))
        clear hb b0 b1 b2 b3 b4 b5 b6 b7 hl3
        obtain ⟨b0, b1, b2, b3, b4, b5, b6, b7⟩ := box8 HT6.out
        have hl4 := ltB HT6.out
        go_wp2_with fail
        refine (HD15.out _ (HT.out.below (HV6.out.alloc HV6.out.size _))).mono ?_
        rintro e v7 ⟨rfl, hb⟩
        have HV7 := Lib.hid ((HV6.out.alloc HV6.out.size _).trans (hb.mono (HV6.out.alloc HV6.out.size _).size))
        have HT7 := Lib.hid (keepB hb (keepA HT6.out _))
        have HA7 := Lib.hid (keepB hb (keepA HA6.out _))
        have HQ12_4 := Lib.hid (keepB hb (keepA HQ12_3.out _))
        have HQ16_4 := Lib.hid (keepB hb (keepA HQ16_3.out _))
        have HQ14_4 := Lib.hid (keepB hb (keepA HQ14_3.out _))
        have HQ13_4 := Lib.hid (keepB hb (heap_alloc_new v6 (.cells #[.int .i64 2, .int .i64 0, .bool true, .string ⟨#[]⟩] 23)))
        clear hb b0 b1 b2 b3 b4 b5 b6 b7 hl4
        obtain ⟨g120, g121, g122, g123⟩ := cells4 HQ12_4.out
        have gl12 := ltB HQ12_4.out
        have gl12_1 : v3.heap.size < v7.heap.size + 1 := by omega
        have gl12_2 : v3.heap.size < v7.heap.size + 1 + 1 := by omega
        have gl12_3 : v3.heap.size < v7.heap.size + 1 + 1 + 1 := by omega
        have gl12_4 : v3.heap.size < v7.heap.size + 1 + 1 + 1 + 1 := by omega
        have gl12_5 : v3.heap.size < v7.heap.size + 1 + 1 + 1 + 1 + 1 := by omega
        obtain ⟨g160, g161, g162, g163⟩ := cells4 HQ16_4.out
        have gl16 := ltB HQ16_4.out
        obtain ⟨g140, g141, g142, g143⟩ := cells4 HQ14_4.out
        have gl14 := ltB HQ14_4.out
        have gl14_1 : v5.heap.size < v7.heap.size + 1 := by omega
        have gl14_2 : v5.heap.size < v7.heap.size + 1 + 1 := by omega
        have gl14_3 : v5.heap.size < v7.heap.size + 1 + 1 + 1 := by omega
        have gl14_4 : v5.heap.size < v7.heap.size + 1 + 1 + 1 + 1 := by omega
        have gl14_5 : v5.heap.size < v7.heap.size + 1 + 1 + 1 + 1 + 1 := by omega
        obtain ⟨g130, g131, g132, g133⟩ := cells4 HQ13_4.out
        have gl13 := ltB HQ13_4.out
        have gl13_1 : v6.heap.size < v7.heap.size + 1 := by omega
        have gl13_2 : v6.heap.size < v7.heap.size + 1 + 1 := by omega
        have gl13_3 : v6.heap.size < v7.heap.size + 1 + 1 + 1 := by omega
        have gl13_4 : v6.heap.size < v7.heap.size + 1 + 1 + 1 + 1 := by omega
        have gl13_5 : v6.heap.size < v7.heap.size + 1 + 1 + 1 + 1 + 1 := by omega
        go_wp2_with fail
        refine wp_loop_rounds 4 ?_
        rw [rounds_succ]
        go_wp2_with fail
        rw [rounds_succ]
        go_wp2_with fail
        rw [rounds_succ]
        go_wp2_with fail
        rw [rounds_succ]
        go_wp2_with fail
        go_roundw
        case rel => exact ⟨1, by go_num, by omega, ((((((HV7.out.alloc HV7.out.size _).alloc (by have := HV7.out.size; simp; omega) _).alloc (by have := HV7.out.size; simp; omega) _).alloc (by have := HV7.out.size; simp; omega) _).alloc (by have := HV7.out.size; simp; omega) _)), keepA (keepA (keepA (keepA (keepA HA7.out _) _) _) _) _⟩
        case measure => simp [intOf]
      · obtain ⟨d12, d13, d14, d15, d16⟩ := ords5 (intV n) (intV m) (can_int n) (can_int m) rfl (.inl rfl) (0) h (by rw [hc.2, h])
        have HD12 := Lib.hid (do_lit 12 1 n false ⟨#[]⟩ 1 m false ⟨#[]⟩ false HN.out.1 HN.out.2 d12)
        have HD13 := Lib.hid (do_lit 13 1 n false ⟨#[]⟩ 1 m false ⟨#[]⟩ true HN.out.1 HN.out.2 d13)
        have HD14 := Lib.hid (do_lit 14 1 n false ⟨#[]⟩ 1 m false ⟨#[]⟩ false HN.out.1 HN.out.2 d14)
        have HD15 := Lib.hid (do_lit 15 1 n false ⟨#[]⟩ 1 m false ⟨#[]⟩ true HN.out.1 HN.out.2 d15)
        have HD16 := Lib.hid (do_lit 16 1 n false ⟨#[]⟩ 1 m false ⟨#[]⟩ true HN.out.1 HN.out.2 d16)
        clear h hc d12 d13 d14 d15 d16
        simp only [can_int] at HCX HCY
        simp only [intV, Vl.val] at HCX HCY
        have HCX' := Lib.hid HCX
        have HCY' := Lib.hid HCY
        clear HCX HCY
        go_wp2_with fail
        refine (HCX'.out _).mono ?_
        rintro e v1 ⟨rfl, hb⟩
        have HV1 := Lib.hid (HV.out.trans (hb.mono HV.out.size))
        have HT1 := Lib.hid (keepB hb HTb.out)
        have HA1 := Lib.hid (keepB hb HAr.out)
        clear hb
        obtain ⟨b0, b1, b2, b3, b4, b5, b6, b7⟩ := box8 HT1.out
        go_wp2_with fail
        refine (HCY'.out _).mono ?_
        rintro e v2 ⟨rfl, hb⟩
        have HV2 := Lib.hid (HV1.out.trans (hb.mono HV1.out.size))
        have HT2 := Lib.hid (keepB hb HT1.out)
        have HA2 := Lib.hid (keepB hb HA1.out)
        clear hb b0 b1 b2 b3 b4 b5 b6 b7
        obtain ⟨b0, b1, b2, b3, b4, b5, b6, b7⟩ := box8 HT2.out
        have hl0 := ltB HT2.out
        go_wp2_with fail
        refine (HD12.out _ (HT.out.below HV2.out)).mono ?_
        rintro e v3 ⟨rfl, hb⟩
        have HV3 := Lib.hid (HV2.out.trans (hb.mono HV2.out.size))
        have HT3 := Lib.hid (keepB hb HT2.out)
        have HA3 := Lib.hid (keepB hb HA2.out)
        clear hb b0 b1 b2 b3 b4 b5 b6 b7 hl0
        obtain ⟨b0, b1, b2, b3, b4, b5, b6, b7⟩ := box8 HT3.out
        have hl1 := ltB HT3.out
        go_wp2_with fail
        refine (HD16.out _ (HT.out.below (HV3.out.alloc HV3.out.size _))).mono ?_
        rintro e v4 ⟨rfl, hb⟩
        have HV4 := Lib.hid ((HV3.out.alloc HV3.out.size _).trans (hb.mono (HV3.out.alloc HV3.out.size _).size))
        have HT4 := Lib.hid (keepB hb (keepA HT3.out _))
        have HA4 := Lib.hid (keepB hb (keepA HA3.out _))
        have HQ12_1 := Lib.hid (keepB hb (heap_alloc_new v3 (.cells #[.int .i64 2, .int .i64 0, .bool false, .string ⟨#[]⟩] 23)))
        clear hb b0 b1 b2 b3 b4 b5 b6 b7 hl1
        obtain ⟨b0, b1, b2, b3, b4, b5, b6, b7⟩ := box8 HT4.out
        have hl2 := ltB HT4.out
        go_wp2_with fail
        refine (HD14.out _ (HT.out.below (HV4.out.alloc HV4.out.size _))).mono ?_
        rintro e v5 ⟨rfl, hb⟩
        have HV5 := Lib.hid ((HV4.out.alloc HV4.out.size _).trans (hb.mono (HV4.out.alloc HV4.out.size _).size))
        have HT5 := Lib.hid (keepB hb (keepA HT4.out _))
        have HA5 := Lib.hid (keepB hb (keepA HA4.out _))
        have HQ12_2 := Lib.hid (keepB hb (keepA HQ12_1.out _))
        have HQ16_2 := Lib.hid (keepB hb (heap_alloc_new v4 (.cells #[.int .i64 2, .int .i64 0, .bool true, .string ⟨#[]⟩] 23)))
        clear hb b0 b1 b2 b3 b4 b5 b6 b7 hl2
        obtain ⟨b0, b1, b2, b3, b4, b5, b6, b7⟩ := box8 HT5.out
        have hl3 := ltB HT5.out
        go_wp2_with fail
        refine (HD13.out _ (HT.out.below (HV5.out.alloc HV5.out.size _))).mono ?_
        rintro e v6 ⟨rfl, hb⟩
        have HV6 := Lib.hid ((HV5.out.alloc HV5.out.size _).trans (hb.mono (HV5.out.alloc HV5.out.size _).size))
        have HT6 := Lib.hid (keepB hb (keepA HT5.out _))
        have HA6 := Lib.hid (keepB hb (keepA HA5.out _))
        have HQ12_3 := Lib.hid (keepB hb (keepA HQ12_2.out _))
        have HQ16_3 := Lib.hid (keepB hb (keepA HQ16_2.out _))
        have HQ14_3 := Lib.hid (keepB hb (heap_alloc_new v5 (.cells #[.int .i64 2, .int .i64 0, .bool false, .string ⟨#[]⟩] 23)))
        clear hb b0 b1 b2 b3 b4 b5 b6 b7 hl3
        obtain ⟨b0, b1, b2, b3, b4, b5, b6, b7⟩ := box8 HT6.out
        have hl4 := ltB HT6.out
        go_wp2_with fail
        refine (HD15.out _ (HT.out.below (HV6.out.alloc HV6.out.size _))).mono ?_
        rintro e v7 ⟨rfl, hb⟩
        have HV7 := Lib.hid ((HV6.out.alloc HV6.out.size _).trans (hb.mono (HV6.out.alloc HV6.out.size _).size))
        have HT7 := Lib.hid (keepB hb (keepA HT6.out _))
        have HA7 := Lib.hid (keepB hb (keepA HA6.out _))
        have HQ12_4 := Lib.hid (keepB hb (keepA HQ12_3.out _))
        have HQ16_4 := Lib.hid (keepB hb (keepA HQ16_3.out _))
        have HQ14_4 := Lib.hid (keepB hb (keepA HQ14_3.out _))
        have HQ13_4 := Lib.hid (keepB hb (heap_alloc_new v6 (.cells #[.int .i64 2, .int .i64 0, .bool true, .string ⟨#[]⟩] 23)))
        clear hb b0 b1 b2 b3 b4 b5 b6 b7 hl4
        obtain ⟨g120, g121, g122, g123⟩ := cells4 HQ12_4.out
        have gl12 := ltB HQ12_4.out
        have gl12_1 : v3.heap.size < v7.heap.size + 1 := by omega
        have gl12_2 : v3.heap.size < v7.heap.size + 1 + 1 := by omega
        have gl12_3 : v3.heap.size < v7.heap.size + 1 + 1 + 1 := by omega
        have gl12_4 : v3.heap.size < v7.heap.size + 1 + 1 + 1 + 1 := by omega
        have gl12_5 : v3.heap.size < v7.heap.size + 1 + 1 + 1 + 1 + 1 := by omega
        obtain ⟨g160, g161, g162, g163⟩ := cells4 HQ16_4.out
        have gl16 := ltB HQ16_4.out
        obtain ⟨g140, g141, g142, g143⟩ := cells4 HQ14_4.out
        have gl14 := ltB HQ14_4.out
        have gl14_1 : v5.heap.size < v7.heap.size + 1 := by omega
        have gl14_2 : v5.heap.size < v7.heap.size + 1 + 1 := by omega
        have gl14_3 : v5.heap.size < v7.heap.size + 1 + 1 + 1 := by omega
        have gl14_4 : v5.heap.size < v7.heap.size + 1 + 1 + 1 + 1 := by omega
        have gl14_5 : v5.heap.size < v7.heap.size + 1 + 1 + 1 + 1 + 1 := by omega
        obtain ⟨g130, g131, g132, g133⟩ := cells4 HQ13_4.out
        have gl13 := ltB HQ13_4.out
        have gl13_1 : v6.heap.size < v7.heap.size + 1 := by omega
        have gl13_2 : v6.heap.size < v7.heap.size + 1 + 1 := by omega
        have gl13_3 : v6.heap.size < v7.heap.size + 1 + 1 + 1 := by omega
        have gl13_4 : v6.heap.size < v7.heap.size + 1 + 1 + 1 + 1 := by omega
        have gl13_5 : v6.heap.size < v7.heap.size + 1 + 1 + 1 + 1 + 1 := by omega
        go_wp2_with fail
        refine wp_loop_rounds 4 ?_
        rw [rounds_succ]
        go_wp2_with fail
        rw [rounds_succ]
        go_wp2_with fail
        rw [rounds_succ]
        go_wp2_with fail
        rw [rounds_succ]
        go_wp2_with fail
        go_roundw
        case rel => exact ⟨1, by go_num, by omega, ((((((HV7.out.alloc HV7.out.size _).alloc (by have := HV7.out.size; simp; omega) _).alloc (by have := HV7.out.size; simp; omega) _).alloc (by have := HV7.out.size; simp; omega) _).alloc (by have := HV7.out.size; simp; omega) _)), keepA (keepA (keepA (keepA (keepA HA7.out _) _) _) _) _⟩
        case measure => simp [intOf]
      · obtain ⟨d12, d13, d14, d15, d16⟩ := ords5 (intV n) (intV m) (can_int n) (can_int m) rfl (.inl rfl) (1) h (by rw [hc.2, h])
        have HD12 := Lib.hid (do_lit 12 1 n false ⟨#[]⟩ 1 m false ⟨#[]⟩ false HN.out.1 HN.out.2 d12)
        have HD13 := Lib.hid (do_lit 13 1 n false ⟨#[]⟩ 1 m false ⟨#[]⟩ false HN.out.1 HN.out.2 d13)
        have HD14 := Lib.hid (do_lit 14 1 n false ⟨#[]⟩ 1 m false ⟨#[]⟩ true HN.out.1 HN.out.2 d14)
        have HD15 := Lib.hid (do_lit 15 1 n false ⟨#[]⟩ 1 m false ⟨#[]⟩ true HN.out.1 HN.out.2 d15)
        have HD16 := Lib.hid (do_lit 16 1 n false ⟨#[]⟩ 1 m false ⟨#[]⟩ false HN.out.1 HN.out.2 d16)
        clear h hc d12 d13 d14 d15 d16
        simp only [can_int] at HCX HCY
        simp only [intV, Vl.val] at HCX HCY
        have HCX' := Lib.hid HCX
        have HCY' := Lib.hid HCY
        clear HCX HCY
        go_wp2_with fail
        refine (HCX'.out _).mono ?_
        rintro e v1 ⟨rfl, hb⟩
        have HV1 := Lib.hid (HV.out.trans (hb.mono HV.out.size))
        have HT1 := Lib.hid (keepB hb HTb.out)
        have HA1 := Lib.hid (keepB hb HAr.out)
        clear hb
        obtain ⟨b0, b1, b2, b3, b4, b5, b6, b7⟩ := box8 HT1.out
        go_wp2_with fail
        refine (HCY'.out _).mono ?_
        rintro e v2 ⟨rfl, hb⟩
        have HV2 := Lib.hid (HV1.out.trans (hb.mono HV1.out.size))
        have HT2 := Lib.hid (keepB hb HT1.out)
        have HA2 := Lib.hid (keepB hb HA1.out)
        clear hb b0 b1 b2 b3 b4 b5 b6 b7
        obtain ⟨b0, b1, b2, b3, b4, b5, b6, b7⟩ := box8 HT2.out
        have hl0 := ltB HT2.out
        go_wp2_with fail
        refine (HD12.out _ (HT.out.below HV2.out)).mono ?_
        rintro e v3 ⟨rfl, hb⟩
        have HV3 := Lib.hid (HV2.out.trans (hb.mono HV2.out.size))
        have HT3 := Lib.hid (keepB hb HT2.out)
        have HA3 := Lib.hid (keepB hb HA2.out)
        clear hb b0 b1 b2 b3 b4 b5 b6 b7 hl0
        obtain ⟨b0, b1, b2, b3, b4, b5, b6, b7⟩ := box8 HT3.out
        have hl1 := ltB HT3.out
        go_wp2_with fail
        refine (HD16.out _ (HT.out.below (HV3.out.alloc HV3.out.size _))).mono ?_
        rintro e v4 ⟨rfl, hb⟩
        have HV4 := Lib.hid ((HV3.out.alloc HV3.out.size _).trans (hb.mono (HV3.out.alloc HV3.out.size _).size))
        have HT4 := Lib.hid (keepB hb (keepA HT3.out _))
        have HA4 := Lib.hid (keepB hb (keepA HA3.out _))
        have HQ12_1 := Lib.hid (keepB hb (heap_alloc_new v3 (.cells #[.int .i64 2, .int .i64 0, .bool false, .string ⟨#[]⟩] 23)))
        clear hb b0 b1 b2 b3 b4 b5 b6 b7 hl1
        obtain ⟨b0, b1, b2, b3, b4, b5, b6, b7⟩ := box8 HT4.out
        have hl2 := ltB HT4.out
        go_wp2_with fail
        refine (HD14.out _ (HT.out.below (HV4.out.alloc HV4.out.size _))).mono ?_
        rintro e v5 ⟨rfl, hb⟩
        have HV5 := Lib.hid ((HV4.out.alloc HV4.out.size _).trans (hb.mono (HV4.out.alloc HV4.out.size _).size))
        have HT5 := Lib.hid (keepB hb (keepA HT4.out _))
        have HA5 := Lib.hid (keepB hb (keepA HA4.out _))
        have HQ12_2 := Lib.hid (keepB hb (keepA HQ12_1.out _))
        have HQ16_2 := Lib.hid (keepB hb (heap_alloc_new v4 (.cells #[.int .i64 2, .int .i64 0, .bool false, .string ⟨#[]⟩] 23)))
        clear hb b0 b1 b2 b3 b4 b5 b6 b7 hl2
        obtain ⟨b0, b1, b2, b3, b4, b5, b6, b7⟩ := box8 HT5.out
        have hl3 := ltB HT5.out
        go_wp2_with fail
        refine (HD13.out _ (HT.out.below (HV5.out.alloc HV5.out.size _))).mono ?_
        rintro e v6 ⟨rfl, hb⟩
        have HV6 := Lib.hid ((HV5.out.alloc HV5.out.size _).trans (hb.mono (HV5.out.alloc HV5.out.size _).size))
        have HT6 := Lib.hid (keepB hb (keepA HT5.out _))
        have HA6 := Lib.hid (keepB hb (keepA HA5.out _))
        have HQ12_3 := Lib.hid (keepB hb (keepA HQ12_2.out _))
        have HQ16_3 := Lib.hid (keepB hb (keepA HQ16_2.out _))
        have HQ14_3 := Lib.hid (keepB hb (heap_alloc_new v5 (.cells #[.int .i64 2, .int .i64 0, .bool true, .string ⟨#[]⟩] 23)))
        clear hb b0 b1 b2 b3 b4 b5 b6 b7 hl3
        obtain ⟨b0, b1, b2, b3, b4, b5, b6, b7⟩ := box8 HT6.out
        have hl4 := ltB HT6.out
        go_wp2_with fail
        refine (HD15.out _ (HT.out.below (HV6.out.alloc HV6.out.size _))).mono ?_
        rintro e v7 ⟨rfl, hb⟩
        have HV7 := Lib.hid ((HV6.out.alloc HV6.out.size _).trans (hb.mono (HV6.out.alloc HV6.out.size _).size))
        have HT7 := Lib.hid (keepB hb (keepA HT6.out _))
        have HA7 := Lib.hid (keepB hb (keepA HA6.out _))
        have HQ12_4 := Lib.hid (keepB hb (keepA HQ12_3.out _))
        have HQ16_4 := Lib.hid (keepB hb (keepA HQ16_3.out _))
        have HQ14_4 := Lib.hid (keepB hb (keepA HQ14_3.out _))
        have HQ13_4 := Lib.hid (keepB hb (heap_alloc_new v6 (.cells #[.int .i64 2, .int .i64 0, .bool false, .string ⟨#[]⟩] 23)))
        clear hb b0 b1 b2 b3 b4 b5 b6 b7 hl4
        obtain ⟨g120, g121, g122, g123⟩ := cells4 HQ12_4.out
        have gl12 := ltB HQ12_4.out
        have gl12_1 : v3.heap.size < v7.heap.size + 1 := by omega
        have gl12_2 : v3.heap.size < v7.heap.size + 1 + 1 := by omega
        have gl12_3 : v3.heap.size < v7.heap.size + 1 + 1 + 1 := by omega
        have gl12_4 : v3.heap.size < v7.heap.size + 1 + 1 + 1 + 1 := by omega
        have gl12_5 : v3.heap.size < v7.heap.size + 1 + 1 + 1 + 1 + 1 := by omega
        obtain ⟨g160, g161, g162, g163⟩ := cells4 HQ16_4.out
        have gl16 := ltB HQ16_4.out
        obtain ⟨g140, g141, g142, g143⟩ := cells4 HQ14_4.out
        have gl14 := ltB HQ14_4.out
        have gl14_1 : v5.heap.size < v7.heap.size + 1 := by omega
        have gl14_2 : v5.heap.size < v7.heap.size + 1 + 1 := by omega
        have gl14_3 : v5.heap.size < v7.heap.size + 1 + 1 + 1 := by omega
        have gl14_4 : v5.heap.size < v7.heap.size + 1 + 1 + 1 + 1 := by omega
        have gl14_5 : v5.heap.size < v7.heap.size + 1 + 1 + 1 + 1 + 1 := by omega
        obtain ⟨g130, g131, g132, g133⟩ := cells4 HQ13_4.out
        have gl13 := ltB HQ13_4.out
        have gl13_1 : v6.heap.size < v7.heap.size + 1 := by omega
        have gl13_2 : v6.heap.size < v7.heap.size + 1 + 1 := by omega
        have gl13_3 : v6.heap.size < v7.heap.size + 1 + 1 + 1 := by omega
        have gl13_4 : v6.heap.size < v7.heap.size + 1 + 1 + 1 + 1 := by omega
        have gl13_5 : v6.heap.size < v7.heap.size + 1 + 1 + 1 + 1 + 1 := by omega
        go_wp2_with fail
        refine wp_loop_rounds 4 ?_
        rw [rounds_succ]
        go_wp2_with fail
        rw [rounds_succ]
        go_wp2_with fail
        rw [rounds_succ]
        go_wp2_with fail
        rw [rounds_succ]
        go_wp2_with fail
        go_roundw
        case rel => exact ⟨1, by go_num, by omega, ((((((HV7.out.alloc HV7.out.size _).alloc (by have := HV7.out.size; simp; omega) _).alloc (by have := HV7.out.size; simp; omega) _).alloc (by have := HV7.out.size; simp; omega) _).alloc (by have := HV7.out.size; simp; omega) _)), keepA (keepA (keepA (keepA (keepA HA7.out _) _) _) _) _⟩
        case measure => simp [intOf]
    · obtain ⟨a0, a1, a2, a3, a4, a5, a6, a7⟩ := (box16 HA0.out).2
      have HV := Lib.hid (HB0.out.alloc HB0.out.size (.cells #[.int .i64 3, .int .i64 0, .bool false, .string s2, .int .i64 3, .int .i64 0, .bool false, .string t2] 41))
      have HTb := Lib.hid (heap_alloc_new wr (.cells #[.int .i64 3, .int .i64 0, .bool false, .string s2, .int .i64 3, .int .i64 0, .bool false, .string t2] 41))
      have HAr := Lib.hid (keepA HA0.out (.cells #[.int .i64 3, .int .i64 0, .bool false, .string s2, .int .i64 3, .int .i64 0, .bool false, .string t2] 41))
      have HCX := fun w => rcan_c w (textV s2)
      have HCY := fun w => rcan_c w (textV t2)
      have hcase : canB (textV s2) = false ∨ (canB (textV s2) = true ∧ canB (textV t2) = false) ∨ (canB (textV s2) = true ∧ canB (textV t2) = true ∧ cmpV (textV s2) (textV t2) = -1) ∨ (canB (textV s2) = true ∧ canB (textV t2) = true ∧ cmpV (textV s2) (textV t2) = 0) ∨ (canB (textV s2) = true ∧ canB (textV t2) = true ∧ cmpV (textV s2) (textV t2) = 1) := by
        have hc := (cmp_text s2 t2).1
        cases canB (textV s2) <;> cases canB (textV t2) <;> simp [hc]
      rcases hcase with hx | ⟨hx, hy⟩ | ⟨hx, hy, h⟩ | ⟨hx, hy, h⟩ | ⟨hx, hy, h⟩
      · simp only [hx] at HCX
        clear hx
        skip
        simp only [textV, Vl.val] at HCX HCY
        have HCX' := Lib.hid HCX
        have HCY' := Lib.hid HCY
        clear HCX HCY
        go_wp2_with fail
        refine (HCX'.out _).mono ?_
        rintro e v1 ⟨rfl, hb⟩
        have HV1 := Lib.hid (HV.out.trans (hb.mono HV.out.size))
        have HT1 := Lib.hid (keepB hb HTb.out)
        have HA1 := Lib.hid (keepB hb HAr.out)
        clear hb
        go_wp2_with fail
        go_roundw
        case rel => exact ⟨2, by go_num, by omega, HV1.out, HA1.out⟩
        case measure => simp [intOf]
      · simp only [hx] at HCX
        simp only [hy] at HCY
        clear hx hy
        skip
        simp only [textV, Vl.val] at HCX HCY
        have HCX' := Lib.hid HCX
        have HCY' := Lib.hid HCY
        clear HCX HCY
        go_wp2_with fail
        refine (HCX'.out _).mono ?_
        rintro e v1 ⟨rfl, hb⟩
        have HV1 := Lib.hid (HV.out.trans (hb.mono HV.out.size))
        have HT1 := Lib.hid (keepB hb HTb.out)
        have HA1 := Lib.hid (keepB hb HAr.out)
        clear hb
        obtain ⟨b0, b1, b2, b3, b4, b5, b6, b7⟩ := box8 HT1.out
        go_wp2_with fail
        refine (HCY'.out _).mono ?_
        rintro e v2 ⟨rfl, hb⟩
        have HV2 := Lib.hid (HV1.out.trans (hb.mono HV1.out.size))
        have HT2 := Lib.hid (keepB hb HT1.out)
        have HA2 := Lib.hid (keepB hb HA1.out)
        clear hb b0 b1 b2 b3 b4 b5 b6 b7
        go_wp2_with fail
        go_roundw
        case rel => exact ⟨2, by go_num, by omega, HV2.out, HA2.out⟩
        case measure => simp [intOf]
      · obtain ⟨d12, d13, d14, d15, d16⟩ := ords5 (textV s2) (textV t2) hx hy rfl (.inr rfl) (-1) h (by rw [(cmp_text s2 t2).2, h])
        simp only [hx] at HCX
        simp only [hy] at HCY
        have HD12 := Lib.hid (do_lit 12 3 0 false s2 3 0 false t2 true ⟨by show (-9223372036854775808 : Int) ≤ 3 ∧ (3 : Int) ≤ 9223372036854775807; omega, by show (-9223372036854775808 : Int) ≤ 0 ∧ (0 : Int) ≤ 9223372036854775807; omega, HS.out.1⟩ ⟨by show (-9223372036854775808 : Int) ≤ 3 ∧ (3 : Int) ≤ 9223372036854775807; omega, by show (-9223372036854775808 : Int) ≤ 0 ∧ (0 : Int) ≤ 9223372036854775807; omega, HS.out.2⟩ d12)
        have HD13 := Lib.hid (do_lit 13 3 0 false s2 3 0 false t2 true ⟨by show (-9223372036854775808 : Int) ≤ 3 ∧ (3 : Int) ≤ 9223372036854775807; omega, by show (-9223372036854775808 : Int) ≤ 0 ∧ (0 : Int) ≤ 9223372036854775807; omega, HS.out.1⟩ ⟨by show (-9223372036854775808 : Int) ≤ 3 ∧ (3 : Int) ≤ 9223372036854775807; omega, by show (-9223372036854775808 : Int) ≤ 0 ∧ (0 : Int) ≤ 9223372036854775807; omega, HS.out.2⟩ d13)
        have HD14 := Lib.hid (do_lit 14 3 0 false s2 3 0 false t2 false ⟨by show (-9223372036854775808 : Int) ≤ 3 ∧ (3 : Int) ≤ 9223372036854775807; omega, by show (-9223372036854775808 : Int) ≤ 0 ∧ (0 : Int) ≤ 9223372036854775807; omega, HS.out.1⟩ ⟨by show (-9223372036854775808 : Int) ≤ 3 ∧ (3 : Int) ≤ 9223372036854775807; omega, by show (-9223372036854775808 : Int) ≤ 0 ∧ (0 : Int) ≤ 9223372036854775807; omega, HS.out.2⟩ d14)
        have HD15 := Lib.hid (do_lit 15 3 0 false s2 3 0 false t2 false ⟨by show (-9223372036854775808 : Int) ≤ 3 ∧ (3 : Int) ≤ 9223372036854775807; omega, by show (-9223372036854775808 : Int) ≤ 0 ∧ (0 : Int) ≤ 9223372036854775807; omega, HS.out.1⟩ ⟨by show (-9223372036854775808 : Int) ≤ 3 ∧ (3 : Int) ≤ 9223372036854775807; omega, by show (-9223372036854775808 : Int) ≤ 0 ∧ (0 : Int) ≤ 9223372036854775807; omega, HS.out.2⟩ d15)
        have HD16 := Lib.hid (do_lit 16 3 0 false s2 3 0 false t2 false ⟨by show (-9223372036854775808 : Int) ≤ 3 ∧ (3 : Int) ≤ 9223372036854775807; omega, by show (-9223372036854775808 : Int) ≤ 0 ∧ (0 : Int) ≤ 9223372036854775807; omega, HS.out.1⟩ ⟨by show (-9223372036854775808 : Int) ≤ 3 ∧ (3 : Int) ≤ 9223372036854775807; omega, by show (-9223372036854775808 : Int) ≤ 0 ∧ (0 : Int) ≤ 9223372036854775807; omega, HS.out.2⟩ d16)
        clear h hx hy d12 d13 d14 d15 d16
        skip
        simp only [textV, Vl.val] at HCX HCY
        have HCX' := Lib.hid HCX
        have HCY' := Lib.hid HCY
        clear HCX HCY
        go_wp2_with fail
        refine (HCX'.out _).mono ?_
        rintro e v1 ⟨rfl, hb⟩
        have HV1 := Lib.hid (HV.out.trans (hb.mono HV.out.size))
        have HT1 := Lib.hid (keepB hb HTb.out)
        have HA1 := Lib.hid (keepB hb HAr.out)
        clear hb
        obtain ⟨b0, b1, b2, b3, b4, b5, b6, b7⟩ := box8 HT1.out
        go_wp2_with fail
        refine (HCY'.out _).mono ?_
        rintro e v2 ⟨rfl, hb⟩
        have HV2 := Lib.hid (HV1.out.trans (hb.mono HV1.out.size))
        have HT2 := Lib.hid (keepB hb HT1.out)
        have HA2 := Lib.hid (keepB hb HA1.out)
        clear hb b0 b1 b2 b3 b4 b5 b6 b7
        obtain ⟨b0, b1, b2, b3, b4, b5, b6, b7⟩ := box8 HT2.out
        have hl0 := ltB HT2.out
        go_wp2_with fail
        refine (HD12.out _ (HT.out.below HV2.out)).mono ?_
        rintro e v3 ⟨rfl, hb⟩
        have HV3 := Lib.hid (HV2.out.trans (hb.mono HV2.out.size))
        have HT3 := Lib.hid (keepB hb HT2.out)
        have HA3 := Lib.hid (keepB hb HA2.out)
        clear hb b0 b1 b2 b3 b4 b5 b6 b7 hl0
        obtain ⟨b0, b1, b2, b3, b4, b5, b6, b7⟩ := box8 HT3.out
        have hl1 := ltB HT3.out
        go_wp2_with fail
        refine (HD16.out _ (HT.out.below (HV3.out.alloc HV3.out.size _))).mono ?_
        rintro e v4 ⟨rfl, hb⟩
        have HV4 := Lib.hid ((HV3.out.alloc HV3.out.size _).trans (hb.mono (HV3.out.alloc HV3.out.size _).size))
        have HT4 := Lib.hid (keepB hb (keepA HT3.out _))
        have HA4 := Lib.hid (keepB hb (keepA HA3.out _))
        have HQ12_1 := Lib.hid (keepB hb (heap_alloc_new v3 (.cells #[.int .i64 2, .int .i64 0, .bool true, .string ⟨#[]⟩] 23)))
        clear hb b0 b1 b2 b3 b4 b5 b6 b7 hl1
        obtain ⟨b0, b1, b2, b3, b4, b5, b6, b7⟩ := box8 HT4.out
        have hl2 := ltB HT4.out
        go_wp2_with fail
        refine (HD14.out _ (HT.out.below (HV4.out.alloc HV4.out.size _))).mono ?_
        rintro e v5 ⟨rfl, hb⟩
        have HV5 := Lib.hid ((HV4.out.alloc HV4.out.size _).trans (hb.mono (HV4.out.alloc HV4.out.size _).size))
        have HT5 := Lib.hid (keepB hb (keepA HT4.out _))
        have HA5 := Lib.hid (keepB hb (keepA HA4.out _))
        have HQ12_2 := Lib.hid (keepB hb (keepA HQ12_1.out _))
        have HQ16_2 := Lib.hid (keepB hb (heap_alloc_new v4 (.cells #[.int .i64 2, .int .i64 0, .bool false, .string ⟨#[]⟩] 23)))
        clear hb b0 b1 b2 b3 b4 b5 b6 b7 hl2
        obtain ⟨b0, b1, b2, b3, b4, b5, b6, b7⟩ := box8 HT5.out
        have hl3 := ltB HT5.out
        go_wp2_with fail
        refine (HD13.out _ (HT.out.below (HV5.out.alloc HV5.out.size _))).mono ?_
        rintro e v6 ⟨rfl, hb⟩
        have HV6 := Lib.hid ((HV5.out.alloc HV5.out.size _).trans (hb.mono (HV5.out.alloc HV5.out.size _).size))
        have HT6 := Lib.hid (keepB hb (keepA HT5.out _))
        have HA6 := Lib.hid (keepB hb (keepA HA5.out _))
        have HQ12_3 := Lib.hid (keepB hb (keepA HQ12_2.out _))
        have HQ16_3 := Lib.hid (keepB hb (keepA HQ16_2.out _))
        have HQ14_3 := Lib.hid (keepB hb (heap_alloc_new v5 (.cells #[.int .i64 2, .int .i64 0, .bool false, .string ⟨#[]⟩] 23)))
        clear hb b0 b1 b2 b3 b4 b5 b6 b7 hl3
        obtain ⟨b0, b1, b2, b3, b4, b5, b6, b7⟩ := box8 HT6.out
        have hl4 := ltB HT6.out
        go_wp2_with fail
        refine (HD15.out _ (HT.out.below (HV6.out.alloc HV6.out.size _))).mono ?_
        rintro e v7 ⟨rfl, hb⟩
        have HV7 := Lib.hid ((HV6.out.alloc HV6.out.size _).trans (hb.mono (HV6.out.alloc HV6.out.size _).size))
        have HT7 := Lib.hid (keepB hb (keepA HT6.out _))
        have HA7 := Lib.hid (keepB hb (keepA HA6.out _))
        have HQ12_4 := Lib.hid (keepB hb (keepA HQ12_3.out _))
        have HQ16_4 := Lib.hid (keepB hb (keepA HQ16_3.out _))
        have HQ14_4 := Lib.hid (keepB hb (keepA HQ14_3.out _))
        have HQ13_4 := Lib.hid (keepB hb (heap_alloc_new v6 (.cells #[.int .i64 2, .int .i64 0, .bool true, .string ⟨#[]⟩] 23)))
        clear hb b0 b1 b2 b3 b4 b5 b6 b7 hl4
        obtain ⟨g120, g121, g122, g123⟩ := cells4 HQ12_4.out
        have gl12 := ltB HQ12_4.out
        have gl12_1 : v3.heap.size < v7.heap.size + 1 := by omega
        have gl12_2 : v3.heap.size < v7.heap.size + 1 + 1 := by omega
        have gl12_3 : v3.heap.size < v7.heap.size + 1 + 1 + 1 := by omega
        have gl12_4 : v3.heap.size < v7.heap.size + 1 + 1 + 1 + 1 := by omega
        have gl12_5 : v3.heap.size < v7.heap.size + 1 + 1 + 1 + 1 + 1 := by omega
        obtain ⟨g160, g161, g162, g163⟩ := cells4 HQ16_4.out
        have gl16 := ltB HQ16_4.out
        obtain ⟨g140, g141, g142, g143⟩ := cells4 HQ14_4.out
        have gl14 := ltB HQ14_4.out
        have gl14_1 : v5.heap.size < v7.heap.size + 1 := by omega
        have gl14_2 : v5.heap.size < v7.heap.size + 1 + 1 := by omega
        have gl14_3 : v5.heap.size < v7.heap.size + 1 + 1 + 1 := by omega
        have gl14_4 : v5.heap.size < v7.heap.size + 1 + 1 + 1 + 1 := by omega
        have gl14_5 : v5.heap.size < v7.heap.size + 1 + 1 + 1 + 1 + 1 := by omega
        obtain ⟨g130, g131, g132, g133⟩ := cells4 HQ13_4.out
        have gl13 := ltB HQ13_4.out
        have gl13_1 : v6.heap.size < v7.heap.size + 1 := by omega
        have gl13_2 : v6.heap.size < v7.heap.size + 1 + 1 := by omega
        have gl13_3 : v6.heap.size < v7.heap.size + 1 + 1 + 1 := by omega
        have gl13_4 : v6.heap.size < v7.heap.size + 1 + 1 + 1 + 1 := by omega
        have gl13_5 : v6.heap.size < v7.heap.size + 1 + 1 + 1 + 1 + 1 := by omega
        go_wp2_with fail
        refine wp_loop_rounds 4 ?_
        rw [rounds_succ]
        go_wp2_with fail
        rw [rounds_succ]
        go_wp2_with fail
        rw [rounds_succ]
        go_wp2_with fail
        rw [rounds_succ]
        go_wp2_with fail
        go_roundw
        case rel => exact ⟨2, by go_num, by omega, ((((((HV7.out.alloc HV7.out.size _).alloc (by have := HV7.out.size; simp; omega) _).alloc (by have := HV7.out.size; simp; omega) _).alloc (by have := HV7.out.size; simp; omega) _).alloc (by have := HV7.out.size; simp; omega) _)), keepA (keepA (keepA (keepA (keepA HA7.out _) _) _) _) _⟩
        case measure => simp [intOf]
      · obtain ⟨d12, d13, d14, d15, d16⟩ := ords5 (textV s2) (textV t2) hx hy rfl (.inr rfl) (0) h (by rw [(cmp_text s2 t2).2, h])
        simp only [hx] at HCX
        simp only [hy] at HCY
        have HD12 := Lib.hid (do_lit 12 3 0 false s2 3 0 false t2 false ⟨by show (-9223372036854775808 : Int) ≤ 3 ∧ (3 : Int) ≤ 9223372036854775807; omega, by show (-9223372036854775808 : Int) ≤ 0 ∧ (0 : Int) ≤ 9223372036854775807; omega, HS.out.1⟩ ⟨by show (-9223372036854775808 : Int) ≤ 3 ∧ (3 : Int) ≤ 9223372036854775807; omega, by show (-9223372036854775808 : Int) ≤ 0 ∧ (0 : Int) ≤ 9223372036854775807; omega, HS.out.2⟩ d12)
        have HD13 := Lib.hid (do_lit 13 3 0 false s2 3 0 false t2 true ⟨by show (-9223372036854775808 : Int) ≤ 3 ∧ (3 : Int) ≤ 9223372036854775807; omega, by show (-9223372036854775808 : Int) ≤ 0 ∧ (0 : Int) ≤ 9223372036854775807; omega, HS.out.1⟩ ⟨by show (-9223372036854775808 : Int) ≤ 3 ∧ (3 : Int) ≤ 9223372036854775807; omega, by show (-9223372036854775808 : Int) ≤ 0 ∧ (0 : Int) ≤ 9223372036854775807; omega, HS.out.2⟩ d13)
        have HD14 := Lib.hid (do_lit 14 3 0 false s2 3 0 false t2 false ⟨by show (-9223372036854775808 : Int) ≤ 3 ∧ (3 : Int) ≤ 9223372036854775807; omega, by show (-9223372036854775808 : Int) ≤ 0 ∧ (0 : Int) ≤ 9223372036854775807; omega, HS.out.1⟩ ⟨by show (-9223372036854775808 : Int) ≤ 3 ∧ (3 : Int) ≤ 9223372036854775807; omega, by show (-9223372036854775808 : Int) ≤ 0 ∧ (0 : Int) ≤ 9223372036854775807; omega, HS.out.2⟩ d14)
        have HD15 := Lib.hid (do_lit 15 3 0 false s2 3 0 false t2 true ⟨by show (-9223372036854775808 : Int) ≤ 3 ∧ (3 : Int) ≤ 9223372036854775807; omega, by show (-9223372036854775808 : Int) ≤ 0 ∧ (0 : Int) ≤ 9223372036854775807; omega, HS.out.1⟩ ⟨by show (-9223372036854775808 : Int) ≤ 3 ∧ (3 : Int) ≤ 9223372036854775807; omega, by show (-9223372036854775808 : Int) ≤ 0 ∧ (0 : Int) ≤ 9223372036854775807; omega, HS.out.2⟩ d15)
        have HD16 := Lib.hid (do_lit 16 3 0 false s2 3 0 false t2 true ⟨by show (-9223372036854775808 : Int) ≤ 3 ∧ (3 : Int) ≤ 9223372036854775807; omega, by show (-9223372036854775808 : Int) ≤ 0 ∧ (0 : Int) ≤ 9223372036854775807; omega, HS.out.1⟩ ⟨by show (-9223372036854775808 : Int) ≤ 3 ∧ (3 : Int) ≤ 9223372036854775807; omega, by show (-9223372036854775808 : Int) ≤ 0 ∧ (0 : Int) ≤ 9223372036854775807; omega, HS.out.2⟩ d16)
        clear h hx hy d12 d13 d14 d15 d16
        skip
        simp only [textV, Vl.val] at HCX HCY
        have HCX' := Lib.hid HCX
        have HCY' := Lib.hid HCY
        clear HCX HCY
        go_wp2_with fail
        refine (HCX'.out _).mono ?_
        rintro e v1 ⟨rfl, hb⟩
        have HV1 := Lib.hid (HV.out.trans (hb.mono HV.out.size))
        have HT1 := Lib.hid (keepB hb HTb.out)
        have HA1 := Lib.hid (keepB hb HAr.out)
        clear hb
        obtain ⟨b0, b1, b2, b3, b4, b5, b6, b7⟩ := box8 HT1.out
        go_wp2_with fail
        refine (HCY'.out _).mono ?_
        rintro e v2 ⟨rfl, hb⟩
        have HV2 := Lib.hid (HV1.out.trans (hb.mono HV1.out.size))
        have HT2 := Lib.hid (keepB hb HT1.out)
        have HA2 := Lib.hid (keepB hb HA1.out)
        clear hb b0 b1 b2 b3 b4 b5 b6 b7
        obtain ⟨b0, b1, b2, b3, b4, b5, b6, b7⟩ := box8 HT2.out
        have hl0 := ltB HT2.out
        go_wp2_with fail
        refine (HD12.out _ (HT.out.below HV2.out)).mono ?_
        rintro e v3 ⟨rfl, hb⟩
        have HV3 := Lib.hid (HV2.out.trans (hb.mono HV2.out.size))
        have HT3 := Lib.hid (keepB hb HT2.out)
        have HA3 := Lib.hid (keepB hb HA2.out)
        clear hb b0 b1 b2 b3 b4 b5 b6 b7 hl0
        obtain ⟨b0, b1, b2, b3, b4, b5, b6, b7⟩ := box8 HT3.out
        have hl1 := ltB HT3.out
        go_wp2_with fail
        refine (HD16.out _ (HT.out.below (HV3.out.alloc HV3.out.size _))).mono ?_
        rintro e v4 ⟨rfl, hb⟩
        have HV4 := Lib.hid ((HV3.out.alloc HV3.out.size _).trans (hb.mono (HV3.out.alloc HV3.out.size _).size))
        have HT4 := Lib.hid (keepB hb (keepA HT3.out _))
        have HA4 := Lib.hid (keepB hb (keepA HA3.out _))
        have HQ12_1 := Lib.hid (keepB hb (heap_alloc_new v3 (.cells #[.int .i64 2, .int .i64 0, .bool false, .string ⟨#[]⟩] 23)))
        clear hb b0 b1 b2 b3 b4 b5 b6 b7 hl1
        obtain ⟨b0, b1, b2, b3, b4, b5, b6, b7⟩ := box8 HT4.out
        have hl2 := ltB HT4.out
        go_wp2_with fail
        refine (HD14.out _ (HT.out.below (HV4.out.alloc HV4.out.size _))).mono ?_
        rintro e v5 ⟨rfl, hb⟩
        have HV5 := Lib.hid ((HV4.out.alloc HV4.out.size _).trans (hb.mono (HV4.out.alloc HV4.out.size _).size))
        have HT5 := Lib.hid (keepB hb (keepA HT4.out _))
        have HA5 := Lib.hid (keepB hb (keepA HA4.out _))
        have HQ12_2 := Lib.hid (keepB hb (keepA HQ12_1.out _))
        have HQ16_2 := Lib.hid (keepB hb (heap_alloc_new v4 (.cells #[.int .i64 2, .int .i64 0, .bool true, .string ⟨#[]⟩] 23)))
        clear hb b0 b1 b2 b3 b4 b5 b6 b7 hl2
        obtain ⟨b0, b1, b2, b3, b4, b5, b6, b7⟩ := box8 HT5.out
        have hl3 := ltB HT5.out
        go_wp2_with fail
        refine (HD13.out _ (HT.out.below (HV5.out.alloc HV5.out.size _))).mono ?_
        rintro e v6 ⟨rfl, hb⟩
        have HV6 := Lib.hid ((HV5.out.alloc HV5.out.size _).trans (hb.mono (HV5.out.alloc HV5.out.size _).size))
        have HT6 := Lib.hid (keepB hb (keepA HT5.out _))
        have HA6 := Lib.hid (keepB hb (keepA HA5.out _))
        have HQ12_3 := Lib.hid (keepB hb (keepA HQ12_2.out _))
        have HQ16_3 := Lib.hid (keepB hb (keepA HQ16_2.out _))
        have HQ14_3 := Lib.hid (keepB hb (heap_alloc_new v5 (.cells #[.int .i64 2, .int .i64 0, .bool false, .string ⟨#[]⟩] 23)))
        clear hb b0 b1 b2 b3 b4 b5 b6 b7 hl3
        obtain ⟨b0, b1, b2, b3, b4, b5, b6, b7⟩ := box8 HT6.out
        have hl4 := ltB HT6.out
        go_wp2_with fail
        refine (HD15.out _ (HT.out.below (HV6.out.alloc HV6.out.size _))).mono ?_
        rintro e v7 ⟨rfl, hb⟩
        have HV7 := Lib.hid ((HV6.out.alloc HV6.out.size _).trans (hb.mono (HV6.out.alloc HV6.out.size _).size))
        have HT7 := Lib.hid (keepB hb (keepA HT6.out _))
        have HA7 := Lib.hid (keepB hb (keepA HA6.out _))
        have HQ12_4 := Lib.hid (keepB hb (keepA HQ12_3.out _))
        have HQ16_4 := Lib.hid (keepB hb (keepA HQ16_3.out _))
        have HQ14_4 := Lib.hid (keepB hb (keepA HQ14_3.out _))
        have HQ13_4 := Lib.hid (keepB hb (heap_alloc_new v6 (.cells #[.int .i64 2, .int .i64 0, .bool true, .string ⟨#[]⟩] 23)))
        clear hb b0 b1 b2 b3 b4 b5 b6 b7 hl4
        obtain ⟨g120, g121, g122, g123⟩ := cells4 HQ12_4.out
        have gl12 := ltB HQ12_4.out
        have gl12_1 : v3.heap.size < v7.heap.size + 1 := by omega
        have gl12_2 : v3.heap.size < v7.heap.size + 1 + 1 := by omega
        have gl12_3 : v3.heap.size < v7.heap.size + 1 + 1 + 1 := by omega
        have gl12_4 : v3.heap.size < v7.heap.size + 1 + 1 + 1 + 1 := by omega
        have gl12_5 : v3.heap.size < v7.heap.size + 1 + 1 + 1 + 1 + 1 := by omega
        obtain ⟨g160, g161, g162, g163⟩ := cells4 HQ16_4.out
        have gl16 := ltB HQ16_4.out
        obtain ⟨g140, g141, g142, g143⟩ := cells4 HQ14_4.out
        have gl14 := ltB HQ14_4.out
        have gl14_1 : v5.heap.size < v7.heap.size + 1 := by omega
        have gl14_2 : v5.heap.size < v7.heap.size + 1 + 1 := by omega
        have gl14_3 : v5.heap.size < v7.heap.size + 1 + 1 + 1 := by omega
        have gl14_4 : v5.heap.size < v7.heap.size + 1 + 1 + 1 + 1 := by omega
        have gl14_5 : v5.heap.size < v7.heap.size + 1 + 1 + 1 + 1 + 1 := by omega
        obtain ⟨g130, g131, g132, g133⟩ := cells4 HQ13_4.out
        have gl13 := ltB HQ13_4.out
        have gl13_1 : v6.heap.size < v7.heap.size + 1 := by omega
        have gl13_2 : v6.heap.size < v7.heap.size + 1 + 1 := by omega
        have gl13_3 : v6.heap.size < v7.heap.size + 1 + 1 + 1 := by omega
        have gl13_4 : v6.heap.size < v7.heap.size + 1 + 1 + 1 + 1 := by omega
        have gl13_5 : v6.heap.size < v7.heap.size + 1 + 1 + 1 + 1 + 1 := by omega
        go_wp2_with fail
        refine wp_loop_rounds 4 ?_
        rw [rounds_succ]
        go_wp2_with fail
        rw [rounds_succ]
        go_wp2_with fail
        rw [rounds_succ]
        go_wp2_with fail
        rw [rounds_succ]
        go_wp2_with fail
        go_roundw
        case rel => exact ⟨2, by go_num, by omega, ((((((HV7.out.alloc HV7.out.size _).alloc (by have := HV7.out.size; simp; omega) _).alloc (by have := HV7.out.size; simp; omega) _).alloc (by have := HV7.out.size; simp; omega) _).alloc (by have := HV7.out.size; simp; omega) _)), keepA (keepA (keepA (keepA (keepA HA7.out _) _) _) _) _⟩
        case measure => simp [intOf]
      · obtain ⟨d12, d13, d14, d15, d16⟩ := ords5 (textV s2) (textV t2) hx hy rfl (.inr rfl) (1) h (by rw [(cmp_text s2 t2).2, h])
        simp only [hx] at HCX
        simp only [hy] at HCY
        have HD12 := Lib.hid (do_lit 12 3 0 false s2 3 0 false t2 false ⟨by show (-9223372036854775808 : Int) ≤ 3 ∧ (3 : Int) ≤ 9223372036854775807; omega, by show (-9223372036854775808 : Int) ≤ 0 ∧ (0 : Int) ≤ 9223372036854775807; omega, HS.out.1⟩ ⟨by show (-9223372036854775808 : Int) ≤ 3 ∧ (3 : Int) ≤ 9223372036854775807; omega, by show (-9223372036854775808 : Int) ≤ 0 ∧ (0 : Int) ≤ 9223372036854775807; omega, HS.out.2⟩ d12)
        have HD13 := Lib.hid (do_lit 13 3 0 false s2 3 0 false t2 false ⟨by show (-9223372036854775808 : Int) ≤ 3 ∧ (3 : Int) ≤ 9223372036854775807; omega, by show (-9223372036854775808 : Int) ≤ 0 ∧ (0 : Int) ≤ 9223372036854775807; omega, HS.out.1⟩ ⟨by show (-9223372036854775808 : Int) ≤ 3 ∧ (3 : Int) ≤ 9223372036854775807; omega, by show (-9223372036854775808 : Int) ≤ 0 ∧ (0 : Int) ≤ 9223372036854775807; omega, HS.out.2⟩ d13)
        have HD14 := Lib.hid (do_lit 14 3 0 false s2 3 0 false t2 true ⟨by show (-9223372036854775808 : Int) ≤ 3 ∧ (3 : Int) ≤ 9223372036854775807; omega, by show (-9223372036854775808 : Int) ≤ 0 ∧ (0 : Int) ≤ 9223372036854775807; omega, HS.out.1⟩ ⟨by show (-9223372036854775808 : Int) ≤ 3 ∧ (3 : Int) ≤ 9223372036854775807; omega, by show (-9223372036854775808 : Int) ≤ 0 ∧ (0 : Int) ≤ 9223372036854775807; omega, HS.out.2⟩ d14)
        have HD15 := Lib.hid (do_lit 15 3 0 false s2 3 0 false t2 true ⟨by show (-9223372036854775808 : Int) ≤ 3 ∧ (3 : Int) ≤ 9223372036854775807; omega, by show (-9223372036854775808 : Int) ≤ 0 ∧ (0 : Int) ≤ 9223372036854775807; omega, HS.out.1⟩ ⟨by show (-9223372036854775808 : Int) ≤ 3 ∧ (3 : Int) ≤ 9223372036854775807; omega, by show (-9223372036854775808 : Int) ≤ 0 ∧ (0 : Int) ≤ 9223372036854775807; omega, HS.out.2⟩ d15)
        have HD16 := Lib.hid (do_lit 16 3 0 false s2 3 0 false t2 false ⟨by show (-9223372036854775808 : Int) ≤ 3 ∧ (3 : Int) ≤ 9223372036854775807; omega, by show (-9223372036854775808 : Int) ≤ 0 ∧ (0 : Int) ≤ 9223372036854775807; omega, HS.out.1⟩ ⟨by show (-9223372036854775808 : Int) ≤ 3 ∧ (3 : Int) ≤ 9223372036854775807; omega, by show (-9223372036854775808 : Int) ≤ 0 ∧ (0 : Int) ≤ 9223372036854775807; omega, HS.out.2⟩ d16)
        clear h hx hy d12 d13 d14 d15 d16
        skip
        simp only [textV, Vl.val] at HCX HCY
        have HCX' := Lib.hid HCX
        have HCY' := Lib.hid HCY
        clear HCX HCY
        go_wp2_with fail
        refine (HCX'.out _).mono ?_
        rintro e v1 ⟨rfl, hb⟩
        have HV1 := Lib.hid (HV.out.trans (hb.mono HV.out.size))
        have HT1 := Lib.hid (keepB hb HTb.out)
        have HA1 := Lib.hid (keepB hb HAr.out)
        clear hb
        obtain ⟨b0, b1, b2, b3, b4, b5, b6, b7⟩ := box8 HT1.out
        go_wp2_with fail
        refine (HCY'.out _).mono ?_
        rintro e v2 ⟨rfl, hb⟩
        have HV2 := Lib.hid (HV1.out.trans (hb.mono HV1.out.size))
        have HT2 := Lib.hid (keepB hb HT1.out)
        have HA2 := Lib.hid (keepB hb HA1.out)
        clear hb b0 b1 b2 b3 b4 b5 b6 b7
        obtain ⟨b0, b1, b2, b3, b4, b5, b6, b7⟩ := box8 HT2.out
        have hl0 := ltB HT2.out
        go_wp2_with fail
        refine (HD12.out _ (HT.out.below HV2.out)).mono ?_
        rintro e v3 ⟨rfl, hb⟩
        have HV3 := Lib.hid (HV2.out.trans (hb.mono HV2.out.size))
        have HT3 := Lib.hid (keepB hb HT2.out)
        have HA3 := Lib.hid (keepB hb HA2.out)
        clear hb b0 b1 b2 b3 b4 b5 b6 b7 hl0
        obtain ⟨b0, b1, b2, b3, b4, b5, b6, b7⟩ := box8 HT3.out
        have hl1 := ltB HT3.out
        go_wp2_with fail
        refine (HD16.out _ (HT.out.below (HV3.out.alloc HV3.out.size _))).mono ?_
        rintro e v4 ⟨rfl, hb⟩
        have HV4 := Lib.hid ((HV3.out.alloc HV3.out.size _).trans (hb.mono (HV3.out.alloc HV3.out.size _).size))
        have HT4 := Lib.hid (keepB hb (keepA HT3.out _))
        have HA4 := Lib.hid (keepB hb (keepA HA3.out _))
        have HQ12_1 := Lib.hid (keepB hb (heap_alloc_new v3 (.cells #[.int .i64 2, .int .i64 0, .bool false, .string ⟨#[]⟩] 23)))
        clear hb b0 b1 b2 b3 b4 b5 b6 b7 hl1
        obtain ⟨b0, b1, b2, b3, b4, b5, b6, b7⟩ := box8 HT4.out
        have hl2 := ltB HT4.out
        go_wp2_with fail
        refine (HD14.out _ (HT.out.below (HV4.out.alloc HV4.out.size _))).mono ?_
        rintro e v5 ⟨rfl, hb⟩
        have HV5 := Lib.hid ((HV4.out.alloc HV4.out.size _).trans (hb.mono (HV4.out.alloc HV4.out.size _).size))
        have HT5 := Lib.hid (keepB hb (keepA HT4.out _))
        have HA5 := Lib.hid (keepB hb (keepA HA4.out _))
        have HQ12_2 := Lib.hid (keepB hb (keepA HQ12_1.out _))
        have HQ16_2 := Lib.hid (keepB hb (heap_alloc_new v4 (.cells #[.int .i64 2, .int .i64 0, .bool false, .string ⟨#[]⟩] 23)))
        clear hb b0 b1 b2 b3 b4 b5 b6 b7 hl2
        obtain ⟨b0, b1, b2, b3, b4, b5, b6, b7⟩ := box8 HT5.out
        have hl3 := ltB HT5.out
        go_wp2_with fail
        refine (HD13.out _ (HT.out.below (HV5.out.alloc HV5.out.size _))).mono ?_
        rintro e v6 ⟨rfl, hb⟩
        have HV6 := Lib.hid ((HV5.out.alloc HV5.out.size _).trans (hb.mono (HV5.out.alloc HV5.out.size _).size))
        have HT6 := Lib.hid (keepB hb (keepA HT5.out _))
        have HA6 := Lib.hid (keepB hb (keepA HA5.out _))
        have HQ12_3 := Lib.hid (keepB hb (keepA HQ12_2.out _))
        have HQ16_3 := Lib.hid (keepB hb (keepA HQ16_2.out _))
        have HQ14_3 := Lib.hid (keepB hb (heap_alloc_new v5 (.cells #[.int .i64 2, .int .i64 0, .bool true, .string ⟨#[]⟩] 23)))
        clear hb b0 b1 b2 b3 b4 b5 b6 b7 hl3
        obtain ⟨b0, b1, b2, b3, b4, b5, b6, b7⟩ := box8 HT6.out
        have hl4 := ltB HT6.out
        go_wp2_with fail
        refine (HD15.out _ (HT.out.below (HV6.out.alloc HV6.out.size _))).mono ?_
        rintro e v7 ⟨rfl, hb⟩
        have HV7 := Lib.hid ((HV6.out.alloc HV6.out.size _).trans (hb.mono (HV6.out.alloc HV6.out.size _).size))
        have HT7 := Lib.hid (keepB hb (keepA HT6.out _))
        have HA7 := Lib.hid (keepB hb (keepA HA6.out _))
        have HQ12_4 := Lib.hid (keepB hb (keepA HQ12_3.out _))
        have HQ16_4 := Lib.hid (keepB hb (keepA HQ16_3.out _))
        have HQ14_4 := Lib.hid (keepB hb (keepA HQ14_3.out _))
        have HQ13_4 := Lib.hid (keepB hb (heap_alloc_new v6 (.cells #[.int .i64 2, .int .i64 0, .bool false, .string ⟨#[]⟩] 23)))
        clear hb b0 b1 b2 b3 b4 b5 b6 b7 hl4
        obtain ⟨g120, g121, g122, g123⟩ := cells4 HQ12_4.out
        have gl12 := ltB HQ12_4.out
        have gl12_1 : v3.heap.size < v7.heap.size + 1 := by omega
        have gl12_2 : v3.heap.size < v7.heap.size + 1 + 1 := by omega
        have gl12_3 : v3.heap.size < v7.heap.size + 1 + 1 + 1 := by omega
        have gl12_4 : v3.heap.size < v7.heap.size + 1 + 1 + 1 + 1 := by omega
        have gl12_5 : v3.heap.size < v7.heap.size + 1 + 1 + 1 + 1 + 1 := by omega
        obtain ⟨g160, g161, g162, g163⟩ := cells4 HQ16_4.out
        have gl16 := ltB HQ16_4.out
        obtain ⟨g140, g141, g142, g143⟩ := cells4 HQ14_4.out
        have gl14 := ltB HQ14_4.out
        have gl14_1 : v5.heap.size < v7.heap.size + 1 := by omega
        have gl14_2 : v5.heap.size < v7.heap.size + 1 + 1 := by omega
        have gl14_3 : v5.heap.size < v7.heap.size + 1 + 1 + 1 := by omega
        have gl14_4 : v5.heap.size < v7.heap.size + 1 + 1 + 1 + 1 := by omega
        have gl14_5 : v5.heap.size < v7.heap.size + 1 + 1 + 1 + 1 + 1 := by omega
        obtain ⟨g130, g131, g132, g133⟩ := cells4 HQ13_4.out
        have gl13 := ltB HQ13_4.out
        have gl13_1 : v6.heap.size < v7.heap.size + 1 := by omega
        have gl13_2 : v6.heap.size < v7.heap.size + 1 + 1 := by omega
        have gl13_3 : v6.heap.size < v7.heap.size + 1 + 1 + 1 := by omega
        have gl13_4 : v6.heap.size < v7.heap.size + 1 + 1 + 1 + 1 := by omega
        have gl13_5 : v6.heap.size < v7.heap.size + 1 + 1 + 1 + 1 + 1 := by omega
        go_wp2_with fail
        refine wp_loop_rounds 4 ?_
        rw [rounds_succ]
        go_wp2_with fail
        rw [rounds_succ]
        go_wp2_with fail
        rw [rounds_succ]
        go_wp2_with fail
        rw [rounds_succ]
        go_wp2_with fail
        go_roundw
        case rel => exact ⟨2, by go_num, by omega, ((((((HV7.out.alloc HV7.out.size _).alloc (by have := HV7.out.size; simp; omega) _).alloc (by have := HV7.out.size; simp; omega) _).alloc (by have := HV7.out.size; simp; omega) _).alloc (by have := HV7.out.size; simp; omega) _)), keepA (keepA (keepA (keepA (keepA HA7.out _) _) _) _) _⟩
        case measure => simp [intOf]
    · go_wp2_with fail
      refine (HW.out _ (HT.out.below HB0.out)).mono ?_
      rintro e w1 ⟨rfl, hb⟩
      have HZ := Lib.hid (HB0.out.trans (hb.mono HB0.out.size))
      clear hb
      go_wp2_with fail
      go_ret
      exact ⟨rfl, HZ.out⟩

-- FRAME
theorem own : ownKnob Tryd.prog.godebug = none := by kernel_rfl
theorem laidOut : laidOutB Tryd.prog = true := by kernel_rfl

theorem laid_met (os : Os) : laidMet Tryd.prog Rows.valueOrdersRow.laid ((laidWorld os).forCall (fun _ _ => 0) ⟨#[], #[.int .i64 0, .int .i64 0, .string ByteArray.empty, .string ByteArray.empty], []⟩).memory :=
  laidMet_of_run' 8 (by kernel_rfl) (by kernel_rfl)
theorem reads (os : Os) {H : Type} (enc : TypeId × Value → H) : ∃ places, DataW.whole enc Tryd.prog ((laidWorld os).forCall (fun _ _ => 0) ⟨#[], #[.int .i64 0, .int .i64 0, .string ByteArray.empty, .string ByteArray.empty], []⟩).memory Tryd.f6.params.toList Rows.valueOrdersSpec.vars false (#[.int .i64 0, .int .i64 0, .string ByteArray.empty, .string ByteArray.empty] : Array Value).toList 8 = some ([.lit (.int .i64 0), .lit (.int .i64 0), .lit (.string []), .lit (.string [])], [], places) :=
  ⟨[], by kernel_rfl⟩

set_option maxRecDepth 100000 in
theorem lifted (os : Os) (started : os.Started) (H : Type) (enc : TypeId × Value → H) (F : Stop.Interp) :
    ReturnsInHanded {} Tryd.checked os 6 .any ((OpenSpec.ofChange Rows.valueOrdersSpec).preRow enc Tryd.prog Tryd.f6 Rows.valueOrdersRow.domain false Rows.valueOrdersRow.laid) (((OpenSpec.ofChange Rows.valueOrdersSpec).at F).post enc Tryd.prog Tryd.f6 false true false false) := by
  obtain ⟨places, hx⟩ := reads os enc
  refine returnsInHanded_of_row (C := Tryd.checked) (s := OpenSpec.ofChange Rows.valueOrdersSpec) own started (by kernel_rfl) Tryd.func6
    (witness_row_at (enc := enc) (C := Tryd.checked) false (laidWorld os) #[.int .i64 0, .int .i64 0, .string ByteArray.empty, .string ByteArray.empty] rfl (by kernel_rfl) (by kernel_rfl) (by kernel_rfl)
      (OpenSpec.preRow_of_cond 8 hx (by kernel_rfl) (fun k hk => by cases hk) (by kernel_rfl) (laid_met os))) ?_
  intro W base args ds gs before hval0 hW hcnd hcond hsz0 hL _ _
  have hT := tabs_of hL
  have hsz : (DataW.weightsEach Tryd.prog (Tryd.f6.params.toList ++ Rows.valueOrdersSpec.plain.varTypes Tryd.prog) (ds ++ gs)).all (· ≤ reachBytes) = true := hsz0
  have hval : ∀ (j : Nat) t v, Tryd.f6.params[j]? = some t → args[j]? = some v → Value.okWide Tryd.prog W .any base t v := hval0
  have hW' := hW
  obtain ⟨p, q, hA0, hV, rfl, hfz, hnd⟩ := hW
  have hA : DataW.TrodAll enc Tryd.prog W 0 (fun _ => true) true Tryd.f6.params.toList args.toList ds p := hA0
  rw [Tryd.params6] at hA hval hsz
  obtain ⟨v0, vs0, d0, ds0, p0, q0, hargs, rfl, rfl, h0, r0⟩ := trodAll_cons hA
  obtain ⟨v1, vs1, d1, ds1, p1, q1, rfl, rfl, rfl, h1, r1⟩ := trodAll_cons r0
  obtain ⟨v2, vs2, d2, ds2, p2, q2, rfl, rfl, rfl, h2, r2⟩ := trodAll_cons r1
  obtain ⟨v3, vs3, d3, ds3, p3, q3, rfl, rfl, rfl, h3, r3⟩ := trodAll_cons r2
  obtain ⟨rfl, rfl, rfl⟩ := trodAll_nil r3
  obtain rfl : args = #[v0, v1, v2, v3] := by cases args; simp_all
  obtain ⟨rfl, rfl⟩ := trodVars_none hV
  obtain ⟨a0, rfl, rfl, rfl, w0⟩ := open_int Tryd.underlying3 (hval 0 3 v0 rfl rfl) h0
  obtain ⟨a1, rfl, rfl, rfl, w1⟩ := open_int Tryd.underlying3 (hval 1 3 v1 rfl rfl) h1
  obtain ⟨a2, rfl, rfl, rfl, w2⟩ := open_string Tryd.underlying9 (hval 2 9 v2 rfl rfl) h2
  have s2 : a2.size ≤ 140737488351232 := by have := sized_string hsz (j := 2) (t := 9) rfl rfl; simpa [reachBytes] using this
  obtain ⟨a3, rfl, rfl, rfl, w3⟩ := open_string Tryd.underlying9 (hval 3 9 v3 rfl rfl) h3
  have s3 : a3.size ≤ 140737488351232 := by have := sized_string hsz (j := 3) (t := 9) rfl rfl; simpa [reachBytes] using this
  clear hA0 hval0
  refine (walk a0 a1 a2 a3 W hT w0 w1 s2 s3).mono fun e W' ⟨he, bel⟩ => ?_
  subst he
  exact ⟨_, rfl, _, _, _, [], _, [], hW', trodAll_mk1 (shut_bool Tryd.underlying4 _), (trodAll_cons_mk (shut_int Tryd.underlying3 w0) (trodAll_cons_mk (shut_int Tryd.underlying3 w1) (trodAll_cons_mk (shut_string Tryd.underlying9 w2) (trodAll_cons_mk (shut_string Tryd.underlying9 w3) trodAll_mk0)))), rfl, bel.frame _, fun h => by cases h⟩

theorem said : Rows.ValueOrdersSaid :=
  OpenClaim.holds_of_cond 6 Tryd.f6 rfl rfl rfl rfl rfl rfl rfl ⟨rfl, rfl, rfl, rfl, rfl⟩ rfl rfl rfl rfl rfl (by kernel_rfl) Tryd.func6 (by kernel_rfl)
    (of_decide_eq_true (by kernel_rfl)) (by unfold Func.isWrapper; first | (rw [if_pos (by decide +kernel)]; kernel_rfl) | (rw [if_neg (by decide +kernel)]; exact ⟨rfl, rfl⟩))
    (fun os started H enc _ F => by rw [OpenClaim.pre_eq_preRow]; exact lifted os started H enc F)

theorem plain (f : FuncId) (fn : Func) (hf : Tryd.pinned.checked.prog.funcNamed "dossier/dossierlaw07.ValueOrders" = some f) (hfn : Tryd.pinned.checked.prog.funcs[f]? = some fn) :
    false = Tryd.pinned.checked.prog.looks [] ∧ ∀ (j : Nat) t, fn.params[j]? = some t → Tryd.pinned.checked.prog.wantsStandIn t = false := by
  obtain rfl : f = 6 := Option.some.inj ((show Tryd.prog.funcNamed "dossier/dossierlaw07.ValueOrders" = some 6 by kernel_rfl).symm.trans hf) |>.symm
  obtain rfl : fn = Tryd.f6 := (Option.some.inj (Tryd.func6.symm.trans hfn)).symm
  refine ⟨by kernel_rfl, fun j t ht => ?_⟩
  rw [Tryd.params6] at ht
  have hm := Array.mem_of_getElem? ht
  simp only [Array.mem_def, List.mem_cons, List.not_mem_nil, or_false] at hm
  rcases hm with rfl | rfl | rfl | rfl
  · exact (show Tryd.prog.wantsStandIn 3 = false by kernel_rfl)
  · exact (show Tryd.prog.wantsStandIn 3 = false by kernel_rfl)
  · exact (show Tryd.prog.wantsStandIn 9 = false by kernel_rfl)
  · exact (show Tryd.prog.wantsStandIn 9 = false by kernel_rfl)

/-- The statement: the card. -/
theorem proved : Rows.ValueOrdersCardSaid :=
  Claim7.holds_tied_plain_at .later [] _ _ _ _ said (fun _ h => by cases h) (by kernel_rfl) (fun _ h => by cases h) valueOrders_row_tie rfl ⟨rfl, rfl⟩ (by kernel_rfl) rfl plain (by kernel_rfl)
end Go.Proofs.YtjablobdiglnpaaDoor.valueOrders
