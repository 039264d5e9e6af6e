/- xmllex: the scanner: value. -/
import Derived.Test.YtpcajjbdlfookaaGreatDoorMp04
namespace Go.Proofs.YtpcajjbdlfookaaGreatDoor
open Go.RowKit
set_option linter.unusedVariables false

set_option maxRecDepth 100000 in
set_option maxHeartbeats 2000000 in
theorem value1_c {w : World} {pb : Nat} {xs : List UInt8} {a f : Nat} (h : SC w pb xs a f) (h39 : Lib.hasPrefix (xs.drop a) [39] = true) : Calls Tryz.prog 137 #[.pointer (some ⟨pb, 0, none⟩)] w
    (Aft w pb xs a f VS (valP (xs.drop a))) := by
  have kc := fun (w : World) (C : Array Value) (n c : Nat) => Lib.run_convert_bytes_const (P := Tryz.prog) w 22 5 C n c Tryz.underlying22 Tryz.underlying5
  have hle := h.le
  have HTK := Lib.hid (take_c h ⟨#[39]⟩ (by decide) true h39)
  have HV := Lib.hid (show valP (xs.drop a) = valQ 39 (xs.drop (a + 1)) from by unfold valP; rw [if_pos h39, List.drop_drop])
  clear h h39
  rw [HV.out]
  have HTH := Lib.hid (fun (wx : World) (hs : SC wx pb xs (a + 1) f) => through_c hs ⟨#[39]⟩ (by decide))
  have eq : (⟨#[39]⟩ : ByteArray).data.toList = [39] := rfl
  rw [eq] at HTH
  clear eq
  by_cases hi : Lib.index (xs.drop (a + 1)) [39] < 0
  · rw [show thr (xs.drop (a + 1)) [39] = .error 11 from by unfold thr; rw [if_pos hi]] at HTH
    rw [show valQ 39 (xs.drop (a + 1)) = .error 11 from by unfold valQ; rw [if_pos hi]]
    clear hi
    go_enter Tryz.func137, Tryz.ntmps137
    go_wp2_with fail
    refine HTK.out.mono ?_
    rintro e wq ⟨rfl, hs, hc⟩
    have HSQ := Lib.hid (show SC wq pb xs (a + 1) f from hs)
    have HC := Lib.hid hc
    clear hs hc
    go_wp2_with fail
    have HT2 := Lib.hid (HTH.out wq HSQ.out)
    go_wp2_with (go_at_call 106; refine (HT2.out).mono ?_; rintro e w3 ⟨he, hc⟩; unfold Boom at he; subst he; have HC3 := Lib.hid (HC.out.trans hc); clear hc)
    exact ⟨rfl, rfl, HC3.out⟩
  · obtain ⟨i, hi'⟩ : ∃ i : Nat, Lib.index (xs.drop (a + 1)) [39] = i := ⟨(Lib.index (xs.drop (a + 1)) [39]).toNat, by omega⟩
    have hi0 := hi
    rw [show thr (xs.drop (a + 1)) [39] = .ok ((xs.drop (a + 1)).take i, i + 1) from by unfold thr; rw [if_neg hi, hi']; rfl] at HTH
    obtain ⟨l, hl⟩ : ∃ l, l = (xs.drop (a + 1)).take i := ⟨_, rfl⟩
    rw [← hl] at HTH
    have hll : l.length ≤ 1048576 := by rw [hl, List.length_take, List.length_drop]; omega
    have HFL := fl_len l
    have HVQ := Lib.hid (show valQ 39 (xs.drop (a + 1)) = if 0 ≤ Lib.index l [60] then .error 11 else match rsT false (pl true l) with
        | .error _ => .error 13
        | .ok s => .ok (s, i + 2) from by unfold valQ; rw [if_neg hi0, hi', Int.toNat_natCast, ← hl]; rfl)
    rw [HVQ.out]
    have HCT := Lib.hid (fun (wx : World) (v u : Value) (h1 : Rd wx v l) (h2 : Rd wx u [60]) (hm : MX wx) => contains_c wx v u l [60] h1 h2 hm (by omega) (by simp) (by simp))
    clear hi hi0 hi' hl
    by_cases h60 : 0 ≤ Lib.index l [60]
    · rw [if_pos h60]
      rw [show decide (0 ≤ Lib.index l [60]) = true from by simpa using h60] at HCT
      clear h60
      go_enter Tryz.func137, Tryz.ntmps137
      go_wp2_with fail
      refine HTK.out.mono ?_
      rintro e wq ⟨rfl, hs, hc⟩
      have HSQ := Lib.hid (show SC wq pb xs (a + 1) f from hs)
      have HC := Lib.hid hc
      clear hs hc
      go_wp2_with fail
      have HT2 := Lib.hid (HTH.out wq HSQ.out)
      go_wp2_with fail
      refine HT2.out.mono ?_
      rintro e w3 ⟨v, rfl, hv, hs, hc⟩
      have b1 := bel_alloc w3 (.cells #[.int .u8 60] 5 (1, 2))
      have HK := Lib.hid (HCT.out _ v _ ((show Rd w3 v l from hv).below b1) (rd_new w3 [60] #[.int .u8 60] 5 1 2 1 rfl rfl (by omega)) (hs.below b1).bw.mx)
      have HS4 := Lib.hid (hs.below b1)
      have HC4 := Lib.hid ((HC.out.trans hc).trans (Chg.of_below b1))
      clear hv hs hc b1
      go_wp2_with fail
      refine HK.out.mono ?_
      rintro e w4 ⟨rfl, q4, hq⟩
      have hb : Below (w3.alloc (.cells #[.int .u8 60] 5 (1, 2))).heap.size (w3.alloc (.cells #[.int .u8 60] 5 (1, 2))) w4 := hq ▸ Go.below_drewN (Below.refl _ _) q4
      have HF := Lib.hid (fail_c (HS4.out.below hb) 11)
      have HC5 := Lib.hid (HC4.out.trans (Chg.of_below hb))
      clear hq hb
      go_wp2_with (go_at_call 110; refine (HF.out).mono ?_; rintro e w5 ⟨he, rfl⟩; unfold Boom at he; subst he)
      exact ⟨rfl, rfl, HC5.out⟩
    · rw [if_neg h60]
      rw [show decide (0 ≤ Lib.index l [60]) = false from by simpa using h60] at HCT
      have HFT := Lib.hid (fun (wx : World) (v : Value) (h1 : Rd wx v l) (hm : MX wx) => flat_c wx v l h1 hm (by omega))
      clear h60
      cases hu : rsT false (pl true l) with
      | error z =>
        have HRV := Lib.hid (show rsv (pl true l) = .error 13 from by unfold rsv; rw [hu])
        dsimp only
        clear hu
        go_enter Tryz.func137, Tryz.ntmps137
        go_wp2_with fail
        refine HTK.out.mono ?_
        rintro e wq ⟨rfl, hs, hc⟩
        have HSQ := Lib.hid (show SC wq pb xs (a + 1) f from hs)
        have HC := Lib.hid hc
        clear hs hc
        go_wp2_with fail
        have HT2 := Lib.hid (HTH.out wq HSQ.out)
        go_wp2_with fail
        refine HT2.out.mono ?_
        rintro e w3 ⟨v, rfl, hv, hs, hc⟩
        have b1 := bel_alloc w3 (.cells #[.int .u8 60] 5 (1, 2))
        have HR4 := Lib.hid ((show Rd w3 v l from hv).below b1)
        have HK := Lib.hid (HCT.out _ v _ HR4.out (rd_new w3 [60] #[.int .u8 60] 5 1 2 1 rfl rfl (by omega)) (hs.below b1).bw.mx)
        have HS4 := Lib.hid (hs.below b1)
        have HC4 := Lib.hid ((HC.out.trans hc).trans (Chg.of_below b1))
        clear hv hs hc b1
        go_wp2_with fail
        refine HK.out.mono ?_
        rintro e w4 ⟨rfl, q4, hq⟩
        have hb : Below (w3.alloc (.cells #[.int .u8 60] 5 (1, 2))).heap.size (w3.alloc (.cells #[.int .u8 60] 5 (1, 2))) w4 := hq ▸ Go.below_drewN (Below.refl _ _) q4
        have HS5 := Lib.hid (HS4.out.below hb)
        have HC5 := Lib.hid (HC4.out.trans (Chg.of_below hb))
        have HFC := Lib.hid (HFT.out w4 v (HR4.out.below hb) HS5.out.bw.mx)
        clear hq hb
        go_wp2_with fail
        refine HFC.out.mono ?_
        rintro e w6 ⟨v6, rfl, hown, hb6⟩
        have HR6 := Lib.hid hown.rd
        have HS6 := Lib.hid (HS5.out.below hb6)
        have HC6 := Lib.hid (HC5.out.trans (Chg.of_below hb6))
        clear hown hb6
        go_wp2_with fail
        have HRS := resolved_c HS6.out v6 _ HR6.out (by unfold fl at HFL; omega)
        rw [HRV.out] at HRS
        have HRS := Lib.hid HRS
        go_wp2_with (go_at_call 129; refine (HRS.out).mono ?_; rintro e w7 ⟨he, hc⟩; unfold Boom at he; subst he; have HC7 := Lib.hid (HC6.out.trans hc); clear hc)
        exact ⟨rfl, rfl, HC7.out⟩
      | ok s =>
        have HRV := Lib.hid (show rsv (pl true l) = .ok (s, 0) from by unfold rsv; rw [hu])
        dsimp only
        clear hu
        go_enter Tryz.func137, Tryz.ntmps137
        go_wp2_with fail
        refine HTK.out.mono ?_
        rintro e wq ⟨rfl, hs, hc⟩
        have HSQ := Lib.hid (show SC wq pb xs (a + 1) f from hs)
        have HC := Lib.hid hc
        clear hs hc
        go_wp2_with fail
        have HT2 := Lib.hid (HTH.out wq HSQ.out)
        go_wp2_with fail
        refine HT2.out.mono ?_
        rintro e w3 ⟨v, rfl, hv, hs, hc⟩
        have b1 := bel_alloc w3 (.cells #[.int .u8 60] 5 (1, 2))
        have HR4 := Lib.hid ((show Rd w3 v l from hv).below b1)
        have HK := Lib.hid (HCT.out _ v _ HR4.out (rd_new w3 [60] #[.int .u8 60] 5 1 2 1 rfl rfl (by omega)) (hs.below b1).bw.mx)
        have HS4 := Lib.hid (hs.below b1)
        have HC4 := Lib.hid ((HC.out.trans hc).trans (Chg.of_below b1))
        clear hv hs hc b1
        go_wp2_with fail
        refine HK.out.mono ?_
        rintro e w4 ⟨rfl, q4, hq⟩
        have hb : Below (w3.alloc (.cells #[.int .u8 60] 5 (1, 2))).heap.size (w3.alloc (.cells #[.int .u8 60] 5 (1, 2))) w4 := hq ▸ Go.below_drewN (Below.refl _ _) q4
        have HS5 := Lib.hid (HS4.out.below hb)
        have HC5 := Lib.hid (HC4.out.trans (Chg.of_below hb))
        have HFC := Lib.hid (HFT.out w4 v (HR4.out.below hb) HS5.out.bw.mx)
        clear hq hb
        go_wp2_with fail
        refine HFC.out.mono ?_
        rintro e w6 ⟨v6, rfl, hown, hb6⟩
        have HR6 := Lib.hid hown.rd
        have HS6 := Lib.hid (HS5.out.below hb6)
        have HC6 := Lib.hid (HC5.out.trans (Chg.of_below hb6))
        clear hown hb6
        go_wp2_with fail
        have HRS := resolved_c HS6.out v6 _ HR6.out (by unfold fl at HFL; omega)
        rw [HRV.out] at HRS
        have HRS := Lib.hid HRS
        go_wp2_with fail
        refine HRS.out.mono ?_
        rintro e w7 ⟨v7, rfl, hv, hs, hc⟩
        have HE := Lib.hid (And.intro (show SC w7 pb xs (a + (i + 2)) f from (show a + 1 + (i + 1) + 0 = a + (i + 2) by omega) ▸ hs) (HC6.out.trans hc))
        have HV7 := Lib.hid (show v7 = .string ⟨s.toArray⟩ from hv)
        clear hs hc hv
        go_wp2_with fail
        go_ret
        exact ⟨_, rfl, by rw [VS]; exact HV7.out, HE.out.1, HE.out.2⟩

set_option maxRecDepth 100000 in
set_option maxHeartbeats 2000000 in
theorem value2_c {w : World} {pb : Nat} {xs : List UInt8} {a f : Nat} (h : SC w pb xs a f) (h39 : Lib.hasPrefix (xs.drop a) [39] = false) (h34 : Lib.hasPrefix (xs.drop a) [34] = true) : Calls Tryz.prog 137 #[.pointer (some ⟨pb, 0, none⟩)] w
    (Aft w pb xs a f VS (valP (xs.drop a))) := by
  have kc := fun (w : World) (C : Array Value) (n c : Nat) => Lib.run_convert_bytes_const (P := Tryz.prog) w 22 5 C n c Tryz.underlying22 Tryz.underlying5
  have hle := h.le
  have HTK := Lib.hid (take_c h ⟨#[39]⟩ (by decide) false h39)
  have HND := Lib.hid (fun (wx : World) (hs : SC wx pb xs a f) => need_c hs ⟨#[34]⟩ (by decide))
  have e34 : (⟨#[34]⟩ : ByteArray).data.toList = [34] := rfl
  rw [e34, h34, if_pos rfl] at HND
  have HV := Lib.hid (show valP (xs.drop a) = valQ 34 (xs.drop (a + 1)) from by unfold valP; rw [h39, if_neg (by simp), if_pos h34, List.drop_drop])
  clear h h39 h34 e34
  rw [HV.out]
  have HTH := Lib.hid (fun (wx : World) (hs : SC wx pb xs (a + 1) f) => through_c hs ⟨#[34]⟩ (by decide))
  have eq : (⟨#[34]⟩ : ByteArray).data.toList = [34] := rfl
  rw [eq] at HTH
  clear eq
  by_cases hi : Lib.index (xs.drop (a + 1)) [34] < 0
  · rw [show thr (xs.drop (a + 1)) [34] = .error 11 from by unfold thr; rw [if_pos hi]] at HTH
    rw [show valQ 34 (xs.drop (a + 1)) = .error 11 from by unfold valQ; rw [if_pos hi]]
    clear hi
    go_enter Tryz.func137, Tryz.ntmps137
    go_wp2_with fail
    refine HTK.out.mono ?_
    rintro e w1 ⟨rfl, hs, hc⟩
    have HND2 := Lib.hid (HND.out w1 hs)
    have HC1 := Lib.hid hc
    clear hs hc
    go_wp2_with fail
    refine HND2.out.mono ?_
    rintro e wq ⟨v2, rfl, hv, hs, hc⟩
    have HSQ := Lib.hid (show SC wq pb xs (a + 1) f from hs)
    have HC := Lib.hid (HC1.out.trans hc)
    subst hv
    clear hs hc
    go_wp2_with fail
    have HT2 := Lib.hid (HTH.out wq HSQ.out)
    go_wp2_with (go_at_call 106; refine (HT2.out).mono ?_; rintro e w3 ⟨he, hc⟩; unfold Boom at he; subst he; have HC3 := Lib.hid (HC.out.trans hc); clear hc)
    exact ⟨rfl, rfl, HC3.out⟩
  · obtain ⟨i, hi'⟩ : ∃ i : Nat, Lib.index (xs.drop (a + 1)) [34] = i := ⟨(Lib.index (xs.drop (a + 1)) [34]).toNat, by omega⟩
    have hi0 := hi
    rw [show thr (xs.drop (a + 1)) [34] = .ok ((xs.drop (a + 1)).take i, i + 1) from by unfold thr; rw [if_neg hi, hi']; rfl] at HTH
    obtain ⟨l, hl⟩ : ∃ l, l = (xs.drop (a + 1)).take i := ⟨_, rfl⟩
    rw [← hl] at HTH
    have hll : l.length ≤ 1048576 := by rw [hl, List.length_take, List.length_drop]; omega
    have HFL := fl_len l
    have HVQ := Lib.hid (show valQ 34 (xs.drop (a + 1)) = if 0 ≤ Lib.index l [60] then .error 11 else match rsT false (pl true l) with
        | .error _ => .error 13
        | .ok s => .ok (s, i + 2) from by unfold valQ; rw [if_neg hi0, hi', Int.toNat_natCast, ← hl]; rfl)
    rw [HVQ.out]
    have HCT := Lib.hid (fun (wx : World) (v u : Value) (h1 : Rd wx v l) (h2 : Rd wx u [60]) (hm : MX wx) => contains_c wx v u l [60] h1 h2 hm (by omega) (by simp) (by simp))
    clear hi hi0 hi' hl
    by_cases h60 : 0 ≤ Lib.index l [60]
    · rw [if_pos h60]
      rw [show decide (0 ≤ Lib.index l [60]) = true from by simpa using h60] at HCT
      clear h60
      go_enter Tryz.func137, Tryz.ntmps137
      go_wp2_with fail
      refine HTK.out.mono ?_
      rintro e w1 ⟨rfl, hs, hc⟩
      have HND2 := Lib.hid (HND.out w1 hs)
      have HC1 := Lib.hid hc
      clear hs hc
      go_wp2_with fail
      refine HND2.out.mono ?_
      rintro e wq ⟨v2, rfl, hv, hs, hc⟩
      have HSQ := Lib.hid (show SC wq pb xs (a + 1) f from hs)
      have HC := Lib.hid (HC1.out.trans hc)
      subst hv
      clear hs hc
      go_wp2_with fail
      have HT2 := Lib.hid (HTH.out wq HSQ.out)
      go_wp2_with fail
      refine HT2.out.mono ?_
      rintro e w3 ⟨v, rfl, hv, hs, hc⟩
      have b1 := bel_alloc w3 (.cells #[.int .u8 60] 5 (1, 2))
      have HK := Lib.hid (HCT.out _ v _ ((show Rd w3 v l from hv).below b1) (rd_new w3 [60] #[.int .u8 60] 5 1 2 1 rfl rfl (by omega)) (hs.below b1).bw.mx)
      have HS4 := Lib.hid (hs.below b1)
      have HC4 := Lib.hid ((HC.out.trans hc).trans (Chg.of_below b1))
      clear hv hs hc b1
      go_wp2_with fail
      refine HK.out.mono ?_
      rintro e w4 ⟨rfl, q4, hq⟩
      have hb : Below (w3.alloc (.cells #[.int .u8 60] 5 (1, 2))).heap.size (w3.alloc (.cells #[.int .u8 60] 5 (1, 2))) w4 := hq ▸ Go.below_drewN (Below.refl _ _) q4
      have HF := Lib.hid (fail_c (HS4.out.below hb) 11)
      have HC5 := Lib.hid (HC4.out.trans (Chg.of_below hb))
      clear hq hb
      go_wp2_with (go_at_call 110; refine (HF.out).mono ?_; rintro e w5 ⟨he, rfl⟩; unfold Boom at he; subst he)
      exact ⟨rfl, rfl, HC5.out⟩
    · rw [if_neg h60]
      rw [show decide (0 ≤ Lib.index l [60]) = false from by simpa using h60] at HCT
      have HFT := Lib.hid (fun (wx : World) (v : Value) (h1 : Rd wx v l) (hm : MX wx) => flat_c wx v l h1 hm (by omega))
      clear h60
      cases hu : rsT false (pl true l) with
      | error z =>
        have HRV := Lib.hid (show rsv (pl true l) = .error 13 from by unfold rsv; rw [hu])
        dsimp only
        clear hu
        go_enter Tryz.func137, Tryz.ntmps137
        go_wp2_with fail
        refine HTK.out.mono ?_
        rintro e w1 ⟨rfl, hs, hc⟩
        have HND2 := Lib.hid (HND.out w1 hs)
        have HC1 := Lib.hid hc
        clear hs hc
        go_wp2_with fail
        refine HND2.out.mono ?_
        rintro e wq ⟨v2, rfl, hv, hs, hc⟩
        have HSQ := Lib.hid (show SC wq pb xs (a + 1) f from hs)
        have HC := Lib.hid (HC1.out.trans hc)
        subst hv
        clear hs hc
        go_wp2_with fail
        have HT2 := Lib.hid (HTH.out wq HSQ.out)
        go_wp2_with fail
        refine HT2.out.mono ?_
        rintro e w3 ⟨v, rfl, hv, hs, hc⟩
        have b1 := bel_alloc w3 (.cells #[.int .u8 60] 5 (1, 2))
        have HR4 := Lib.hid ((show Rd w3 v l from hv).below b1)
        have HK := Lib.hid (HCT.out _ v _ HR4.out (rd_new w3 [60] #[.int .u8 60] 5 1 2 1 rfl rfl (by omega)) (hs.below b1).bw.mx)
        have HS4 := Lib.hid (hs.below b1)
        have HC4 := Lib.hid ((HC.out.trans hc).trans (Chg.of_below b1))
        clear hv hs hc b1
        go_wp2_with fail
        refine HK.out.mono ?_
        rintro e w4 ⟨rfl, q4, hq⟩
        have hb : Below (w3.alloc (.cells #[.int .u8 60] 5 (1, 2))).heap.size (w3.alloc (.cells #[.int .u8 60] 5 (1, 2))) w4 := hq ▸ Go.below_drewN (Below.refl _ _) q4
        have HS5 := Lib.hid (HS4.out.below hb)
        have HC5 := Lib.hid (HC4.out.trans (Chg.of_below hb))
        have HFC := Lib.hid (HFT.out w4 v (HR4.out.below hb) HS5.out.bw.mx)
        clear hq hb
        go_wp2_with fail
        refine HFC.out.mono ?_
        rintro e w6 ⟨v6, rfl, hown, hb6⟩
        have HR6 := Lib.hid hown.rd
        have HS6 := Lib.hid (HS5.out.below hb6)
        have HC6 := Lib.hid (HC5.out.trans (Chg.of_below hb6))
        clear hown hb6
        go_wp2_with fail
        have HRS := resolved_c HS6.out v6 _ HR6.out (by unfold fl at HFL; omega)
        rw [HRV.out] at HRS
        have HRS := Lib.hid HRS
        go_wp2_with (go_at_call 129; refine (HRS.out).mono ?_; rintro e w7 ⟨he, hc⟩; unfold Boom at he; subst he; have HC7 := Lib.hid (HC6.out.trans hc); clear hc)
        exact ⟨rfl, rfl, HC7.out⟩
      | ok s =>
        have HRV := Lib.hid (show rsv (pl true l) = .ok (s, 0) from by unfold rsv; rw [hu])
        dsimp only
        clear hu
        go_enter Tryz.func137, Tryz.ntmps137
        go_wp2_with fail
        refine HTK.out.mono ?_
        rintro e w1 ⟨rfl, hs, hc⟩
        have HND2 := Lib.hid (HND.out w1 hs)
        have HC1 := Lib.hid hc
        clear hs hc
        go_wp2_with fail
        refine HND2.out.mono ?_
        rintro e wq ⟨v2, rfl, hv, hs, hc⟩
        have HSQ := Lib.hid (show SC wq pb xs (a + 1) f from hs)
        have HC := Lib.hid (HC1.out.trans hc)
        subst hv
        clear hs hc
        go_wp2_with fail
        have HT2 := Lib.hid (HTH.out wq HSQ.out)
        go_wp2_with fail
        refine HT2.out.mono ?_
        rintro e w3 ⟨v, rfl, hv, hs, hc⟩
        have b1 := bel_alloc w3 (.cells #[.int .u8 60] 5 (1, 2))
        have HR4 := Lib.hid ((show Rd w3 v l from hv).below b1)
        have HK := Lib.hid (HCT.out _ v _ HR4.out (rd_new w3 [60] #[.int .u8 60] 5 1 2 1 rfl rfl (by omega)) (hs.below b1).bw.mx)
        have HS4 := Lib.hid (hs.below b1)
        have HC4 := Lib.hid ((HC.out.trans hc).trans (Chg.of_below b1))
        clear hv hs hc b1
        go_wp2_with fail
        refine HK.out.mono ?_
        rintro e w4 ⟨rfl, q4, hq⟩
        have hb : Below (w3.alloc (.cells #[.int .u8 60] 5 (1, 2))).heap.size (w3.alloc (.cells #[.int .u8 60] 5 (1, 2))) w4 := hq ▸ Go.below_drewN (Below.refl _ _) q4
        have HS5 := Lib.hid (HS4.out.below hb)
        have HC5 := Lib.hid (HC4.out.trans (Chg.of_below hb))
        have HFC := Lib.hid (HFT.out w4 v (HR4.out.below hb) HS5.out.bw.mx)
        clear hq hb
        go_wp2_with fail
        refine HFC.out.mono ?_
        rintro e w6 ⟨v6, rfl, hown, hb6⟩
        have HR6 := Lib.hid hown.rd
        have HS6 := Lib.hid (HS5.out.below hb6)
        have HC6 := Lib.hid (HC5.out.trans (Chg.of_below hb6))
        clear hown hb6
        go_wp2_with fail
        have HRS := resolved_c HS6.out v6 _ HR6.out (by unfold fl at HFL; omega)
        rw [HRV.out] at HRS
        have HRS := Lib.hid HRS
        go_wp2_with fail
        refine HRS.out.mono ?_
        rintro e w7 ⟨v7, rfl, hv, hs, hc⟩
        have HE := Lib.hid (And.intro (show SC w7 pb xs (a + (i + 2)) f from (show a + 1 + (i + 1) + 0 = a + (i + 2) by omega) ▸ hs) (HC6.out.trans hc))
        have HV7 := Lib.hid (show v7 = .string ⟨s.toArray⟩ from hv)
        clear hs hc hv
        go_wp2_with fail
        go_ret
        exact ⟨_, rfl, by rw [VS]; exact HV7.out, HE.out.1, HE.out.2⟩

set_option maxRecDepth 100000 in
theorem value_c {w : World} {pb : Nat} {xs : List UInt8} {a f : Nat} (h : SC w pb xs a f) : Calls Tryz.prog 137 #[.pointer (some ⟨pb, 0, none⟩)] w
    (Aft w pb xs a f VS (valP (xs.drop a))) := by
  cases h39 : Lib.hasPrefix (xs.drop a) [39] with
  | true => exact value1_c h h39
  | false =>
    cases h34 : Lib.hasPrefix (xs.drop a) [34] with
    | true => exact value2_c h h39 h34
    | false =>
      have HTK := Lib.hid (take_c h ⟨#[39]⟩ (by decide) false h39)
      have HND := Lib.hid (fun (wx : World) (hs : SC wx pb xs a f) => need_c hs ⟨#[34]⟩ (by decide))
      have e34 : (⟨#[34]⟩ : ByteArray).data.toList = [34] := rfl
      rw [e34, h34, if_neg (by simp)] at HND
      rw [show valP (xs.drop a) = .error 11 from by unfold valP; rw [h39, if_neg (by simp), h34]; rfl]
      clear h h39 h34 e34
      go_enter Tryz.func137, Tryz.ntmps137
      go_wp2_with fail
      refine HTK.out.mono ?_
      rintro e w1 ⟨rfl, hs, hc⟩
      have HND2 := Lib.hid (HND.out w1 hs)
      have HC1 := Lib.hid hc
      clear hs hc
      go_wp2_with (go_at_call 107; refine (HND2.out).mono ?_; rintro e w2 ⟨he, hc⟩; unfold Boom at he; subst he; have HC2 := Lib.hid (HC1.out.trans hc); clear hc)
      exact ⟨rfl, rfl, HC2.out⟩
end Go.Proofs.YtpcajjbdlfookaaGreatDoor

/- xmllex: the scanner: attribute, closing. -/
namespace Go.Proofs.YtpcajjbdlfookaaGreatDoor
open Go.RowKit
set_option linter.unusedVariables false

theorem infoA2 : (Tryz.prog.info? 114).map (·.size) = some 2 := by kernel_rfl
theorem infoT5 : (Tryz.prog.info? 52).map (·.size) = some 5 := by kernel_rfl
/-- A box of the call's own stands while the scanner goes on. -/
theorem box_chg {pb : Nat} {w w' : World} {o : Obj} (hp : pb < w.heap.size) (hc : Chg [pb] (w.alloc o) w') : w'.heap[w.heap.size]? = some o := by
  rw [hc.block w.heap.size (by simp) (by simp; omega)]
  exact heap_alloc_new _ _
theorem chg_box {pb : Nat} {w w' : World} {o : Obj} (hc : Chg [pb] (w.alloc o) w') : Chg [pb] w w' := (Chg.alloc _ _ _).trans hc
abbrev put2 (w : World) (b : Nat) (c0 c1 : Value) : World := (w.setCell ⟨b, 0, none⟩ c0).setCell ⟨b, 1, none⟩ c1
abbrev put5 (w : World) (b : Nat) (c0 c1 c2 c3 c4 : Value) : World := ((((w.setCell ⟨b, 0, none⟩ c0).setCell ⟨b, 1, none⟩ c1).setCell ⟨b, 2, none⟩ c2).setCell ⟨b, 3, none⟩ c3).setCell ⟨b, 4, none⟩ c4
theorem put2_at {w : World} {b : Nat} {z0 z1 : Value} {T : TypeId} (h : w.heap[b]? = some (.cells #[z0, z1] T (0, 0))) (c0 c1 : Value) : (put2 w b c0 c1).heap[b]? = some (.cells #[c0, c1] T (0, 0)) := by
  simp [World.setCell, Array.getElem?_modify, h]
theorem put5_at {w : World} {b : Nat} {z0 z1 z2 z3 z4 : Value} {T : TypeId} (h : w.heap[b]? = some (.cells #[z0, z1, z2, z3, z4] T (0, 0))) (c0 c1 c2 c3 c4 : Value) : (put5 w b c0 c1 c2 c3 c4).heap[b]? = some (.cells #[c0, c1, c2, c3, c4] T (0, 0)) := by
  simp [World.setCell, Array.getElem?_modify, h]
theorem put2_chg (w : World) (b : Nat) (c0 c1 : Value) : Chg [b] w (put2 w b c0 c1) := ((Chg.refl [b] w).set' _ _ _ (.inl (by simp))).set' _ _ _ (.inl (by simp))
theorem put5_chg (w : World) (b : Nat) (c0 c1 c2 c3 c4 : Value) : Chg [b] w (put5 w b c0 c1 c2 c3 c4) := ((((((Chg.refl [b] w).set' _ _ _ (.inl (by simp))).set' _ _ _ (.inl (by simp))).set' _ _ _ (.inl (by simp))).set' _ _ _ (.inl (by simp))).set' _ _ _ (.inl (by simp)))
theorem cellsX5 {w : World} {b : Nat} {c0 c1 c2 c3 c4 : Value} {T : TypeId} (h : w.heap[b]? = some (.cells #[c0, c1, c2, c3, c4] T (0, 0))) : w.cell? ⟨b, 0, none⟩ = some c0 ∧ w.cell? ⟨b, 1, none⟩ = some c1 ∧ w.cell? ⟨b, 2, none⟩ = some c2 ∧ w.cell? ⟨b, 3, none⟩ = some c3 ∧ w.cell? ⟨b, 4, none⟩ = some c4 ∧ (∀ o, w.frozen? ⟨b, o, none⟩ = false) := by
  refine ⟨?_, ?_, ?_, ?_, ?_, fun o => ?_⟩ <;> simp [World.cell?, World.frozen?, h]
/-- A box of the call's own is written: the scanner stays, and what came before. -/
theorem SC.poke {w0 w w' : World} {pb b : Nat} {xs : List UInt8} {a f : Nat} (h : SC w pb xs a f) (hc : Chg [pb] w0 w) (hk : Chg [b] w w') (hb : w0.heap.size ≤ b) (hne : b ≠ pb) (hg : ∀ xs v, Rd w v xs → Rd w' v xs) (hf : 0 ≠ b ∧ 1 ≠ b ∧ 2 ≠ b ∧ 3 ≠ b ∧ 4 ≠ b) : SC w' pb xs a f ∧ Chg [pb] w0 w' := by
  obtain ⟨p, c, h1, h2, h9⟩ := h.box
  refine ⟨⟨h.bw.chg hk hf, h.far, ⟨p, c, ?_, hg _ _ h2, h9⟩, h.le⟩, hc.then hk (fun i hi => by simp at hi; subst hi; exact .inr hb)⟩
  rw [hk.block pb h.lt (by simpa using Ne.symm hne)]
  exact h1
/-- The globals' places lie ahead of a new block. -/
theorem BW.far {w : World} (h : BW w) {b : Nat} (hb : w.heap.size ≤ b) : 0 ≠ b ∧ 1 ≠ b ∧ 2 ≠ b ∧ 3 ≠ b ∧ 4 ≠ b := by
  have h1 := World.block_lt_of_cell? w _ (h.tab.1 0 (by omega))
  have h2 := World.block_lt_of_cell? w _ (h.tab.2 0 (by omega)).1
  have h3 := h.mx.lt
  obtain ⟨_, h4, _⟩ := h.es
  obtain ⟨_, h5, _⟩ := h.er
  have h4 := World.block_lt_of_cell? w _ h4
  have h5 := World.block_lt_of_cell? w _ h5
  simp only at h1 h2 h4 h5
  refine ⟨?_, ?_, ?_, ?_, ?_⟩ <;> omega
/-- Bytes lie in no box of other cells. -/
theorem rd_poke {w w' : World} {b : Nat} {cs : Array Value} {T : TypeId} (hb : w.heap[b]? = some (.cells cs T (0, 0))) (hn : ∀ (i : Nat) (n : Int), cs[i]? ≠ some (Value.int IntKind.u8 n)) (hk : Chg [b] w w') : ∀ xs v, Rd w v xs → Rd w' v xs := by
  intro xs v h
  obtain ⟨p, c, rfl, h1, h2, h3, h4⟩ := h
  refine ⟨p, c, rfl, h1, h2, h3, fun hp => ?_⟩
  obtain ⟨g, o, hg, hx⟩ := h4 hp
  refine ⟨g, o, hg, fun i hi => chg_cell hk (hx i hi) ?_⟩
  rintro rfl
  have h9 : cs[o + i]? = some (Value.int IntKind.u8 (xs[i].toNat : Int)) := by simpa [World.cell?, hb] using hx i hi
  exact hn _ _ h9
theorem no_u8_2 {c0 c1 : Value} (h0 : ∀ n : Int, c0 ≠ .int .u8 n) (h1 : ∀ n : Int, c1 ≠ .int .u8 n) : ∀ (i : Nat) (n : Int), (#[c0, c1] : Array Value)[i]? ≠ some (Value.int IntKind.u8 n) := by
  intro i n
  match i with
  | 0 => simpa using h0 n
  | 1 => simpa using h1 n
  | k + 2 => simp
theorem no_u8_5 {c0 c1 c2 c3 c4 : Value} (h0 : ∀ n : Int, c0 ≠ .int .u8 n) (h1 : ∀ n : Int, c1 ≠ .int .u8 n) (h2 : ∀ n : Int, c2 ≠ .int .u8 n) (h3 : ∀ n : Int, c3 ≠ .int .u8 n) (h4 : ∀ n : Int, c4 ≠ .int .u8 n) : ∀ (i : Nat) (n : Int), (#[c0, c1, c2, c3, c4] : Array Value)[i]? ≠ some (Value.int IntKind.u8 n) := by
  intro i n
  match i with
  | 0 => simpa using h0 n
  | 1 => simpa using h1 n
  | 2 => simpa using h2 n
  | 3 => simpa using h3 n
  | 4 => simpa using h4 n
  | k + 5 => simp

/-- An attribute by value. -/
def VA : List UInt8 × List UInt8 → World → Value → Prop := fun x _ v => v = .agg #[.string ⟨x.1.toArray⟩, .string ⟨x.2.toArray⟩]
abbrev RESA : Obj := .cells #[.string ⟨#[]⟩, .string ⟨#[]⟩] 114
set_option maxRecDepth 100000 in
set_option maxHeartbeats 2000000 in
theorem attribute_c {w : World} {pb : Nat} {xs : List UInt8} {a f : Nat} (h : SC w pb xs a f) : Calls Tryz.prog 127 #[.pointer (some ⟨pb, 0, none⟩)] w
    (Aft w pb xs a f VA (attrP (xs.drop a))) := by
  have hpl := h.lt
  have HG := Lib.hid (h.bw.far (Nat.le_refl _))
  have h0 := h.below (bel_alloc w RESA)
  have HTN := Lib.hid (tagName_c h0)
  have HNE : w.heap.size ≠ pb := by omega
  clear h h0
  cases hT : tagP (xs.drop a) with
  | none =>
    rw [show attrP (xs.drop a) = .error 11 from by unfold attrP; rw [hT]]
    rw [show tgP (xs.drop a) = .error 11 from by unfold tgP; rw [hT]] at HTN
    clear hT
    go_enter Tryz.func127, Tryz.ntmps127
    go_wp2_with (go_at_call 126; refine (HTN.out).mono ?_; rintro e w1 ⟨he, hc⟩; unfold Boom at he; subst he; have HC := Lib.hid (chg_box hc); clear hc)
    exact ⟨rfl, rfl, HC.out⟩
  | some n =>
    rw [show tgP (xs.drop a) = .ok ((xs.drop a).take n, n) from by unfold tgP; rw [hT]] at HTN
    obtain ⟨k, hk⟩ : ∃ k, k = blN (xs.drop (a + n)) := ⟨_, rfl⟩
    obtain ⟨k2, hk2⟩ : ∃ k2, k2 = blN (xs.drop (a + n + k + 1)) := ⟨_, rfl⟩
    have hA : attrP (xs.drop a) = if Lib.hasPrefix (xs.drop (a + n + k)) [61] then (match valP (xs.drop (a + n + k + 1 + k2)) with
        | .error e => .error e
        | .ok (s, m) => .ok (((xs.drop a).take n, s), n + k + 1 + k2 + m)) else .error 11 := by
      unfold attrP
      rw [hT]
      simp only [List.drop_drop, ← Nat.add_assoc]
      rw [← hk, ← hk2]
      rfl
    rw [hA]
    have HB1 := Lib.hid (fun (wx : World) (hs : SC wx pb xs (a + n) f) => blanks_c hs)
    rw [← hk] at HB1
    have HND := Lib.hid (fun (wx : World) (hs : SC wx pb xs (a + n + k) f) => need_c hs ⟨#[61]⟩ (by decide))
    have e61 : (⟨#[61]⟩ : ByteArray).data.toList = [61] := rfl
    rw [e61] at HND
    have HB2 := Lib.hid (fun (wx : World) (hs : SC wx pb xs (a + n + k + 1) f) => blanks_c hs)
    rw [← hk2] at HB2
    have HVL := Lib.hid (fun (wx : World) (hs : SC wx pb xs (a + n + k + 1 + k2) f) => value_c hs)
    obtain ⟨S, hS⟩ : ∃ S, S = (⟨((xs.drop a).take n).toArray⟩ : ByteArray) := ⟨_, rfl⟩
    have HSS := Lib.hid hS
    clear hT hA hk hk2 e61 hS
    cases hp : Lib.hasPrefix (xs.drop (a + n + k)) [61] with
    | false =>
      rw [hp, if_neg (by simp)] at HND
      rw [if_neg (by simp)]
      clear hp
      go_enter Tryz.func127, Tryz.ntmps127
      go_wp2_with fail
      refine HTN.out.mono ?_
      rintro e w1 ⟨v1, rfl, hv, hs, hc⟩
      have hv' : v1 = .string S := by rw [show v1 = .string ⟨((xs.drop a).take n).toArray⟩ from hv, HSS.out]
      subst hv'
      have HK1 := Lib.hid (HB1.out w1 hs)
      have HC1 := Lib.hid hc
      clear hs hc hv
      go_wp2_with fail
      refine HK1.out.mono ?_
      rintro e w2 ⟨v2, rfl, hv, hs, hc⟩
      unfold VBl at hv
      subst hv
      have HK2 := Lib.hid (HND.out w2 hs)
      have HC2 := Lib.hid (HC1.out.trans hc)
      clear hs hc
      go_wp2_with (go_at_call 107; refine (HK2.out).mono ?_; rintro e w3 ⟨he, hc⟩; unfold Boom at he; subst he; have HC3 := Lib.hid (chg_box (HC2.out.trans hc)); clear hc)
      exact ⟨rfl, rfl, HC3.out⟩
    | true =>
      rw [hp, if_pos rfl] at HND
      rw [if_pos rfl]
      clear hp
      cases hv : valP (xs.drop (a + n + k + 1 + k2)) with
      | error z =>
        rw [hv] at HVL
        dsimp only
        clear hv
        go_enter Tryz.func127, Tryz.ntmps127
        go_wp2_with fail
        refine HTN.out.mono ?_
        rintro e w1 ⟨v1, rfl, hv, hs, hc⟩
        have hv' : v1 = .string S := by rw [show v1 = .string ⟨((xs.drop a).take n).toArray⟩ from hv, HSS.out]
        subst hv'
        have HK1 := Lib.hid (HB1.out w1 hs)
        have HC1 := Lib.hid hc
        clear hs hc hv
        go_wp2_with fail
        refine HK1.out.mono ?_
        rintro e w2 ⟨v2, rfl, hv, hs, hc⟩
        unfold VBl at hv
        subst hv
        have HK2 := Lib.hid (HND.out w2 hs)
        have HC2 := Lib.hid (HC1.out.trans hc)
        clear hs hc
        go_wp2_with fail
        refine HK2.out.mono ?_
        rintro e w3 ⟨v3, rfl, hv, hs, hc⟩
        unfold VU at hv
        subst hv
        have HK3 := Lib.hid (HB2.out w3 hs)
        have HC3 := Lib.hid (HC2.out.trans hc)
        clear hs hc
        go_wp2_with fail
        refine HK3.out.mono ?_
        rintro e w4 ⟨v4, rfl, hv, hs, hc⟩
        unfold VBl at hv
        subst hv
        have HK4 := Lib.hid (HVL.out w4 hs)
        have HC4 := Lib.hid (HC3.out.trans hc)
        clear hs hc
        go_wp2_with (go_at_call 137; refine (HK4.out).mono ?_; rintro e w5 ⟨he, hc⟩; unfold Boom at he; subst he; have HC5 := Lib.hid (chg_box (HC4.out.trans hc)); clear hc)
        exact ⟨rfl, rfl, HC5.out⟩
      | ok q =>
        obtain ⟨s, m⟩ := q
        rw [hv] at HVL
        dsimp only
        clear hv
        obtain ⟨S2, hS2⟩ : ∃ S2, S2 = (⟨s.toArray⟩ : ByteArray) := ⟨_, rfl⟩
        have HS2 := Lib.hid hS2
        clear hS2
        go_enter Tryz.func127, Tryz.ntmps127
        go_wp2_with fail
        refine HTN.out.mono ?_
        rintro e w1 ⟨v1, rfl, hv, hs, hc⟩
        have hv' : v1 = .string S := by rw [show v1 = .string ⟨((xs.drop a).take n).toArray⟩ from hv, HSS.out]
        subst hv'
        have HK1 := Lib.hid (HB1.out w1 hs)
        have HC1 := Lib.hid hc
        clear hs hc hv
        go_wp2_with fail
        refine HK1.out.mono ?_
        rintro e w2 ⟨v2, rfl, hv, hs, hc⟩
        unfold VBl at hv
        subst hv
        have HK2 := Lib.hid (HND.out w2 hs)
        have HC2 := Lib.hid (HC1.out.trans hc)
        clear hs hc
        go_wp2_with fail
        refine HK2.out.mono ?_
        rintro e w3 ⟨v3, rfl, hv, hs, hc⟩
        unfold VU at hv
        subst hv
        have HK3 := Lib.hid (HB2.out w3 hs)
        have HC3 := Lib.hid (HC2.out.trans hc)
        clear hs hc
        go_wp2_with fail
        refine HK3.out.mono ?_
        rintro e w4 ⟨v4, rfl, hv, hs, hc⟩
        unfold VBl at hv
        subst hv
        have HK4 := Lib.hid (HVL.out w4 hs)
        have HC4 := Lib.hid (HC3.out.trans hc)
        clear hs hc
        go_wp2_with fail
        refine HK4.out.mono ?_
        rintro e w5 ⟨v5, rfl, hv5, hs, hc⟩
        have hv5' : v5 = .string S2 := by rw [show v5 = .string ⟨s.toArray⟩ from hv5, HS2.out]
        subst hv5'
        have HC5 := Lib.hid (HC4.out.trans hc)
        have HBX := Lib.hid (box_chg hpl HC5.out)
        have hbl : w.heap.size < w5.heap.size := (Array.getElem?_eq_some_iff.1 HBX.out).1
        obtain ⟨z0, z1, zz⟩ := cells2 HBX.out
        have HP := Lib.hid ((show SC w5 pb xs (a + (n + k + 1 + k2 + m)) f from (show a + n + k + 1 + k2 + m = a + (n + k + 1 + k2 + m) by omega) ▸ hs).poke (chg_box HC5.out) (put2_chg w5 w.heap.size (.string S) (.string S2)) (Nat.le_refl _) HNE (rd_poke HBX.out (no_u8_2 (by simp) (by simp)) (put2_chg w5 w.heap.size (.string S) (.string S2))) HG.out)
        clear hs hc hv5
        go_wp2_with fail
        refine bodyPost_ret (results_cell_row Tryz.results127 _ _ w.heap.size 114 _ (0, 0) _ rfl (put2_at HBX.out (.string S) (.string S2)) Tryz.underlying114 rfl infoA2) rfl ?_
        exact ⟨_, rfl, by rw [VA, HSS.out, HS2.out], HP.out.1, HP.out.2⟩

/-- A token by value: its attributes lie in memory. -/
def AtsIs (w : World) (v : Value) (l : List (List UInt8 × List UInt8)) : Prop :=
  ∃ p c, v = .slice p l.length c ∧ l.length ≤ c ∧ c ≤ maxLen ∧ (p = none → c = 0) ∧ (0 < l.length → ∃ b o, p = some ⟨b, o, none⟩ ∧ (∃ cs z, w.heap[b]? = some (.cells cs 114 z)) ∧ ∀ j u, (l.flatMap fun x => [Value.string ⟨x.1.toArray⟩, Value.string ⟨x.2.toArray⟩])[j]? = some u → w.cell? ⟨b, o + j, none⟩ = some u)
def VT : Tk → World → Value → Prop := fun t w v => ∃ s, v = .agg #[.int .i64 (t.kind : Nat), .string ⟨t.name.toArray⟩, s, .bool t.empty, .string ⟨t.text.toArray⟩] ∧ AtsIs w s t.attrs
theorem AtsIs.nil (w : World) : AtsIs w (.slice none 0 0) [] := ⟨none, 0, rfl, by simp, by simp, by simp, by simp⟩
abbrev REST : Obj := .cells #[.int .i64 0, .string ⟨#[]⟩, .slice none 0 0, .bool false, .string ⟨#[]⟩] 52
set_option maxRecDepth 100000 in
set_option maxHeartbeats 2000000 in
theorem closing_c {w : World} {pb : Nat} {xs : List UInt8} {a f : Nat} (h : SC w pb xs a f) : Calls Tryz.prog 111 #[.pointer (some ⟨pb, 0, none⟩)] w
    (Aft w pb xs a f VT (cloP (xs.drop a))) := by
  have hpl := h.lt
  have HG := Lib.hid (h.bw.far (Nat.le_refl _))
  have h0 := h.below (bel_alloc w REST)
  have HTN := Lib.hid (tagName_c h0)
  have HNE : w.heap.size ≠ pb := by omega
  clear h h0
  cases hT : tagP (xs.drop a) with
  | none =>
    rw [show cloP (xs.drop a) = .error 11 from by unfold cloP; rw [hT]]
    rw [show tgP (xs.drop a) = .error 11 from by unfold tgP; rw [hT]] at HTN
    clear hT
    go_enter Tryz.func111, Tryz.ntmps111
    go_wp2_with (go_at_call 126; refine (HTN.out).mono ?_; rintro e w1 ⟨he, hc⟩; unfold Boom at he; subst he; have HC := Lib.hid (chg_box hc); clear hc)
    exact ⟨rfl, rfl, HC.out⟩
  | some n =>
    rw [show tgP (xs.drop a) = .ok ((xs.drop a).take n, n) from by unfold tgP; rw [hT]] at HTN
    obtain ⟨k, hk⟩ : ∃ k, k = blN (xs.drop (a + n)) := ⟨_, rfl⟩
    have hA : cloP (xs.drop a) = if Lib.hasPrefix (xs.drop (a + n + k)) [62] then .ok (⟨2, (xs.drop a).take n, [], false, []⟩, n + k + 1) else .error 11 := by
      unfold cloP
      rw [hT]
      simp only [List.drop_drop, ← Nat.add_assoc]
      rw [← hk]
    rw [hA]
    have HB1 := Lib.hid (fun (wx : World) (hs : SC wx pb xs (a + n) f) => blanks_c hs)
    rw [← hk] at HB1
    have HND := Lib.hid (fun (wx : World) (hs : SC wx pb xs (a + n + k) f) => need_c hs ⟨#[62]⟩ (by decide))
    have e62 : (⟨#[62]⟩ : ByteArray).data.toList = [62] := rfl
    rw [e62] at HND
    obtain ⟨S, hS⟩ : ∃ S, S = (⟨((xs.drop a).take n).toArray⟩ : ByteArray) := ⟨_, rfl⟩
    have HSS := Lib.hid hS
    clear hT hA hk e62 hS
    cases hp : Lib.hasPrefix (xs.drop (a + n + k)) [62] with
    | false =>
      rw [hp, if_neg (by simp)] at HND
      rw [if_neg (by simp)]
      clear hp
      go_enter Tryz.func111, Tryz.ntmps111
      go_wp2_with fail
      refine HTN.out.mono ?_
      rintro e w1 ⟨v1, rfl, hv, hs, hc⟩
      have hv' : v1 = .string S := by rw [show v1 = .string ⟨((xs.drop a).take n).toArray⟩ from hv, HSS.out]
      subst hv'
      have HK1 := Lib.hid (HB1.out w1 hs)
      have HC1 := Lib.hid hc
      clear hs hc hv
      go_wp2_with fail
      refine HK1.out.mono ?_
      rintro e w2 ⟨v2, rfl, hv, hs, hc⟩
      unfold VBl at hv
      subst hv
      have HK2 := Lib.hid (HND.out w2 hs)
      have HC2 := Lib.hid (HC1.out.trans hc)
      clear hs hc
      go_wp2_with (go_at_call 107; refine (HK2.out).mono ?_; rintro e w3 ⟨he, hc⟩; unfold Boom at he; subst he; have HC3 := Lib.hid (chg_box (HC2.out.trans hc)); clear hc)
      exact ⟨rfl, rfl, HC3.out⟩
    | true =>
      rw [hp, if_pos rfl] at HND
      rw [if_pos rfl]
      clear hp
      go_enter Tryz.func111, Tryz.ntmps111
      go_wp2_with fail
      refine HTN.out.mono ?_
      rintro e w1 ⟨v1, rfl, hv, hs, hc⟩
      have hv' : v1 = .string S := by rw [show v1 = .string ⟨((xs.drop a).take n).toArray⟩ from hv, HSS.out]
      subst hv'
      have HK1 := Lib.hid (HB1.out w1 hs)
      have HC1 := Lib.hid hc
      clear hs hc hv
      go_wp2_with fail
      refine HK1.out.mono ?_
      rintro e w2 ⟨v2, rfl, hv, hs, hc⟩
      unfold VBl at hv
      subst hv
      have HK2 := Lib.hid (HND.out w2 hs)
      have HC2 := Lib.hid (HC1.out.trans hc)
      clear hs hc
      go_wp2_with fail
      refine HK2.out.mono ?_
      rintro e w5 ⟨v5, rfl, hv5, hs, hc⟩
      unfold VU at hv5
      subst hv5
      have HC5 := Lib.hid (HC2.out.trans hc)
      have HBX := Lib.hid (box_chg hpl HC5.out)
      have hbl : w.heap.size < w5.heap.size := (Array.getElem?_eq_some_iff.1 HBX.out).1
      obtain ⟨z0, z1, z2, z3, z4, zz⟩ := cellsX5 HBX.out
      have hk5 := put5_chg w5 w.heap.size (.int .i64 2) (.string S) (.slice none 0 0) (.bool false) (.string ⟨#[]⟩)
      have HP := Lib.hid ((show SC w5 pb xs (a + (n + k + 1)) f from (show a + n + k + 1 = a + (n + k + 1) by omega) ▸ hs).poke (chg_box HC5.out) hk5 (Nat.le_refl _) HNE (rd_poke HBX.out (no_u8_5 (by simp) (by simp) (by simp) (by simp) (by simp)) hk5) HG.out)
      clear hs hc hk5
      go_wp2_with fail
      refine bodyPost_ret (results_cell_row Tryz.results111 _ _ w.heap.size 52 _ (0, 0) _ rfl (put5_at HBX.out (.int .i64 2) (.string S) (.slice none 0 0) (.bool false) (.string ⟨#[]⟩)) Tryz.underlying52 rfl infoT5) rfl ?_
      exact ⟨_, rfl, ⟨_, by rw [HSS.out]; rfl, AtsIs.nil _⟩, HP.out.1, HP.out.2⟩
end Go.Proofs.YtpcajjbdlfookaaGreatDoor
