/- xmllex: the scanner: value. -/
import Derived.Test.YtpcajjbdlfookaaGreatDoorMw16
namespace Go.Proofs.YtpcajjbdlfookaaGreatDoor
open Go.RowKit
set_option linter.unusedVariables false

set_option maxRecDepth 100000 in
set_option maxHeartbeats 2000000 in
theorem value1_c {w : World} {pb : Nat} {xs : List UInt8} {a f : Nat} (h : SC w pb xs a f) (h39 : Lib.hasPrefix (xs.drop a) [39] = true) : Calls Tryz.prog 137 #[.pointer (some ⟨pb, 0, none⟩)] w
    (Aft w pb xs a f VS (valP (xs.drop a))) := by
  have kc := fun (w : World) (C : Array Value) (n c : Nat) => Lib.run_convert_bytes_const (P := Tryz.prog) w 22 5 C n c Tryz.underlying22 Tryz.underlying5
  have hle := h.le
  have HTK := Lib.hid (take_c h ⟨#[39]⟩ (by decide) true h39)
  have HV := Lib.hid (show valP (xs.drop a) = valQ 39 (xs.drop (a + 1)) from by unfold valP; rw [if_pos h39, List.drop_drop])
  clear h h39
  rw [HV.out]
  have HTH := Lib.hid (fun (wx : World) (hs : SC wx pb xs (a + 1) f) => through_c hs ⟨#[39]⟩ (by decide))
  have eq : (⟨#[39]⟩ : ByteArray).data.toList = [39] := rfl
  rw [eq] at HTH
  clear eq
  by_cases hi : Lib.index (xs.drop (a + 1)) [39] < 0
  · rw [show thr (xs.drop (a + 1)) [39] = .error 11 from by unfold thr; rw [if_pos hi]] at HTH
    rw [show valQ 39 (xs.drop (a + 1)) = .error 11 from by unfold valQ; rw [if_pos hi]]
    clear hi
    go_enter Tryz.func137, Tryz.ntmps137
    go_wp2_with fail
    refine HTK.out.mono ?_
    rintro e wq ⟨rfl, hs, hc⟩
    have HSQ := Lib.hid (show SC wq pb xs (a + 1) f from hs)
    have HC := Lib.hid hc
    clear hs hc
    go_wp2_with fail
    have HT2 := Lib.hid (HTH.out wq HSQ.out)
    go_wp2_with (go_at_call 106; refine (HT2.out).mono ?_; rintro e w3 ⟨he, hc⟩; unfold Boom at he; subst he; have HC3 := Lib.hid (HC.out.trans hc); clear hc)
    exact ⟨rfl, rfl, HC3.out⟩
  · obtain ⟨i, hi'⟩ : ∃ i : Nat, Lib.index (xs.drop (a + 1)) [39] = i := ⟨(Lib.index (xs.drop (a + 1)) [39]).toNat, by omega⟩
    have hi0 := hi
    rw [show thr (xs.drop (a + 1)) [39] = .ok ((xs.drop (a + 1)).take i, i + 1) from by unfold thr; rw [if_neg hi, hi']; rfl] at HTH
    obtain ⟨l, hl⟩ : ∃ l, l = (xs.drop (a + 1)).take i := ⟨_, rfl⟩
    rw [← hl] at HTH
    have hll : l.length ≤ 1048576 := by rw [hl, List.length_take, List.length_drop]; omega
    have HFL := fl_len l
    have HVQ := Lib.hid (show valQ 39 (xs.drop (a + 1)) = if 0 ≤ Lib.index l [60] then .error 11 else match rsT false (pl true l) with
        | .error _ => .error 13
        | .ok s => .ok (s, i + 2) from by unfold valQ; rw [if_neg hi0, hi', Int.toNat_natCast, ← hl]; rfl)
    rw [HVQ.out]
    have HCT := Lib.hid (fun (wx : World) (v u : Value) (h1 : Rd wx v l) (h2 : Rd wx u [60]) (hm : MX wx) => contains_c wx v u l [60] h1 h2 hm (by omega) (by simp) (by simp))
    clear hi hi0 hi' hl
    by_cases h60 : 0 ≤ Lib.index l [60]
    · rw [if_pos h60]
      rw [show decide (0 ≤ Lib.index l [60]) = true from by simpa using h60] at HCT
      clear h60
      go_enter Tryz.func137, Tryz.ntmps137
      go_wp2_with fail
      refine HTK.out.mono ?_
      rintro e wq ⟨rfl, hs, hc⟩
      have HSQ := Lib.hid (show SC wq pb xs (a + 1) f from hs)
      have HC := Lib.hid hc
      clear hs hc
      go_wp2_with fail
      have HT2 := Lib.hid (HTH.out wq HSQ.out)
      go_wp2_with fail
      refine HT2.out.mono ?_
      rintro e w3 ⟨v, rfl, hv, hs, hc⟩
      have b1 := bel_alloc w3 (.cells #[.int .u8 60] 5 (1, 2))
      have HK := Lib.hid (HCT.out _ v _ ((show Rd w3 v l from hv).below b1) (rd_new w3 [60] #[.int .u8 60] 5 1 2 1 rfl rfl (by omega)) (hs.below b1).bw.mx)
      have HS4 := Lib.hid (hs.below b1)
      have HC4 := Lib.hid ((HC.out.trans hc).trans (Chg.of_below b1))
      clear hv hs hc b1
      go_wp2_with fail
      refine HK.out.mono ?_
      rintro e w4 ⟨rfl, q4, hq⟩
      have hb : Below (w3.alloc (.cells #[.int .u8 60] 5 (1, 2))).heap.size (w3.alloc (.cells #[.int .u8 60] 5 (1, 2))) w4 := hq ▸ below_drewN (Below.refl _ _) q4
      have HF := Lib.hid (fail_c (HS4.out.below hb) 11)
      have HC5 := Lib.hid (HC4.out.trans (Chg.of_below hb))
      clear hq hb
      go_wp2_with (go_at_call 110; refine (HF.out).mono ?_; rintro e w5 ⟨he, rfl⟩; unfold Boom at he; subst he)
      exact ⟨rfl, rfl, HC5.out⟩
    · rw [if_neg h60]
      rw [show decide (0 ≤ Lib.index l [60]) = false from by simpa using h60] at HCT
      have HFT := Lib.hid (fun (wx : World) (v : Value) (h1 : Rd wx v l) (hm : MX wx) => flat_c wx v l h1 hm (by omega))
      clear h60
      cases hu : rsT false (pl true l) with
      | error z =>
        have HRV := Lib.hid (show rsv (pl true l) = .error 13 from by unfold rsv; rw [hu])
        dsimp only
        clear hu
        go_enter Tryz.func137, Tryz.ntmps137
        go_wp2_with fail
        refine HTK.out.mono ?_
        rintro e wq ⟨rfl, hs, hc⟩
        have HSQ := Lib.hid (show SC wq pb xs (a + 1) f from hs)
        have HC := Lib.hid hc
        clear hs hc
        go_wp2_with fail
        have HT2 := Lib.hid (HTH.out wq HSQ.out)
        go_wp2_with fail
        refine HT2.out.mono ?_
        rintro e w3 ⟨v, rfl, hv, hs, hc⟩
        have b1 := bel_alloc w3 (.cells #[.int .u8 60] 5 (1, 2))
        have HR4 := Lib.hid ((show Rd w3 v l from hv).below b1)
        have HK := Lib.hid (HCT.out _ v _ HR4.out (rd_new w3 [60] #[.int .u8 60] 5 1 2 1 rfl rfl (by omega)) (hs.below b1).bw.mx)
        have HS4 := Lib.hid (hs.below b1)
        have HC4 := Lib.hid ((HC.out.trans hc).trans (Chg.of_below b1))
        clear hv hs hc b1
        go_wp2_with fail
        refine HK.out.mono ?_
        rintro e w4 ⟨rfl, q4, hq⟩
        have hb : Below (w3.alloc (.cells #[.int .u8 60] 5 (1, 2))).heap.size (w3.alloc (.cells #[.int .u8 60] 5 (1, 2))) w4 := hq ▸ below_drewN (Below.refl _ _) q4
        have HS5 := Lib.hid (HS4.out.below hb)
        have HC5 := Lib.hid (HC4.out.trans (Chg.of_below hb))
        have HFC := Lib.hid (HFT.out w4 v (HR4.out.below hb) HS5.out.bw.mx)
        clear hq hb
        go_wp2_with fail
        refine HFC.out.mono ?_
        rintro e w6 ⟨v6, rfl, hown, hb6⟩
        have HR6 := Lib.hid hown.rd
        have HS6 := Lib.hid (HS5.out.below hb6)
        have HC6 := Lib.hid (HC5.out.trans (Chg.of_below hb6))
        clear hown hb6
        go_wp2_with fail
        have HRS := resolved_c HS6.out v6 _ HR6.out (by unfold fl at HFL; omega)
        rw [HRV.out] at HRS
        have HRS := Lib.hid HRS
        go_wp2_with (go_at_call 129; refine (HRS.out).mono ?_; rintro e w7 ⟨he, hc⟩; unfold Boom at he; subst he; have HC7 := Lib.hid (HC6.out.trans hc); clear hc)
        exact ⟨rfl, rfl, HC7.out⟩
      | ok s =>
        have HRV := Lib.hid (show rsv (pl true l) = .ok (s, 0) from by unfold rsv; rw [hu])
        dsimp only
        clear hu
        go_enter Tryz.func137, Tryz.ntmps137
        go_wp2_with fail
        refine HTK.out.mono ?_
        rintro e wq ⟨rfl, hs, hc⟩
        have HSQ := Lib.hid (show SC wq pb xs (a + 1) f from hs)
        have HC := Lib.hid hc
        clear hs hc
        go_wp2_with fail
        have HT2 := Lib.hid (HTH.out wq HSQ.out)
        go_wp2_with fail
        refine HT2.out.mono ?_
        rintro e w3 ⟨v, rfl, hv, hs, hc⟩
        have b1 := bel_alloc w3 (.cells #[.int .u8 60] 5 (1, 2))
        have HR4 := Lib.hid ((show Rd w3 v l from hv).below b1)
        have HK := Lib.hid (HCT.out _ v _ HR4.out (rd_new w3 [60] #[.int .u8 60] 5 1 2 1 rfl rfl (by omega)) (hs.below b1).bw.mx)
        have HS4 := Lib.hid (hs.below b1)
        have HC4 := Lib.hid ((HC.out.trans hc).trans (Chg.of_below b1))
        clear hv hs hc b1
        go_wp2_with fail
        refine HK.out.mono ?_
        rintro e w4 ⟨rfl, q4, hq⟩
        have hb : Below (w3.alloc (.cells #[.int .u8 60] 5 (1, 2))).heap.size (w3.alloc (.cells #[.int .u8 60] 5 (1, 2))) w4 := hq ▸ below_drewN (Below.refl _ _) q4
        have HS5 := Lib.hid (HS4.out.below hb)
        have HC5 := Lib.hid (HC4.out.trans (Chg.of_below hb))
        have HFC := Lib.hid (HFT.out w4 v (HR4.out.below hb) HS5.out.bw.mx)
        clear hq hb
        go_wp2_with fail
        refine HFC.out.mono ?_
        rintro e w6 ⟨v6, rfl, hown, hb6⟩
        have HR6 := Lib.hid hown.rd
        have HS6 := Lib.hid (HS5.out.below hb6)
        have HC6 := Lib.hid (HC5.out.trans (Chg.of_below hb6))
        clear hown hb6
        go_wp2_with fail
        have HRS := resolved_c HS6.out v6 _ HR6.out (by unfold fl at HFL; omega)
        rw [HRV.out] at HRS
        have HRS := Lib.hid HRS
        go_wp2_with fail
        refine HRS.out.mono ?_
        rintro e w7 ⟨v7, rfl, hv, hs, hc⟩
        have HE := Lib.hid (And.intro (show SC w7 pb xs (a + (i + 2)) f from (show a + 1 + (i + 1) + 0 = a + (i + 2) by omega) ▸ hs) (HC6.out.trans hc))
        have HV7 := Lib.hid (show v7 = .string ⟨s.toArray⟩ from hv)
        clear hs hc hv
        go_wp2_with fail
        go_ret
        exact ⟨_, rfl, by rw [VS]; exact HV7.out, HE.out.1, HE.out.2⟩

set_option maxRecDepth 100000 in
set_option maxHeartbeats 2000000 in
theorem value2_c {w : World} {pb : Nat} {xs : List UInt8} {a f : Nat} (h : SC w pb xs a f) (h39 : Lib.hasPrefix (xs.drop a) [39] = false) (h34 : Lib.hasPrefix (xs.drop a) [34] = true) : Calls Tryz.prog 137 #[.pointer (some ⟨pb, 0, none⟩)] w
    (Aft w pb xs a f VS (valP (xs.drop a))) := by
  have kc := fun (w : World) (C : Array Value) (n c : Nat) => Lib.run_convert_bytes_const (P := Tryz.prog) w 22 5 C n c Tryz.underlying22 Tryz.underlying5
  have hle := h.le
  have HTK := Lib.hid (take_c h ⟨#[39]⟩ (by decide) false h39)
  have HND := Lib.hid (fun (wx : World) (hs : SC wx pb xs a f) => need_c hs ⟨#[34]⟩ (by decide))
  have e34 : (⟨#[34]⟩ : ByteArray).data.toList = [34] := rfl
  rw [e34, h34, if_pos rfl] at HND
  have HV := Lib.hid (show valP (xs.drop a) = valQ 34 (xs.drop (a + 1)) from by unfold valP; rw [h39, if_neg (by simp), if_pos h34, List.drop_drop])
  clear h h39 h34 e34
  rw [HV.out]
  have HTH := Lib.hid (fun (wx : World) (hs : SC wx pb xs (a + 1) f) => through_c hs ⟨#[34]⟩ (by decide))
  have eq : (⟨#[34]⟩ : ByteArray).data.toList = [34] := rfl
  rw [eq] at HTH
  clear eq
  by_cases hi : Lib.index (xs.drop (a + 1)) [34] < 0
  · rw [show thr (xs.drop (a + 1)) [34] = .error 11 from by unfold thr; rw [if_pos hi]] at HTH
    rw [show valQ 34 (xs.drop (a + 1)) = .error 11 from by unfold valQ; rw [if_pos hi]]
    clear hi
    go_enter Tryz.func137, Tryz.ntmps137
    go_wp2_with fail
    refine HTK.out.mono ?_
    rintro e w1 ⟨rfl, hs, hc⟩
    have HND2 := Lib.hid (HND.out w1 hs)
    have HC1 := Lib.hid hc
    clear hs hc
    go_wp2_with fail
    refine HND2.out.mono ?_
    rintro e wq ⟨v2, rfl, hv, hs, hc⟩
    have HSQ := Lib.hid (show SC wq pb xs (a + 1) f from hs)
    have HC := Lib.hid (HC1.out.trans hc)
    subst hv
    clear hs hc
    go_wp2_with fail
    have HT2 := Lib.hid (HTH.out wq HSQ.out)
    go_wp2_with (go_at_call 106; refine (HT2.out).mono ?_; rintro e w3 ⟨he, hc⟩; unfold Boom at he; subst he; have HC3 := Lib.hid (HC.out.trans hc); clear hc)
    exact ⟨rfl, rfl, HC3.out⟩
  · obtain ⟨i, hi'⟩ : ∃ i : Nat, Lib.index (xs.drop (a + 1)) [34] = i := ⟨(Lib.index (xs.drop (a + 1)) [34]).toNat, by omega⟩
    have hi0 := hi
    rw [show thr (xs.drop (a + 1)) [34] = .ok ((xs.drop (a + 1)).take i, i + 1) from by unfold thr; rw [if_neg hi, hi']; rfl] at HTH
    obtain ⟨l, hl⟩ : ∃ l, l = (xs.drop (a + 1)).take i := ⟨_, rfl⟩
    rw [← hl] at HTH
    have hll : l.length ≤ 1048576 := by rw [hl, List.length_take, List.length_drop]; omega
    have HFL := fl_len l
    have HVQ := Lib.hid (show valQ 34 (xs.drop (a + 1)) = if 0 ≤ Lib.index l [60] then .error 11 else match rsT false (pl true l) with
        | .error _ => .error 13
        | .ok s => .ok (s, i + 2) from by unfold valQ; rw [if_neg hi0, hi', Int.toNat_natCast, ← hl]; rfl)
    rw [HVQ.out]
    have HCT := Lib.hid (fun (wx : World) (v u : Value) (h1 : Rd wx v l) (h2 : Rd wx u [60]) (hm : MX wx) => contains_c wx v u l [60] h1 h2 hm (by omega) (by simp) (by simp))
    clear hi hi0 hi' hl
    by_cases h60 : 0 ≤ Lib.index l [60]
    · rw [if_pos h60]
      rw [show decide (0 ≤ Lib.index l [60]) = true from by simpa using h60] at HCT
      clear h60
      go_enter Tryz.func137, Tryz.ntmps137
      go_wp2_with fail
      refine HTK.out.mono ?_
      rintro e w1 ⟨rfl, hs, hc⟩
      have HND2 := Lib.hid (HND.out w1 hs)
      have HC1 := Lib.hid hc
      clear hs hc
      go_wp2_with fail
      refine HND2.out.mono ?_
      rintro e wq ⟨v2, rfl, hv, hs, hc⟩
      have HSQ := Lib.hid (show SC wq pb xs (a + 1) f from hs)
      have HC := Lib.hid (HC1.out.trans hc)
      subst hv
      clear hs hc
      go_wp2_with fail
      have HT2 := Lib.hid (HTH.out wq HSQ.out)
      go_wp2_with fail
      refine HT2.out.mono ?_
      rintro e w3 ⟨v, rfl, hv, hs, hc⟩
      have b1 := bel_alloc w3 (.cells #[.int .u8 60] 5 (1, 2))
      have HK := Lib.hid (HCT.out _ v _ ((show Rd w3 v l from hv).below b1) (rd_new w3 [60] #[.int .u8 60] 5 1 2 1 rfl rfl (by omega)) (hs.below b1).bw.mx)
      have HS4 := Lib.hid (hs.below b1)
      have HC4 := Lib.hid ((HC.out.trans hc).trans (Chg.of_below b1))
      clear hv hs hc b1
      go_wp2_with fail
      refine HK.out.mono ?_
      rintro e w4 ⟨rfl, q4, hq⟩
      have hb : Below (w3.alloc (.cells #[.int .u8 60] 5 (1, 2))).heap.size (w3.alloc (.cells #[.int .u8 60] 5 (1, 2))) w4 := hq ▸ below_drewN (Below.refl _ _) q4
      have HF := Lib.hid (fail_c (HS4.out.below hb) 11)
      have HC5 := Lib.hid (HC4.out.trans (Chg.of_below hb))
      clear hq hb
      go_wp2_with (go_at_call 110; refine (HF.out).mono ?_; rintro e w5 ⟨he, rfl⟩; unfold Boom at he; subst he)
      exact ⟨rfl, rfl, HC5.out⟩
    · rw [if_neg h60]
      rw [show decide (0 ≤ Lib.index l [60]) = false from by simpa using h60] at HCT
      have HFT := Lib.hid (fun (wx : World) (v : Value) (h1 : Rd wx v l) (hm : MX wx) => flat_c wx v l h1 hm (by omega))
      clear h60
      cases hu : rsT false (pl true l) with
      | error z =>
        have HRV := Lib.hid (show rsv (pl true l) = .error 13 from by unfold rsv; rw [hu])
        dsimp only
        clear hu
        go_enter Tryz.func137, Tryz.ntmps137
        go_wp2_with fail
        refine HTK.out.mono ?_
        rintro e w1 ⟨rfl, hs, hc⟩
        have HND2 := Lib.hid (HND.out w1 hs)
        have HC1 := Lib.hid hc
        clear hs hc
        go_wp2_with fail
        refine HND2.out.mono ?_
        rintro e wq ⟨v2, rfl, hv, hs, hc⟩
        have HSQ := Lib.hid (show SC wq pb xs (a + 1) f from hs)
        have HC := Lib.hid (HC1.out.trans hc)
        subst hv
        clear hs hc
        go_wp2_with fail
        have HT2 := Lib.hid (HTH.out wq HSQ.out)
        go_wp2_with fail
        refine HT2.out.mono ?_
        rintro e w3 ⟨v, rfl, hv, hs, hc⟩
        have b1 := bel_alloc w3 (.cells #[.int .u8 60] 5 (1, 2))
        have HR4 := Lib.hid ((show Rd w3 v l from hv).below b1)
        have HK := Lib.hid (HCT.out _ v _ HR4.out (rd_new w3 [60] #[.int .u8 60] 5 1 2 1 rfl rfl (by omega)) (hs.below b1).bw.mx)
        have HS4 := Lib.hid (hs.below b1)
        have HC4 := Lib.hid ((HC.out.trans hc).trans (Chg.of_below b1))
        clear hv hs hc b1
        go_wp2_with fail
        refine HK.out.mono ?_
        rintro e w4 ⟨rfl, q4, hq⟩
        have hb : Below (w3.alloc (.cells #[.int .u8 60] 5 (1, 2))).heap.size (w3.alloc (.cells #[.int .u8 60] 5 (1, 2))) w4 := hq ▸ below_drewN (Below.refl _ _) q4
        have HS5 := Lib.hid (HS4.out.below hb)
        have HC5 := Lib.hid (HC4.out.trans (Chg.of_below hb))
        have HFC := Lib.hid (HFT.out w4 v (HR4.out.below hb) HS5.out.bw.mx)
        clear hq hb
        go_wp2_with fail
        refine HFC.out.mono ?_
        rintro e w6 ⟨v6, rfl, hown, hb6⟩
        have HR6 := Lib.hid hown.rd
        have HS6 := Lib.hid (HS5.out.below hb6)
        have HC6 := Lib.hid (HC5.out.trans (Chg.of_below hb6))
        clear hown hb6
        go_wp2_with fail
        have HRS := resolved_c HS6.out v6 _ HR6.out (by unfold fl at HFL; omega)
        rw [HRV.out] at HRS
        have HRS := Lib.hid HRS
        go_wp2_with (go_at_call 129; refine (HRS.out).mono ?_; rintro e w7 ⟨he, hc⟩; unfold Boom at he; subst he; have HC7 := Lib.hid (HC6.out.trans hc); clear hc)
        exact ⟨rfl, rfl, HC7.out⟩
      | ok s =>
        have HRV := Lib.hid (show rsv (pl true l) = .ok (s, 0) from by unfold rsv; rw [hu])
        dsimp only
        clear hu
        go_enter Tryz.func137, Tryz.ntmps137
        go_wp2_with fail
        refine HTK.out.mono ?_
        rintro e w1 ⟨rfl, hs, hc⟩
        have HND2 := Lib.hid (HND.out w1 hs)
        have HC1 := Lib.hid hc
        clear hs hc
        go_wp2_with fail
        refine HND2.out.mono ?_
        rintro e wq ⟨v2, rfl, hv, hs, hc⟩
        have HSQ := Lib.hid (show SC wq pb xs (a + 1) f from hs)
        have HC := Lib.hid (HC1.out.trans hc)
        subst hv
        clear hs hc
        go_wp2_with fail
        have HT2 := Lib.hid (HTH.out wq HSQ.out)
        go_wp2_with fail
        refine HT2.out.mono ?_
        rintro e w3 ⟨v, rfl, hv, hs, hc⟩
        have b1 := bel_alloc w3 (.cells #[.int .u8 60] 5 (1, 2))
        have HR4 := Lib.hid ((show Rd w3 v l from hv).below b1)
        have HK := Lib.hid (HCT.out _ v _ HR4.out (rd_new w3 [60] #[.int .u8 60] 5 1 2 1 rfl rfl (by omega)) (hs.below b1).bw.mx)
        have HS4 := Lib.hid (hs.below b1)
        have HC4 := Lib.hid ((HC.out.trans hc).trans (Chg.of_below b1))
        clear hv hs hc b1
        go_wp2_with fail
        refine HK.out.mono ?_
        rintro e w4 ⟨rfl, q4, hq⟩
        have hb : Below (w3.alloc (.cells #[.int .u8 60] 5 (1, 2))).heap.size (w3.alloc (.cells #[.int .u8 60] 5 (1, 2))) w4 := hq ▸ below_drewN (Below.refl _ _) q4
        have HS5 := Lib.hid (HS4.out.below hb)
        have HC5 := Lib.hid (HC4.out.trans (Chg.of_below hb))
        have HFC := Lib.hid (HFT.out w4 v (HR4.out.below hb) HS5.out.bw.mx)
        clear hq hb
        go_wp2_with fail
        refine HFC.out.mono ?_
        rintro e w6 ⟨v6, rfl, hown, hb6⟩
        have HR6 := Lib.hid hown.rd
        have HS6 := Lib.hid (HS5.out.below hb6)
        have HC6 := Lib.hid (HC5.out.trans (Chg.of_below hb6))
        clear hown hb6
        go_wp2_with fail
        have HRS := resolved_c HS6.out v6 _ HR6.out (by unfold fl at HFL; omega)
        rw [HRV.out] at HRS
        have HRS := Lib.hid HRS
        go_wp2_with fail
        refine HRS.out.mono ?_
        rintro e w7 ⟨v7, rfl, hv, hs, hc⟩
        have HE := Lib.hid (And.intro (show SC w7 pb xs (a + (i + 2)) f from (show a + 1 + (i + 1) + 0 = a + (i + 2) by omega) ▸ hs) (HC6.out.trans hc))
        have HV7 := Lib.hid (show v7 = .string ⟨s.toArray⟩ from hv)
        clear hs hc hv
        go_wp2_with fail
        go_ret
        exact ⟨_, rfl, by rw [VS]; exact HV7.out, HE.out.1, HE.out.2⟩

set_option maxRecDepth 100000 in
theorem value_c {w : World} {pb : Nat} {xs : List UInt8} {a f : Nat} (h : SC w pb xs a f) : Calls Tryz.prog 137 #[.pointer (some ⟨pb, 0, none⟩)] w
    (Aft w pb xs a f VS (valP (xs.drop a))) := by
  cases h39 : Lib.hasPrefix (xs.drop a) [39] with
  | true => exact value1_c h h39
  | false =>
    cases h34 : Lib.hasPrefix (xs.drop a) [34] with
    | true => exact value2_c h h39 h34
    | false =>
      have HTK := Lib.hid (take_c h ⟨#[39]⟩ (by decide) false h39)
      have HND := Lib.hid (fun (wx : World) (hs : SC wx pb xs a f) => need_c hs ⟨#[34]⟩ (by decide))
      have e34 : (⟨#[34]⟩ : ByteArray).data.toList = [34] := rfl
      rw [e34, h34, if_neg (by simp)] at HND
      rw [show valP (xs.drop a) = .error 11 from by unfold valP; rw [h39, if_neg (by simp), h34]; rfl]
      clear h h39 h34 e34
      go_enter Tryz.func137, Tryz.ntmps137
      go_wp2_with fail
      refine HTK.out.mono ?_
      rintro e w1 ⟨rfl, hs, hc⟩
      have HND2 := Lib.hid (HND.out w1 hs)
      have HC1 := Lib.hid hc
      clear hs hc
      go_wp2_with (go_at_call 107; refine (HND2.out).mono ?_; rintro e w2 ⟨he, hc⟩; unfold Boom at he; subst he; have HC2 := Lib.hid (HC1.out.trans hc); clear hc)
      exact ⟨rfl, rfl, HC2.out⟩
end Go.Proofs.YtpcajjbdlfookaaGreatDoor
