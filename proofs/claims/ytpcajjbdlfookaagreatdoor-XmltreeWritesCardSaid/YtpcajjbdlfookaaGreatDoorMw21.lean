/- xmllex: the scanner: data. -/
import Derived.Test.YtpcajjbdlfookaaGreatDoorMw20
namespace Go.Proofs.YtpcajjbdlfookaaGreatDoor
open Go.RowKit
set_option linter.unusedVariables false

theorem cut_any (w : World) (p : Option Addr) (n c nd : Nat) (u : Value) (xs ys : List UInt8) (h1 : Rd w (.slice p n c) xs) (h2 : Rd w u ys) (hm : MX w) (hl : xs.length ≤ 16777216) (hk : ys.length ≤ 16777216) (hnd : nd = if Lib.index xs ys < 0 then n else (Lib.index xs ys).toNat) :
    Calls Tryz.prog 122 #[.slice p n c, u] w fun e w' => (∃ x y, e = .returned (.tuple #[.slice p nd c, x, y])) ∧ ∃ q, w' = w.drewN q := by
  by_cases hi : Lib.index xs ys < 0
  · rw [if_pos hi] at hnd
    subst hnd
    exact (cut_miss w p _ c u xs ys h1 h2 hm hl hk hi).mono fun e w' h => ⟨⟨_, _, h.1⟩, h.2⟩
  · obtain ⟨i, hi'⟩ : ∃ i : Nat, Lib.index xs ys = i := ⟨(Lib.index xs ys).toNat, by omega⟩
    rw [if_neg hi, hi', Int.toNat_natCast] at hnd
    subst hnd
    exact (cut_hit w p n c _ u xs ys h1 h2 hm hl hk hi').mono fun e w' h => ⟨h.1.elim fun x hx => ⟨x, _, hx⟩, h.2⟩

set_option maxRecDepth 100000 in
set_option maxHeartbeats 2000000 in
theorem data_c {w : World} {pb : Nat} {xs : List UInt8} {a f : Nat} (h : SC w pb xs a f) : Calls Tryz.prog 113 #[.pointer (some ⟨pb, 0, none⟩)] w
    (Aft w pb xs a f VT (datP (xs.drop a))) := by
  have kc := fun (w : World) (C : Array Value) (n c : Nat) => Lib.run_convert_bytes_const (P := Tryz.prog) w 22 5 C n c Tryz.underlying22 Tryz.underlying5
  have hpl := h.lt
  have HG := Lib.hid (h.bw.far (Nat.le_refl _))
  have hle := h.le
  have hdl : (xs.drop a).length = xs.length - a := List.length_drop ..
  have h0 := h.below (bel_alloc w REST)
  have HS0 := Lib.hid h0
  have HRC := Lib.hid (rest_c h0)
  have HNE : w.heap.size ≠ pb := by omega
  obtain ⟨nd, hnd⟩ : ∃ nd, nd = if Lib.index (xs.drop a) [60] < 0 then (xs.drop a).length else (Lib.index (xs.drop a) [60]).toNat := ⟨_, rfl⟩
  have hnl : nd ≤ xs.length - a := by
    rw [hnd]
    split
    · omega
    · have := Lib.index_room (xs.drop a) [60] (by omega)
      simp at this
      omega
  obtain ⟨l, hl⟩ : ∃ l, l = (xs.drop a).take nd := ⟨_, rfl⟩
  have hD : datP (xs.drop a) = if 0 ≤ Lib.index l [93, 93, 62] then .error 11 else match rsT false l with
      | .error _ => .error 13
      | .ok s => .ok (⟨3, [], [], false, s⟩, nd) := by
    rw [hl, hnd]
    rfl
  rw [hD]
  have hll : l.length ≤ 1048576 := by rw [hl, List.length_take]; omega
  have HND := Lib.hid hnd
  have HL := Lib.hid hl
  have HCT := Lib.hid (fun (wx : World) (v u : Value) (h1 : Rd wx v l) (h2 : Rd wx u [93, 93, 62]) (hm : MX wx) => contains_c wx v u l [93, 93, 62] h1 h2 hm (by omega) (by simp) (by simp))
  clear h h0 hD hnd hl
  by_cases h60 : 0 ≤ Lib.index l [93, 93, 62]
  · rw [if_pos h60]
    rw [show decide (0 ≤ Lib.index l [93, 93, 62]) = true from by simpa using h60] at HCT
    clear h60
    go_enter Tryz.func113, Tryz.ntmps113
    go_wp2_with fail
    refine HRC.out.mono ?_
    rintro e w1 ⟨p, m, c, rfl, hr, hb1⟩
    have b1 := bel_alloc w1 (.cells #[.int .u8 60] 5 (1, 2))
    have r1 := rd_new w1 [60] #[.int .u8 60] 5 1 2 1 rfl rfl (by omega)
    have hm := hr.len
    have HX1 := Lib.hid (hb1.trans (b1.mono hb1.size))
    have HC := Lib.hid (cut_any _ p m c nd _ _ [60] (hr.below b1) r1 (HS0.out.below HX1.out).bw.mx (by omega) (by simp) (by rw [HND.out, hm]))
    have HRT := Lib.hid (show Rd _ (.slice p nd c) l from HL.out ▸ (hr.below b1).to nd (by omega))
    clear hr hb1 b1 r1 hm
    go_wp2_with fail
    refine HC.out.mono ?_
    rintro e w2 ⟨⟨x, y, rfl⟩, q, hq⟩
    have hb0 : Below (w1.alloc (.cells #[.int .u8 60] 5 (1, 2))).heap.size (w1.alloc (.cells #[.int .u8 60] 5 (1, 2))) w2 := hq ▸ below_drewN (Below.refl _ _) q
    have b2 := bel_alloc w2 (.cells #[.int .u8 93, .int .u8 93, .int .u8 62] 5 (3, 4))
    have HX2 := Lib.hid ((HX1.out.trans (hb0.mono HX1.out.size)).trans (b2.mono (HX1.out.trans (hb0.mono HX1.out.size)).size))
    have HR2 := Lib.hid ((HRT.out.below hb0).below b2)
    have HK := Lib.hid (HCT.out _ _ _ HR2.out (rd_new w2 [93, 93, 62] #[.int .u8 93, .int .u8 93, .int .u8 62] 5 3 4 3 rfl rfl (by omega)) (HS0.out.below HX2.out).bw.mx)
    clear hq hb0 b2
    go_wp2_with fail
    refine HK.out.mono ?_
    rintro e w3 ⟨rfl, q3, hq⟩
    have hb3 : Below (w2.alloc (.cells #[.int .u8 93, .int .u8 93, .int .u8 62] 5 (3, 4))).heap.size (w2.alloc (.cells #[.int .u8 93, .int .u8 93, .int .u8 62] 5 (3, 4))) w3 := hq ▸ below_drewN (Below.refl _ _) q3
    have HX3 := Lib.hid (HX2.out.trans (hb3.mono HX2.out.size))
    have HR3 := Lib.hid (HR2.out.below hb3)
    have HS3 := Lib.hid (HS0.out.below HX3.out)
    clear hq hb3
    have HF := Lib.hid (fail_c HS3.out 11)
    have HC5 := Lib.hid (chg_box (Chg.of_below (S := [pb]) HX3.out))
    go_wp2_with (go_at_call 110; refine (HF.out).mono ?_; rintro e w5 ⟨he, rfl⟩; unfold Boom at he; subst he)
    exact ⟨rfl, rfl, HC5.out⟩
  · rw [if_neg h60]
    rw [show decide (0 ≤ Lib.index l [93, 93, 62]) = false from by simpa using h60] at HCT
    clear h60
    cases hu : rsT false l with
    | error z =>
      have HRV := Lib.hid (show rsv l = .error 13 from by unfold rsv; rw [hu])
      dsimp only
      clear hu
      go_enter Tryz.func113, Tryz.ntmps113
      go_wp2_with fail
      refine HRC.out.mono ?_
      rintro e w1 ⟨p, m, c, rfl, hr, hb1⟩
      have b1 := bel_alloc w1 (.cells #[.int .u8 60] 5 (1, 2))
      have r1 := rd_new w1 [60] #[.int .u8 60] 5 1 2 1 rfl rfl (by omega)
      have hm := hr.len
      have HX1 := Lib.hid (hb1.trans (b1.mono hb1.size))
      have HC := Lib.hid (cut_any _ p m c nd _ _ [60] (hr.below b1) r1 (HS0.out.below HX1.out).bw.mx (by omega) (by simp) (by rw [HND.out, hm]))
      have HRT := Lib.hid (show Rd _ (.slice p nd c) l from HL.out ▸ (hr.below b1).to nd (by omega))
      clear hr hb1 b1 r1 hm
      go_wp2_with fail
      refine HC.out.mono ?_
      rintro e w2 ⟨⟨x, y, rfl⟩, q, hq⟩
      have hb0 : Below (w1.alloc (.cells #[.int .u8 60] 5 (1, 2))).heap.size (w1.alloc (.cells #[.int .u8 60] 5 (1, 2))) w2 := hq ▸ below_drewN (Below.refl _ _) q
      have b2 := bel_alloc w2 (.cells #[.int .u8 93, .int .u8 93, .int .u8 62] 5 (3, 4))
      have HX2 := Lib.hid ((HX1.out.trans (hb0.mono HX1.out.size)).trans (b2.mono (HX1.out.trans (hb0.mono HX1.out.size)).size))
      have HR2 := Lib.hid ((HRT.out.below hb0).below b2)
      have HK := Lib.hid (HCT.out _ _ _ HR2.out (rd_new w2 [93, 93, 62] #[.int .u8 93, .int .u8 93, .int .u8 62] 5 3 4 3 rfl rfl (by omega)) (HS0.out.below HX2.out).bw.mx)
      clear hq hb0 b2
      go_wp2_with fail
      refine HK.out.mono ?_
      rintro e w3 ⟨rfl, q3, hq⟩
      have hb3 : Below (w2.alloc (.cells #[.int .u8 93, .int .u8 93, .int .u8 62] 5 (3, 4))).heap.size (w2.alloc (.cells #[.int .u8 93, .int .u8 93, .int .u8 62] 5 (3, 4))) w3 := hq ▸ below_drewN (Below.refl _ _) q3
      have HX3 := Lib.hid (HX2.out.trans (hb3.mono HX2.out.size))
      have HR3 := Lib.hid (HR2.out.below hb3)
      have HS3 := Lib.hid (HS0.out.below HX3.out)
      clear hq hb3
      obtain ⟨sp, sc, hbox, _⟩ := HS3.out.box
      obtain ⟨c0, c1, c2, cz⟩ := cells3 hbox
      have HGO := Lib.hid (HS3.out.go (Below.refl _ _) (a + nd) (by omega))
      have HC4 := Lib.hid ((chg_box (Chg.of_below (S := [pb]) HX3.out)).trans HGO.out.2)
      have HC4B := Lib.hid ((Chg.of_below (S := [pb]) HX3.out).trans HGO.out.2)
      have HRS := resolved_c HGO.out.1 _ l (HS3.out.rd HR3.out HGO.out.2) (by omega)
      rw [HRV.out] at HRS
      have HRS := Lib.hid HRS
      rw [show ((a + nd : Nat) : Int) = (a : Int) + (nd : Int) by omega] at HRS HC4 HC4B
      clear hbox c0 c2
      go_wp2_with fail
      go_wp2_with (go_at_call 129; refine (HRS.out).mono ?_; rintro e w7 ⟨he, hc⟩; unfold Boom at he; subst he; have HC7 := Lib.hid (HC4.out.trans hc); clear hc)
      exact ⟨rfl, rfl, HC7.out⟩
    | ok s =>
      have HRV := Lib.hid (show rsv l = .ok (s, 0) from by unfold rsv; rw [hu])
      obtain ⟨S, hS⟩ : ∃ S, S = (⟨s.toArray⟩ : ByteArray) := ⟨_, rfl⟩
      have HSS := Lib.hid hS
      dsimp only
      clear hu hS
      go_enter Tryz.func113, Tryz.ntmps113
      go_wp2_with fail
      refine HRC.out.mono ?_
      rintro e w1 ⟨p, m, c, rfl, hr, hb1⟩
      have b1 := bel_alloc w1 (.cells #[.int .u8 60] 5 (1, 2))
      have r1 := rd_new w1 [60] #[.int .u8 60] 5 1 2 1 rfl rfl (by omega)
      have hm := hr.len
      have HX1 := Lib.hid (hb1.trans (b1.mono hb1.size))
      have HC := Lib.hid (cut_any _ p m c nd _ _ [60] (hr.below b1) r1 (HS0.out.below HX1.out).bw.mx (by omega) (by simp) (by rw [HND.out, hm]))
      have HRT := Lib.hid (show Rd _ (.slice p nd c) l from HL.out ▸ (hr.below b1).to nd (by omega))
      clear hr hb1 b1 r1 hm
      go_wp2_with fail
      refine HC.out.mono ?_
      rintro e w2 ⟨⟨x, y, rfl⟩, q, hq⟩
      have hb0 : Below (w1.alloc (.cells #[.int .u8 60] 5 (1, 2))).heap.size (w1.alloc (.cells #[.int .u8 60] 5 (1, 2))) w2 := hq ▸ below_drewN (Below.refl _ _) q
      have b2 := bel_alloc w2 (.cells #[.int .u8 93, .int .u8 93, .int .u8 62] 5 (3, 4))
      have HX2 := Lib.hid ((HX1.out.trans (hb0.mono HX1.out.size)).trans (b2.mono (HX1.out.trans (hb0.mono HX1.out.size)).size))
      have HR2 := Lib.hid ((HRT.out.below hb0).below b2)
      have HK := Lib.hid (HCT.out _ _ _ HR2.out (rd_new w2 [93, 93, 62] #[.int .u8 93, .int .u8 93, .int .u8 62] 5 3 4 3 rfl rfl (by omega)) (HS0.out.below HX2.out).bw.mx)
      clear hq hb0 b2
      go_wp2_with fail
      refine HK.out.mono ?_
      rintro e w3 ⟨rfl, q3, hq⟩
      have hb3 : Below (w2.alloc (.cells #[.int .u8 93, .int .u8 93, .int .u8 62] 5 (3, 4))).heap.size (w2.alloc (.cells #[.int .u8 93, .int .u8 93, .int .u8 62] 5 (3, 4))) w3 := hq ▸ below_drewN (Below.refl _ _) q3
      have HX3 := Lib.hid (HX2.out.trans (hb3.mono HX2.out.size))
      have HR3 := Lib.hid (HR2.out.below hb3)
      have HS3 := Lib.hid (HS0.out.below HX3.out)
      clear hq hb3
      obtain ⟨sp, sc, hbox, _⟩ := HS3.out.box
      obtain ⟨c0, c1, c2, cz⟩ := cells3 hbox
      have HGO := Lib.hid (HS3.out.go (Below.refl _ _) (a + nd) (by omega))
      have HC4 := Lib.hid ((chg_box (Chg.of_below (S := [pb]) HX3.out)).trans HGO.out.2)
      have HC4B := Lib.hid ((Chg.of_below (S := [pb]) HX3.out).trans HGO.out.2)
      have HRS := resolved_c HGO.out.1 _ l (HS3.out.rd HR3.out HGO.out.2) (by omega)
      rw [HRV.out] at HRS
      have HRS := Lib.hid HRS
      rw [show ((a + nd : Nat) : Int) = (a : Int) + (nd : Int) by omega] at HRS HC4 HC4B
      clear hbox c0 c2
      go_wp2_with fail
      go_wp2_with fail
      refine HRS.out.mono ?_
      rintro e w5 ⟨v5, rfl, hv5, hs, hc⟩
      have hv5' : v5 = .string S := by rw [show v5 = .string ⟨s.toArray⟩ from hv5, HSS.out]
      subst hv5'
      have hc6 : Chg [pb] (w.alloc REST) w5 := HC4B.out.trans hc
      have HBX := Lib.hid (box_chg hpl hc6)
      have hbl : w.heap.size < w5.heap.size := (Array.getElem?_eq_some_iff.1 HBX.out).1
      obtain ⟨z0, z1, z2, z3, z4, zz⟩ := cellsX5 HBX.out
      have hk5 := put5_chg w5 w.heap.size (.int .i64 3) (.string ⟨#[]⟩) (.slice none 0 0) (.bool false) (.string S)
      have HP := Lib.hid (hs.poke (chg_box hc6) hk5 (Nat.le_refl _) HNE (rd_poke HBX.out (no_u8_5 (by simp) (by simp) (by simp) (by simp) (by simp)) hk5) HG.out)
      clear hs hc hk5 hc6 hv5
      go_wp2_with fail
      refine bodyPost_ret (results_cell_row Tryz.results113 _ _ w.heap.size 52 _ (0, 0) _ rfl (put5_at HBX.out (.int .i64 3) (.string ⟨#[]⟩) (.slice none 0 0) (.bool false) (.string S)) Tryz.underlying52 rfl infoT5) rfl ?_
      exact ⟨_, rfl, ⟨_, by rw [HSS.out]; rfl, AtsIs.nil _⟩, HP.out.1, HP.out.2⟩
end Go.Proofs.YtpcajjbdlfookaaGreatDoor
