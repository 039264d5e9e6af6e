/- xmllex: the scanner: data. -/
import Derived.Test.YtpcajjbdlfookaaGreatDoorMp06
import Derived.Recover
import Derived.Defers
namespace Go.Proofs.YtpcajjbdlfookaaGreatDoor
open Go.RowKit
set_option linter.unusedVariables false

theorem cut_any (w : World) (p : Option Addr) (n c nd : Nat) (u : Value) (xs ys : List UInt8) (h1 : Rd w (.slice p n c) xs) (h2 : Rd w u ys) (hm : MX w) (hl : xs.length ≤ 16777216) (hk : ys.length ≤ 16777216) (hnd : nd = if Lib.index xs ys < 0 then n else (Lib.index xs ys).toNat) :
    Calls Tryz.prog 122 #[.slice p n c, u] w fun e w' => (∃ x y, e = .returned (.tuple #[.slice p nd c, x, y])) ∧ ∃ q, w' = w.drewN q := by
  by_cases hi : Lib.index xs ys < 0
  · rw [if_pos hi] at hnd
    subst hnd
    exact (cut_miss w p _ c u xs ys h1 h2 hm hl hk hi).mono fun e w' h => ⟨⟨_, _, h.1⟩, h.2⟩
  · obtain ⟨i, hi'⟩ : ∃ i : Nat, Lib.index xs ys = i := ⟨(Lib.index xs ys).toNat, by omega⟩
    rw [if_neg hi, hi', Int.toNat_natCast] at hnd
    subst hnd
    exact (cut_hit w p n c _ u xs ys h1 h2 hm hl hk hi').mono fun e w' h => ⟨h.1.elim fun x hx => ⟨x, _, hx⟩, h.2⟩

set_option maxRecDepth 100000 in
set_option maxHeartbeats 2000000 in
theorem data_c {w : World} {pb : Nat} {xs : List UInt8} {a f : Nat} (h : SC w pb xs a f) : Calls Tryz.prog 113 #[.pointer (some ⟨pb, 0, none⟩)] w
    (Aft w pb xs a f VT (datP (xs.drop a))) := by
  have kc := fun (w : World) (C : Array Value) (n c : Nat) => Lib.run_convert_bytes_const (P := Tryz.prog) w 22 5 C n c Tryz.underlying22 Tryz.underlying5
  have hpl := h.lt
  have HG := Lib.hid (h.bw.far (Nat.le_refl _))
  have hle := h.le
  have hdl : (xs.drop a).length = xs.length - a := List.length_drop ..
  have h0 := h.below (bel_alloc w REST)
  have HS0 := Lib.hid h0
  have HRC := Lib.hid (rest_c h0)
  have HNE : w.heap.size ≠ pb := by omega
  obtain ⟨nd, hnd⟩ : ∃ nd, nd = if Lib.index (xs.drop a) [60] < 0 then (xs.drop a).length else (Lib.index (xs.drop a) [60]).toNat := ⟨_, rfl⟩
  have hnl : nd ≤ xs.length - a := by
    rw [hnd]
    split
    · omega
    · have := Lib.index_room (xs.drop a) [60] (by omega)
      simp at this
      omega
  obtain ⟨l, hl⟩ : ∃ l, l = (xs.drop a).take nd := ⟨_, rfl⟩
  have hD : datP (xs.drop a) = if 0 ≤ Lib.index l [93, 93, 62] then .error 11 else match rsT false l with
      | .error _ => .error 13
      | .ok s => .ok (⟨3, [], [], false, s⟩, nd) := by
    rw [hl, hnd]
    rfl
  rw [hD]
  have hll : l.length ≤ 1048576 := by rw [hl, List.length_take]; omega
  have HND := Lib.hid hnd
  have HL := Lib.hid hl
  have HCT := Lib.hid (fun (wx : World) (v u : Value) (h1 : Rd wx v l) (h2 : Rd wx u [93, 93, 62]) (hm : MX wx) => contains_c wx v u l [93, 93, 62] h1 h2 hm (by omega) (by simp) (by simp))
  clear h h0 hD hnd hl
  by_cases h60 : 0 ≤ Lib.index l [93, 93, 62]
  · rw [if_pos h60]
    rw [show decide (0 ≤ Lib.index l [93, 93, 62]) = true from by simpa using h60] at HCT
    clear h60
    go_enter Tryz.func113, Tryz.ntmps113
    go_wp2_with fail
    refine HRC.out.mono ?_
    rintro e w1 ⟨p, m, c, rfl, hr, hb1⟩
    have b1 := bel_alloc w1 (.cells #[.int .u8 60] 5 (1, 2))
    have r1 := rd_new w1 [60] #[.int .u8 60] 5 1 2 1 rfl rfl (by omega)
    have hm := hr.len
    have HX1 := Lib.hid (hb1.trans (b1.mono hb1.size))
    have HC := Lib.hid (cut_any _ p m c nd _ _ [60] (hr.below b1) r1 (HS0.out.below HX1.out).bw.mx (by omega) (by simp) (by rw [HND.out, hm]))
    have HRT := Lib.hid (show Rd _ (.slice p nd c) l from HL.out ▸ (hr.below b1).to nd (by omega))
    clear hr hb1 b1 r1 hm
    go_wp2_with fail
    refine HC.out.mono ?_
    rintro e w2 ⟨⟨x, y, rfl⟩, q, hq⟩
    have hb0 : Below (w1.alloc (.cells #[.int .u8 60] 5 (1, 2))).heap.size (w1.alloc (.cells #[.int .u8 60] 5 (1, 2))) w2 := hq ▸ Go.below_drewN (Below.refl _ _) q
    have b2 := bel_alloc w2 (.cells #[.int .u8 93, .int .u8 93, .int .u8 62] 5 (3, 4))
    have HX2 := Lib.hid ((HX1.out.trans (hb0.mono HX1.out.size)).trans (b2.mono (HX1.out.trans (hb0.mono HX1.out.size)).size))
    have HR2 := Lib.hid ((HRT.out.below hb0).below b2)
    have HK := Lib.hid (HCT.out _ _ _ HR2.out (rd_new w2 [93, 93, 62] #[.int .u8 93, .int .u8 93, .int .u8 62] 5 3 4 3 rfl rfl (by omega)) (HS0.out.below HX2.out).bw.mx)
    clear hq hb0 b2
    go_wp2_with fail
    refine HK.out.mono ?_
    rintro e w3 ⟨rfl, q3, hq⟩
    have hb3 : Below (w2.alloc (.cells #[.int .u8 93, .int .u8 93, .int .u8 62] 5 (3, 4))).heap.size (w2.alloc (.cells #[.int .u8 93, .int .u8 93, .int .u8 62] 5 (3, 4))) w3 := hq ▸ Go.below_drewN (Below.refl _ _) q3
    have HX3 := Lib.hid (HX2.out.trans (hb3.mono HX2.out.size))
    have HR3 := Lib.hid (HR2.out.below hb3)
    have HS3 := Lib.hid (HS0.out.below HX3.out)
    clear hq hb3
    have HF := Lib.hid (fail_c HS3.out 11)
    have HC5 := Lib.hid (chg_box (Chg.of_below (S := [pb]) HX3.out))
    go_wp2_with (go_at_call 110; refine (HF.out).mono ?_; rintro e w5 ⟨he, rfl⟩; unfold Boom at he; subst he)
    exact ⟨rfl, rfl, HC5.out⟩
  · rw [if_neg h60]
    rw [show decide (0 ≤ Lib.index l [93, 93, 62]) = false from by simpa using h60] at HCT
    clear h60
    cases hu : rsT false l with
    | error z =>
      have HRV := Lib.hid (show rsv l = .error 13 from by unfold rsv; rw [hu])
      dsimp only
      clear hu
      go_enter Tryz.func113, Tryz.ntmps113
      go_wp2_with fail
      refine HRC.out.mono ?_
      rintro e w1 ⟨p, m, c, rfl, hr, hb1⟩
      have b1 := bel_alloc w1 (.cells #[.int .u8 60] 5 (1, 2))
      have r1 := rd_new w1 [60] #[.int .u8 60] 5 1 2 1 rfl rfl (by omega)
      have hm := hr.len
      have HX1 := Lib.hid (hb1.trans (b1.mono hb1.size))
      have HC := Lib.hid (cut_any _ p m c nd _ _ [60] (hr.below b1) r1 (HS0.out.below HX1.out).bw.mx (by omega) (by simp) (by rw [HND.out, hm]))
      have HRT := Lib.hid (show Rd _ (.slice p nd c) l from HL.out ▸ (hr.below b1).to nd (by omega))
      clear hr hb1 b1 r1 hm
      go_wp2_with fail
      refine HC.out.mono ?_
      rintro e w2 ⟨⟨x, y, rfl⟩, q, hq⟩
      have hb0 : Below (w1.alloc (.cells #[.int .u8 60] 5 (1, 2))).heap.size (w1.alloc (.cells #[.int .u8 60] 5 (1, 2))) w2 := hq ▸ Go.below_drewN (Below.refl _ _) q
      have b2 := bel_alloc w2 (.cells #[.int .u8 93, .int .u8 93, .int .u8 62] 5 (3, 4))
      have HX2 := Lib.hid ((HX1.out.trans (hb0.mono HX1.out.size)).trans (b2.mono (HX1.out.trans (hb0.mono HX1.out.size)).size))
      have HR2 := Lib.hid ((HRT.out.below hb0).below b2)
      have HK := Lib.hid (HCT.out _ _ _ HR2.out (rd_new w2 [93, 93, 62] #[.int .u8 93, .int .u8 93, .int .u8 62] 5 3 4 3 rfl rfl (by omega)) (HS0.out.below HX2.out).bw.mx)
      clear hq hb0 b2
      go_wp2_with fail
      refine HK.out.mono ?_
      rintro e w3 ⟨rfl, q3, hq⟩
      have hb3 : Below (w2.alloc (.cells #[.int .u8 93, .int .u8 93, .int .u8 62] 5 (3, 4))).heap.size (w2.alloc (.cells #[.int .u8 93, .int .u8 93, .int .u8 62] 5 (3, 4))) w3 := hq ▸ Go.below_drewN (Below.refl _ _) q3
      have HX3 := Lib.hid (HX2.out.trans (hb3.mono HX2.out.size))
      have HR3 := Lib.hid (HR2.out.below hb3)
      have HS3 := Lib.hid (HS0.out.below HX3.out)
      clear hq hb3
      obtain ⟨sp, sc, hbox, _⟩ := HS3.out.box
      obtain ⟨c0, c1, c2, cz⟩ := cells3 hbox
      have HGO := Lib.hid (HS3.out.go (Below.refl _ _) (a + nd) (by omega))
      have HC4 := Lib.hid ((chg_box (Chg.of_below (S := [pb]) HX3.out)).trans HGO.out.2)
      have HC4B := Lib.hid ((Chg.of_below (S := [pb]) HX3.out).trans HGO.out.2)
      have HRS := resolved_c HGO.out.1 _ l (HS3.out.rd HR3.out HGO.out.2) (by omega)
      rw [HRV.out] at HRS
      have HRS := Lib.hid HRS
      rw [show ((a + nd : Nat) : Int) = (a : Int) + (nd : Int) by omega] at HRS HC4 HC4B
      clear hbox c0 c2
      go_wp2_with fail
      go_wp2_with (go_at_call 129; refine (HRS.out).mono ?_; rintro e w7 ⟨he, hc⟩; unfold Boom at he; subst he; have HC7 := Lib.hid (HC4.out.trans hc); clear hc)
      exact ⟨rfl, rfl, HC7.out⟩
    | ok s =>
      have HRV := Lib.hid (show rsv l = .ok (s, 0) from by unfold rsv; rw [hu])
      obtain ⟨S, hS⟩ : ∃ S, S = (⟨s.toArray⟩ : ByteArray) := ⟨_, rfl⟩
      have HSS := Lib.hid hS
      dsimp only
      clear hu hS
      go_enter Tryz.func113, Tryz.ntmps113
      go_wp2_with fail
      refine HRC.out.mono ?_
      rintro e w1 ⟨p, m, c, rfl, hr, hb1⟩
      have b1 := bel_alloc w1 (.cells #[.int .u8 60] 5 (1, 2))
      have r1 := rd_new w1 [60] #[.int .u8 60] 5 1 2 1 rfl rfl (by omega)
      have hm := hr.len
      have HX1 := Lib.hid (hb1.trans (b1.mono hb1.size))
      have HC := Lib.hid (cut_any _ p m c nd _ _ [60] (hr.below b1) r1 (HS0.out.below HX1.out).bw.mx (by omega) (by simp) (by rw [HND.out, hm]))
      have HRT := Lib.hid (show Rd _ (.slice p nd c) l from HL.out ▸ (hr.below b1).to nd (by omega))
      clear hr hb1 b1 r1 hm
      go_wp2_with fail
      refine HC.out.mono ?_
      rintro e w2 ⟨⟨x, y, rfl⟩, q, hq⟩
      have hb0 : Below (w1.alloc (.cells #[.int .u8 60] 5 (1, 2))).heap.size (w1.alloc (.cells #[.int .u8 60] 5 (1, 2))) w2 := hq ▸ Go.below_drewN (Below.refl _ _) q
      have b2 := bel_alloc w2 (.cells #[.int .u8 93, .int .u8 93, .int .u8 62] 5 (3, 4))
      have HX2 := Lib.hid ((HX1.out.trans (hb0.mono HX1.out.size)).trans (b2.mono (HX1.out.trans (hb0.mono HX1.out.size)).size))
      have HR2 := Lib.hid ((HRT.out.below hb0).below b2)
      have HK := Lib.hid (HCT.out _ _ _ HR2.out (rd_new w2 [93, 93, 62] #[.int .u8 93, .int .u8 93, .int .u8 62] 5 3 4 3 rfl rfl (by omega)) (HS0.out.below HX2.out).bw.mx)
      clear hq hb0 b2
      go_wp2_with fail
      refine HK.out.mono ?_
      rintro e w3 ⟨rfl, q3, hq⟩
      have hb3 : Below (w2.alloc (.cells #[.int .u8 93, .int .u8 93, .int .u8 62] 5 (3, 4))).heap.size (w2.alloc (.cells #[.int .u8 93, .int .u8 93, .int .u8 62] 5 (3, 4))) w3 := hq ▸ Go.below_drewN (Below.refl _ _) q3
      have HX3 := Lib.hid (HX2.out.trans (hb3.mono HX2.out.size))
      have HR3 := Lib.hid (HR2.out.below hb3)
      have HS3 := Lib.hid (HS0.out.below HX3.out)
      clear hq hb3
      obtain ⟨sp, sc, hbox, _⟩ := HS3.out.box
      obtain ⟨c0, c1, c2, cz⟩ := cells3 hbox
      have HGO := Lib.hid (HS3.out.go (Below.refl _ _) (a + nd) (by omega))
      have HC4 := Lib.hid ((chg_box (Chg.of_below (S := [pb]) HX3.out)).trans HGO.out.2)
      have HC4B := Lib.hid ((Chg.of_below (S := [pb]) HX3.out).trans HGO.out.2)
      have HRS := resolved_c HGO.out.1 _ l (HS3.out.rd HR3.out HGO.out.2) (by omega)
      rw [HRV.out] at HRS
      have HRS := Lib.hid HRS
      rw [show ((a + nd : Nat) : Int) = (a : Int) + (nd : Int) by omega] at HRS HC4 HC4B
      clear hbox c0 c2
      go_wp2_with fail
      go_wp2_with fail
      refine HRS.out.mono ?_
      rintro e w5 ⟨v5, rfl, hv5, hs, hc⟩
      have hv5' : v5 = .string S := by rw [show v5 = .string ⟨s.toArray⟩ from hv5, HSS.out]
      subst hv5'
      have hc6 : Chg [pb] (w.alloc REST) w5 := HC4B.out.trans hc
      have HBX := Lib.hid (box_chg hpl hc6)
      have hbl : w.heap.size < w5.heap.size := (Array.getElem?_eq_some_iff.1 HBX.out).1
      obtain ⟨z0, z1, z2, z3, z4, zz⟩ := cellsX5 HBX.out
      have hk5 := put5_chg w5 w.heap.size (.int .i64 3) (.string ⟨#[]⟩) (.slice none 0 0) (.bool false) (.string S)
      have HP := Lib.hid (hs.poke (chg_box hc6) hk5 (Nat.le_refl _) HNE (rd_poke HBX.out (no_u8_5 (by simp) (by simp) (by simp) (by simp) (by simp)) hk5) HG.out)
      clear hs hc hk5 hc6 hv5
      go_wp2_with fail
      refine bodyPost_ret (results_cell_row Tryz.results113 _ _ w.heap.size 52 _ (0, 0) _ rfl (put5_at HBX.out (.int .i64 3) (.string ⟨#[]⟩) (.slice none 0 0) (.bool false) (.string S)) Tryz.underlying52 rfl infoT5) rfl ?_
      exact ⟨_, rfl, ⟨_, by rw [HSS.out]; rfl, AtsIs.nil _⟩, HP.out.1, HP.out.2⟩
end Go.Proofs.YtpcajjbdlfookaaGreatDoor

/- xmllex: the scanner: token. -/
namespace Go.Proofs.YtpcajjbdlfookaaGreatDoor
open Go.RowKit
set_option linter.unusedVariables false

/-- Attributes lie in no token's box. -/
theorem AtsIs.poke {w w' : World} {b : Nat} {v : Value} {l : List (List UInt8 × List UInt8)} {i0 : Int} {s1 s4 : ByteArray} {p : Option Addr} {n c : Nat} {e : Bool} (h : AtsIs w v l) (hb : w.heap[b]? = some (.cells #[.int .i64 i0, .string s1, .slice p n c, .bool e, .string s4] 52 (0, 0))) (hk : Chg [b] w w') : AtsIs w' v l := by
  obtain ⟨p0, c0, hv, h1, h2, h3, h4⟩ := h
  refine ⟨p0, c0, hv, h1, h2, h3, fun hp => ?_⟩
  obtain ⟨g, o, hg, ⟨cs, z, hcs⟩, hx⟩ := h4 hp
  have hne : g ≠ b := by
    rintro rfl
    rw [hcs] at hb
    simp at hb
  exact ⟨g, o, hg, ⟨cs, z, (hk.block g (Array.getElem?_eq_some_iff.1 hcs).1 (by simpa using hne)).trans hcs⟩, fun j u hu => chg_cell hk (hx j u hu) hne⟩
/-- A token is handed out. -/
theorem tok_give {w w5 : World} {pb : Nat} {xs : List UInt8} {a a' f : Nat} (h : SC w pb xs a f) (hc : Chg [pb] (w.alloc REST) w5) (hs : SC w5 pb xs a' f) (k : Int) (S1 S2 : ByteArray) (em : Bool) (p : Option Addr) (n c : Nat) {l : List (List UInt8 × List UInt8)} (hat : AtsIs w5 (.slice p n c) l) :
    (put5 w5 w.heap.size (.int .i64 k) (.string S1) (.slice p n c) (.bool em) (.string S2)).heap[w.heap.size]? = some (.cells #[.int .i64 k, .string S1, .slice p n c, .bool em, .string S2] 52 (0, 0)) ∧
    SC (put5 w5 w.heap.size (.int .i64 k) (.string S1) (.slice p n c) (.bool em) (.string S2)) pb xs a' f ∧ Chg [pb] w (put5 w5 w.heap.size (.int .i64 k) (.string S1) (.slice p n c) (.bool em) (.string S2)) ∧ AtsIs (put5 w5 w.heap.size (.int .i64 k) (.string S1) (.slice p n c) (.bool em) (.string S2)) (.slice p n c) l := by
  have hb := box_chg h.lt hc
  have hk5 := put5_chg w5 w.heap.size (.int .i64 k) (.string S1) (.slice p n c) (.bool em) (.string S2)
  obtain ⟨h6, h7⟩ := hs.poke (chg_box hc) hk5 (Nat.le_refl _) (by have := h.lt; omega) (rd_poke hb (no_u8_5 (by simp) (by simp) (by simp) (by simp) (by simp)) hk5) (h.bw.far (Nat.le_refl _))
  exact ⟨put5_at hb _ _ _ _ _, h6, h7, hat.poke hb hk5⟩

def upT (n : Nat) : Except Nat (Tk × Nat) → Except Nat (Tk × Nat)
  | .error e => .error e
  | .ok (t, m) => .ok (t, n + m)
def tokA (r : List UInt8) : Except Nat (Tk × Nat) := if r = [] then .ok (⟨0, [], [], false, []⟩, 0) else tokG opnP cloP r
theorem tok_cd {r : List UInt8} {opn clo : List UInt8 → Except Nat (Tk × Nat)} (h1 : Lib.hasPrefix r [60, 33, 91, 67, 68, 65, 84, 65, 91] = true) : tokG opn clo r = if Lib.index (r.drop 9) [93, 93, 62] < 0 then .error 11 else .ok (⟨3, [], [], false, lns ((r.drop 9).take (Lib.index (r.drop 9) [93, 93, 62]).toNat)⟩, (Lib.index (r.drop 9) [93, 93, 62]).toNat + 12) := by
  unfold tokG
  rw [if_pos h1]
theorem tok_dt {r : List UInt8} {opn clo : List UInt8 → Except Nat (Tk × Nat)} (h1 : Lib.hasPrefix r [60, 33, 91, 67, 68, 65, 84, 65, 91] = false) (h2 : Lib.hasPrefix r [60, 33, 68, 79, 67, 84, 89, 80, 69] = true) : tokG opn clo r = .error 12 := by
  unfold tokG
  rw [h1, if_neg (by simp), if_pos h2]
theorem tok_cl {r : List UInt8} {opn clo : List UInt8 → Except Nat (Tk × Nat)} (h1 : Lib.hasPrefix r [60, 33, 91, 67, 68, 65, 84, 65, 91] = false) (h2 : Lib.hasPrefix r [60, 33, 68, 79, 67, 84, 89, 80, 69] = false) (h3 : Lib.hasPrefix r [60, 47] = true) : tokG opn clo r = upT 2 (clo (r.drop 2)) := by
  unfold tokG
  rw [h1, if_neg (by simp), h2, if_neg (by simp), if_pos h3]
  rfl
theorem tok_op {r : List UInt8} {opn clo : List UInt8 → Except Nat (Tk × Nat)} (h1 : Lib.hasPrefix r [60, 33, 91, 67, 68, 65, 84, 65, 91] = false) (h2 : Lib.hasPrefix r [60, 33, 68, 79, 67, 84, 89, 80, 69] = false) (h3 : Lib.hasPrefix r [60, 47] = false) (h4 : Lib.hasPrefix r [60] = true) : tokG opn clo r = upT 1 (opn (r.drop 1)) := by
  unfold tokG
  rw [h1, if_neg (by simp), h2, if_neg (by simp), h3, if_neg (by simp), if_pos h4]
  rfl
theorem tok_da {r : List UInt8} {opn clo : List UInt8 → Except Nat (Tk × Nat)} (h1 : Lib.hasPrefix r [60, 33, 91, 67, 68, 65, 84, 65, 91] = false) (h2 : Lib.hasPrefix r [60, 33, 68, 79, 67, 84, 89, 80, 69] = false) (h3 : Lib.hasPrefix r [60, 47] = false) (h4 : Lib.hasPrefix r [60] = false) : tokG opn clo r = datP r := by
  unfold tokG
  rw [h1, if_neg (by simp), h2, if_neg (by simp), h3, if_neg (by simp), h4, if_neg (by simp)]

set_option maxRecDepth 100000 in
set_option maxHeartbeats 4000000 in
theorem token_c {w : World} {pb : Nat} {xs : List UInt8} {a f : Nat} (h : SC w pb xs a f) : Calls Tryz.prog 85 #[.pointer (some ⟨pb, 0, none⟩)] w
    (Aft w pb xs a f VT (tokA (xs.drop a))) := by
  have hpl := h.lt
  have hle := h.le
  have HH := Lib.hid h
  have h0 := h.below (bel_alloc w REST)
  have HS0 := Lib.hid (fun q => h0.below (Go.below_drewN (Below.refl _ _) q))
  obtain ⟨p, c, hbox, _⟩ := h0.box
  obtain ⟨d0, d1, d2, dz⟩ := cells3 hbox
  obtain ⟨L, hL⟩ : ∃ L, L = xs.length := ⟨_, rfl⟩
  rw [← hL] at d0
  have hdl : (xs.drop a).length = L - a := by rw [List.length_drop, hL]
  by_cases hend : a = L
  · have hA : tokA (xs.drop a) = .ok (⟨0, [], [], false, []⟩, 0) := by unfold tokA; rw [if_pos (List.eq_nil_of_length_eq_zero (by omega))]
    rw [hA]
    have heq : ((a : Int) == (L : Int)) = true := by simp; omega
    obtain ⟨z0, z1, z2, z3, z4, zz⟩ := cellsX5 (heap_alloc_new w REST)
    have HGV := Lib.hid (fun q => tok_give HH.out (Chg.of_below (Go.below_drewN (Below.refl _ (w.alloc REST)) q)) (HS0.out q) 0 ⟨#[]⟩ ⟨#[]⟩ false none 0 0 (AtsIs.nil _))
    clear h h0 hbox hA hend hdl hL
    go_enter Tryz.func85, Tryz.ntmps85
    go_wp2_with fail
    go_quiet (fail)
    go_wp2_with fail
    refine bodyPost_ret (results_cell_row Tryz.results85 _ _ w.heap.size 52 _ (0, 0) _ rfl (HGV.out _).1 Tryz.underlying52 rfl infoT5) rfl ?_
    exact ⟨_, rfl, ⟨_, rfl, (HGV.out _).2.2.2⟩, (HGV.out _).2.1, (HGV.out _).2.2.1⟩
  · have hA : tokA (xs.drop a) = tokG opnP cloP (xs.drop a) := by unfold tokA; rw [if_neg (fun e => by have := congrArg List.length e; simp at this; omega)]
    rw [hA]
    have heq : ((a : Int) == (L : Int)) = false := by simp; omega
    clear h h0 hbox hA hend hL
    rcases h1 : Lib.hasPrefix (xs.drop a) [60, 33, 91, 67, 68, 65, 84, 65, 91] with _ | _
    · have HT1 := Lib.hid (fun (wx : World) (hs : SC wx pb xs a f) => take_c hs ⟨#[60, 33, 91, 67, 68, 65, 84, 65, 91]⟩ (by decide) false h1)
      rcases h2 : Lib.hasPrefix (xs.drop a) [60, 33, 68, 79, 67, 84, 89, 80, 69] with _ | _
      · have HT2 := Lib.hid (fun (wx : World) (hs : SC wx pb xs a f) => take_c hs ⟨#[60, 33, 68, 79, 67, 84, 89, 80, 69]⟩ (by decide) false h2)
        rcases h3 : Lib.hasPrefix (xs.drop a) [60, 47] with _ | _
        · have HT3 := Lib.hid (fun (wx : World) (hs : SC wx pb xs a f) => take_c hs ⟨#[60, 47]⟩ (by decide) false h3)
          rcases h4 : Lib.hasPrefix (xs.drop a) [60] with _ | _
          · have HT4 := Lib.hid (fun (wx : World) (hs : SC wx pb xs a f) => take_c hs ⟨#[60]⟩ (by decide) false h4)
            rw [tok_da h1 h2 h3 h4]
            have HPC := Lib.hid (fun (wx : World) (hs : SC wx pb xs a f) => data_c hs)
            clear h1 h2 h3 h4 hdl
            cases hz : datP (xs.drop a) with
            | error z =>
              rw [hz] at HPC
              clear hz
              go_enter Tryz.func85, Tryz.ntmps85
              go_wp2_with fail
              go_quiet (fail)
              go_wp2_with fail
              refine (HT1.out _ (HS0.out _)).mono ?_
              rintro e w1 ⟨rfl, hs, hc⟩
              have HS1 := Lib.hid (show SC w1 pb xs (a) f from hs)
              have HC1 := Lib.hid (show Chg [pb] (w.alloc REST) w1 from (Chg.of_below (S := [pb]) (Go.below_drewN (Below.refl _ _) _)).trans hc)
              clear hs hc
              go_wp2_with fail
              refine (HT2.out w1 HS1.out).mono ?_
              rintro e w2 ⟨rfl, hs, hc⟩
              have HS2 := Lib.hid (show SC w2 pb xs (a) f from hs)
              have HC2 := Lib.hid (show Chg [pb] (w.alloc REST) w2 from HC1.out.trans hc)
              clear hs hc
              go_wp2_with fail
              refine (HT3.out w2 HS2.out).mono ?_
              rintro e w3 ⟨rfl, hs, hc⟩
              have HS3 := Lib.hid (show SC w3 pb xs (a) f from hs)
              have HC3 := Lib.hid (show Chg [pb] (w.alloc REST) w3 from HC2.out.trans hc)
              clear hs hc
              go_wp2_with fail
              refine (HT4.out w3 HS3.out).mono ?_
              rintro e w4 ⟨rfl, hs, hc⟩
              have HS4 := Lib.hid (show SC w4 pb xs (a) f from hs)
              have HC4 := Lib.hid (show Chg [pb] (w.alloc REST) w4 from HC3.out.trans hc)
              clear hs hc
              go_wp2_with fail
              have HB := Lib.hid (HPC.out w4 HS4.out)
              go_wp2_with (go_at_call 113; refine (HB.out).mono ?_; rintro e w7 ⟨he, hc⟩; unfold Boom at he; subst he; have HC7 := Lib.hid (HC4.out.trans hc); clear hc)
              exact ⟨rfl, rfl, chg_box HC7.out⟩
            | ok q =>
              obtain ⟨⟨kd, nm, ats, em, tx⟩, m⟩ := q
              rw [hz] at HPC
              clear hz
              obtain ⟨S1, hS1⟩ : ∃ S1, S1 = (⟨nm.toArray⟩ : ByteArray) := ⟨_, rfl⟩
              obtain ⟨S2, hS2⟩ : ∃ S2, S2 = (⟨tx.toArray⟩ : ByteArray) := ⟨_, rfl⟩
              have HN1 := Lib.hid hS1
              have HN2 := Lib.hid hS2
              clear hS1 hS2
              go_enter Tryz.func85, Tryz.ntmps85
              go_wp2_with fail
              go_quiet (fail)
              go_wp2_with fail
              refine (HT1.out _ (HS0.out _)).mono ?_
              rintro e w1 ⟨rfl, hs, hc⟩
              have HS1 := Lib.hid (show SC w1 pb xs (a) f from hs)
              have HC1 := Lib.hid (show Chg [pb] (w.alloc REST) w1 from (Chg.of_below (S := [pb]) (Go.below_drewN (Below.refl _ _) _)).trans hc)
              clear hs hc
              go_wp2_with fail
              refine (HT2.out w1 HS1.out).mono ?_
              rintro e w2 ⟨rfl, hs, hc⟩
              have HS2 := Lib.hid (show SC w2 pb xs (a) f from hs)
              have HC2 := Lib.hid (show Chg [pb] (w.alloc REST) w2 from HC1.out.trans hc)
              clear hs hc
              go_wp2_with fail
              refine (HT3.out w2 HS2.out).mono ?_
              rintro e w3 ⟨rfl, hs, hc⟩
              have HS3 := Lib.hid (show SC w3 pb xs (a) f from hs)
              have HC3 := Lib.hid (show Chg [pb] (w.alloc REST) w3 from HC2.out.trans hc)
              clear hs hc
              go_wp2_with fail
              refine (HT4.out w3 HS3.out).mono ?_
              rintro e w4 ⟨rfl, hs, hc⟩
              have HS4 := Lib.hid (show SC w4 pb xs (a) f from hs)
              have HC4 := Lib.hid (show Chg [pb] (w.alloc REST) w4 from HC3.out.trans hc)
              clear hs hc
              go_wp2_with fail
              refine (HPC.out w4 HS4.out).mono ?_
              rintro e w7 ⟨v7, rfl, hv, hs, hc⟩
              obtain ⟨sv, hve, hat⟩ := hv
              dsimp only at hve hat
              rw [← HN1.out, ← HN2.out] at hve
              obtain ⟨p7, c7, hsv, _⟩ := id hat
              subst hsv
              subst hve
              have HC7 := Lib.hid (HC4.out.trans hc)
              have HGV := Lib.hid (tok_give HH.out HC7.out (show SC w7 pb xs (a + m) f from (by first | exact hs | (rw [← Nat.add_assoc]; exact hs))) (kd : Nat) S1 S2 em p7 ats.length c7 hat)
              obtain ⟨z0, z1, z2, z3, z4, zz⟩ := cellsX5 (box_chg hpl HC7.out)
              clear hs hc hat
              go_wp2_with fail
              refine bodyPost_ret (results_cell_row Tryz.results85 _ _ w.heap.size 52 _ (0, 0) _ rfl HGV.out.1 Tryz.underlying52 rfl infoT5) rfl ?_
              exact ⟨_, rfl, ⟨_, by rw [HN1.out, HN2.out], HGV.out.2.2.2⟩, HGV.out.2.1, HGV.out.2.2.1⟩
          · have HT4 := Lib.hid (fun (wx : World) (hs : SC wx pb xs a f) => take_c hs ⟨#[60]⟩ (by decide) true h4)
            rw [tok_op h1 h2 h3 h4, List.drop_drop]
            have HPC := Lib.hid (fun (wx : World) (hs : SC wx pb xs (a + 1) f) => opening_c hs)
            clear h1 h2 h3 h4 hdl
            cases hz : opnP (xs.drop (a + 1)) with
            | error z =>
              rw [hz] at HPC
              rw [show upT 1 (.error z) = .error z from rfl]
              clear hz
              go_enter Tryz.func85, Tryz.ntmps85
              go_wp2_with fail
              go_quiet (fail)
              go_wp2_with fail
              refine (HT1.out _ (HS0.out _)).mono ?_
              rintro e w1 ⟨rfl, hs, hc⟩
              have HS1 := Lib.hid (show SC w1 pb xs (a) f from hs)
              have HC1 := Lib.hid (show Chg [pb] (w.alloc REST) w1 from (Chg.of_below (S := [pb]) (Go.below_drewN (Below.refl _ _) _)).trans hc)
              clear hs hc
              go_wp2_with fail
              refine (HT2.out w1 HS1.out).mono ?_
              rintro e w2 ⟨rfl, hs, hc⟩
              have HS2 := Lib.hid (show SC w2 pb xs (a) f from hs)
              have HC2 := Lib.hid (show Chg [pb] (w.alloc REST) w2 from HC1.out.trans hc)
              clear hs hc
              go_wp2_with fail
              refine (HT3.out w2 HS2.out).mono ?_
              rintro e w3 ⟨rfl, hs, hc⟩
              have HS3 := Lib.hid (show SC w3 pb xs (a) f from hs)
              have HC3 := Lib.hid (show Chg [pb] (w.alloc REST) w3 from HC2.out.trans hc)
              clear hs hc
              go_wp2_with fail
              refine (HT4.out w3 HS3.out).mono ?_
              rintro e w4 ⟨rfl, hs, hc⟩
              have HS4 := Lib.hid (show SC w4 pb xs (a + 1) f from hs)
              have HC4 := Lib.hid (show Chg [pb] (w.alloc REST) w4 from HC3.out.trans hc)
              clear hs hc
              go_wp2_with fail
              have HB := Lib.hid (HPC.out w4 HS4.out)
              go_wp2_with (go_at_call 112; refine (HB.out).mono ?_; rintro e w7 ⟨he, hc⟩; unfold Boom at he; subst he; have HC7 := Lib.hid (HC4.out.trans hc); clear hc)
              exact ⟨rfl, rfl, chg_box HC7.out⟩
            | ok q =>
              obtain ⟨⟨kd, nm, ats, em, tx⟩, m⟩ := q
              rw [hz] at HPC
              rw [show upT 1 (.ok (⟨kd, nm, ats, em, tx⟩, m)) = .ok (⟨kd, nm, ats, em, tx⟩, 1 + m) from rfl]
              clear hz
              obtain ⟨S1, hS1⟩ : ∃ S1, S1 = (⟨nm.toArray⟩ : ByteArray) := ⟨_, rfl⟩
              obtain ⟨S2, hS2⟩ : ∃ S2, S2 = (⟨tx.toArray⟩ : ByteArray) := ⟨_, rfl⟩
              have HN1 := Lib.hid hS1
              have HN2 := Lib.hid hS2
              clear hS1 hS2
              go_enter Tryz.func85, Tryz.ntmps85
              go_wp2_with fail
              go_quiet (fail)
              go_wp2_with fail
              refine (HT1.out _ (HS0.out _)).mono ?_
              rintro e w1 ⟨rfl, hs, hc⟩
              have HS1 := Lib.hid (show SC w1 pb xs (a) f from hs)
              have HC1 := Lib.hid (show Chg [pb] (w.alloc REST) w1 from (Chg.of_below (S := [pb]) (Go.below_drewN (Below.refl _ _) _)).trans hc)
              clear hs hc
              go_wp2_with fail
              refine (HT2.out w1 HS1.out).mono ?_
              rintro e w2 ⟨rfl, hs, hc⟩
              have HS2 := Lib.hid (show SC w2 pb xs (a) f from hs)
              have HC2 := Lib.hid (show Chg [pb] (w.alloc REST) w2 from HC1.out.trans hc)
              clear hs hc
              go_wp2_with fail
              refine (HT3.out w2 HS2.out).mono ?_
              rintro e w3 ⟨rfl, hs, hc⟩
              have HS3 := Lib.hid (show SC w3 pb xs (a) f from hs)
              have HC3 := Lib.hid (show Chg [pb] (w.alloc REST) w3 from HC2.out.trans hc)
              clear hs hc
              go_wp2_with fail
              refine (HT4.out w3 HS3.out).mono ?_
              rintro e w4 ⟨rfl, hs, hc⟩
              have HS4 := Lib.hid (show SC w4 pb xs (a + 1) f from hs)
              have HC4 := Lib.hid (show Chg [pb] (w.alloc REST) w4 from HC3.out.trans hc)
              clear hs hc
              go_wp2_with fail
              refine (HPC.out w4 HS4.out).mono ?_
              rintro e w7 ⟨v7, rfl, hv, hs, hc⟩
              obtain ⟨sv, hve, hat⟩ := hv
              dsimp only at hve hat
              rw [← HN1.out, ← HN2.out] at hve
              obtain ⟨p7, c7, hsv, _⟩ := id hat
              subst hsv
              subst hve
              have HC7 := Lib.hid (HC4.out.trans hc)
              have HGV := Lib.hid (tok_give HH.out HC7.out (show SC w7 pb xs (a + (1 + m)) f from (by first | exact hs | (rw [← Nat.add_assoc]; exact hs))) (kd : Nat) S1 S2 em p7 ats.length c7 hat)
              obtain ⟨z0, z1, z2, z3, z4, zz⟩ := cellsX5 (box_chg hpl HC7.out)
              clear hs hc hat
              go_wp2_with fail
              refine bodyPost_ret (results_cell_row Tryz.results85 _ _ w.heap.size 52 _ (0, 0) _ rfl HGV.out.1 Tryz.underlying52 rfl infoT5) rfl ?_
              exact ⟨_, rfl, ⟨_, by rw [HN1.out, HN2.out], HGV.out.2.2.2⟩, HGV.out.2.1, HGV.out.2.2.1⟩
        · have HT3 := Lib.hid (fun (wx : World) (hs : SC wx pb xs a f) => take_c hs ⟨#[60, 47]⟩ (by decide) true h3)
          rw [tok_cl h1 h2 h3, List.drop_drop]
          have HPC := Lib.hid (fun (wx : World) (hs : SC wx pb xs (a + 2) f) => closing_c hs)
          clear h1 h2 h3 hdl
          cases hz : cloP (xs.drop (a + 2)) with
          | error z =>
            rw [hz] at HPC
            rw [show upT 2 (.error z) = .error z from rfl]
            clear hz
            go_enter Tryz.func85, Tryz.ntmps85
            go_wp2_with fail
            go_quiet (fail)
            go_wp2_with fail
            refine (HT1.out _ (HS0.out _)).mono ?_
            rintro e w1 ⟨rfl, hs, hc⟩
            have HS1 := Lib.hid (show SC w1 pb xs (a) f from hs)
            have HC1 := Lib.hid (show Chg [pb] (w.alloc REST) w1 from (Chg.of_below (S := [pb]) (Go.below_drewN (Below.refl _ _) _)).trans hc)
            clear hs hc
            go_wp2_with fail
            refine (HT2.out w1 HS1.out).mono ?_
            rintro e w2 ⟨rfl, hs, hc⟩
            have HS2 := Lib.hid (show SC w2 pb xs (a) f from hs)
            have HC2 := Lib.hid (show Chg [pb] (w.alloc REST) w2 from HC1.out.trans hc)
            clear hs hc
            go_wp2_with fail
            refine (HT3.out w2 HS2.out).mono ?_
            rintro e w3 ⟨rfl, hs, hc⟩
            have HS3 := Lib.hid (show SC w3 pb xs (a + 2) f from hs)
            have HC3 := Lib.hid (show Chg [pb] (w.alloc REST) w3 from HC2.out.trans hc)
            clear hs hc
            go_wp2_with fail
            have HB := Lib.hid (HPC.out w3 HS3.out)
            go_wp2_with (go_at_call 111; refine (HB.out).mono ?_; rintro e w7 ⟨he, hc⟩; unfold Boom at he; subst he; have HC7 := Lib.hid (HC3.out.trans hc); clear hc)
            exact ⟨rfl, rfl, chg_box HC7.out⟩
          | ok q =>
            obtain ⟨⟨kd, nm, ats, em, tx⟩, m⟩ := q
            rw [hz] at HPC
            rw [show upT 2 (.ok (⟨kd, nm, ats, em, tx⟩, m)) = .ok (⟨kd, nm, ats, em, tx⟩, 2 + m) from rfl]
            clear hz
            obtain ⟨S1, hS1⟩ : ∃ S1, S1 = (⟨nm.toArray⟩ : ByteArray) := ⟨_, rfl⟩
            obtain ⟨S2, hS2⟩ : ∃ S2, S2 = (⟨tx.toArray⟩ : ByteArray) := ⟨_, rfl⟩
            have HN1 := Lib.hid hS1
            have HN2 := Lib.hid hS2
            clear hS1 hS2
            go_enter Tryz.func85, Tryz.ntmps85
            go_wp2_with fail
            go_quiet (fail)
            go_wp2_with fail
            refine (HT1.out _ (HS0.out _)).mono ?_
            rintro e w1 ⟨rfl, hs, hc⟩
            have HS1 := Lib.hid (show SC w1 pb xs (a) f from hs)
            have HC1 := Lib.hid (show Chg [pb] (w.alloc REST) w1 from (Chg.of_below (S := [pb]) (Go.below_drewN (Below.refl _ _) _)).trans hc)
            clear hs hc
            go_wp2_with fail
            refine (HT2.out w1 HS1.out).mono ?_
            rintro e w2 ⟨rfl, hs, hc⟩
            have HS2 := Lib.hid (show SC w2 pb xs (a) f from hs)
            have HC2 := Lib.hid (show Chg [pb] (w.alloc REST) w2 from HC1.out.trans hc)
            clear hs hc
            go_wp2_with fail
            refine (HT3.out w2 HS2.out).mono ?_
            rintro e w3 ⟨rfl, hs, hc⟩
            have HS3 := Lib.hid (show SC w3 pb xs (a + 2) f from hs)
            have HC3 := Lib.hid (show Chg [pb] (w.alloc REST) w3 from HC2.out.trans hc)
            clear hs hc
            go_wp2_with fail
            refine (HPC.out w3 HS3.out).mono ?_
            rintro e w7 ⟨v7, rfl, hv, hs, hc⟩
            obtain ⟨sv, hve, hat⟩ := hv
            dsimp only at hve hat
            rw [← HN1.out, ← HN2.out] at hve
            obtain ⟨p7, c7, hsv, _⟩ := id hat
            subst hsv
            subst hve
            have HC7 := Lib.hid (HC3.out.trans hc)
            have HGV := Lib.hid (tok_give HH.out HC7.out (show SC w7 pb xs (a + (2 + m)) f from (by first | exact hs | (rw [← Nat.add_assoc]; exact hs))) (kd : Nat) S1 S2 em p7 ats.length c7 hat)
            obtain ⟨z0, z1, z2, z3, z4, zz⟩ := cellsX5 (box_chg hpl HC7.out)
            clear hs hc hat
            go_wp2_with fail
            refine bodyPost_ret (results_cell_row Tryz.results85 _ _ w.heap.size 52 _ (0, 0) _ rfl HGV.out.1 Tryz.underlying52 rfl infoT5) rfl ?_
            exact ⟨_, rfl, ⟨_, by rw [HN1.out, HN2.out], HGV.out.2.2.2⟩, HGV.out.2.1, HGV.out.2.2.1⟩
      · have HT2 := Lib.hid (fun (wx : World) (hs : SC wx pb xs a f) => take_c hs ⟨#[60, 33, 68, 79, 67, 84, 89, 80, 69]⟩ (by decide) true h2)
        rw [tok_dt h1 h2]
        have HPC := Lib.hid (fun (wx : World) (hs : SC wx pb xs (a + 9) f) => fail_c hs 12)
        clear h1 h2 hdl
        go_enter Tryz.func85, Tryz.ntmps85
        go_wp2_with fail
        go_quiet (fail)
        go_wp2_with fail
        refine (HT1.out _ (HS0.out _)).mono ?_
        rintro e w1 ⟨rfl, hs, hc⟩
        have HS1 := Lib.hid (show SC w1 pb xs (a) f from hs)
        have HC1 := Lib.hid (show Chg [pb] (w.alloc REST) w1 from (Chg.of_below (S := [pb]) (Go.below_drewN (Below.refl _ _) _)).trans hc)
        clear hs hc
        go_wp2_with fail
        refine (HT2.out w1 HS1.out).mono ?_
        rintro e w2 ⟨rfl, hs, hc⟩
        have HS2 := Lib.hid (show SC w2 pb xs (a + 9) f from hs)
        have HC2 := Lib.hid (show Chg [pb] (w.alloc REST) w2 from HC1.out.trans hc)
        clear hs hc
        go_wp2_with fail
        go_wp2_with (go_at_call 110; refine (HPC.out w2 HS2.out).mono ?_; rintro e w7 ⟨he, rfl⟩; unfold Boom at he; subst he)
        exact ⟨rfl, rfl, chg_box HC2.out⟩
    · have HT1 := Lib.hid (fun (wx : World) (hs : SC wx pb xs a f) => take_c hs ⟨#[60, 33, 91, 67, 68, 65, 84, 65, 91]⟩ (by decide) true h1)
      rw [tok_cd h1, List.drop_drop]
      have HTH := Lib.hid (fun (wx : World) (hs : SC wx pb xs (a + 9) f) => through_c hs ⟨#[93, 93, 62]⟩ (by decide))
      have e93 : (⟨#[93, 93, 62]⟩ : ByteArray).data.toList = [93, 93, 62] := rfl
      rw [e93] at HTH
      by_cases hi : Lib.index (xs.drop (a + 9)) [93, 93, 62] < 0
      · rw [show thr (xs.drop (a + 9)) [93, 93, 62] = .error 11 from by unfold thr; rw [if_pos hi]] at HTH
        rw [if_pos hi]
        clear h1 hi e93 hdl
        go_enter Tryz.func85, Tryz.ntmps85
        go_wp2_with fail
        go_quiet (fail)
        go_wp2_with fail
        refine (HT1.out _ (HS0.out _)).mono ?_
        rintro e w1 ⟨rfl, hs, hc⟩
        have HS1 := Lib.hid (show SC w1 pb xs (a + 9) f from hs)
        have HC1 := Lib.hid (show Chg [pb] (w.alloc REST) w1 from (Chg.of_below (S := [pb]) (Go.below_drewN (Below.refl _ _) _)).trans hc)
        clear hs hc
        go_wp2_with fail
        go_wp2_with (go_at_call 106; refine (HTH.out w1 HS1.out).mono ?_; rintro e w7 ⟨he, hc⟩; unfold Boom at he; subst he; have HC7 := Lib.hid (HC1.out.trans hc); clear hc)
        exact ⟨rfl, rfl, chg_box HC7.out⟩
      · obtain ⟨i, hi'⟩ : ∃ i : Nat, Lib.index (xs.drop (a + 9)) [93, 93, 62] = i := ⟨(Lib.index (xs.drop (a + 9)) [93, 93, 62]).toNat, by omega⟩
        rw [show thr (xs.drop (a + 9)) [93, 93, 62] = .ok ((xs.drop (a + 9)).take i, i + 3) from by unfold thr; rw [if_neg hi, hi']; rfl] at HTH
        rw [if_neg hi, hi', Int.toNat_natCast]
        obtain ⟨l, hl⟩ : ∃ l, l = (xs.drop (a + 9)).take i := ⟨_, rfl⟩
        rw [← hl] at HTH ⊢
        have hll : l.length ≤ 1048576 := by rw [hl, List.length_take, List.length_drop]; omega
        obtain ⟨S2, hS2⟩ : ∃ S2, S2 = (⟨(lns l).toArray⟩ : ByteArray) := ⟨_, rfl⟩
        have HSS := Lib.hid hS2
        clear h1 hi hi' e93 hl hS2 hdl
        go_enter Tryz.func85, Tryz.ntmps85
        go_wp2_with fail
        go_quiet (fail)
        go_wp2_with fail
        refine (HT1.out _ (HS0.out _)).mono ?_
        rintro e w1 ⟨rfl, hs, hc⟩
        have HS1 := Lib.hid (show SC w1 pb xs (a + 9) f from hs)
        have HC1 := Lib.hid (show Chg [pb] (w.alloc REST) w1 from (Chg.of_below (S := [pb]) (Go.below_drewN (Below.refl _ _) _)).trans hc)
        clear hs hc
        go_wp2_with fail
        refine (HTH.out w1 HS1.out).mono ?_
        rintro e w3 ⟨v, rfl, hv, hs, hc⟩
        have HS3 := Lib.hid (show SC w3 pb xs (a + (i + 12)) f from (show a + 9 + (i + 3) = a + (i + 12) by omega) ▸ hs)
        have HC3 := Lib.hid (HC1.out.trans hc)
        have HLN := Lib.hid (lines_c w3 v l hv hs.bw.mx (by omega))
        clear hs hc hv
        go_wp2_with fail
        refine HLN.out.mono ?_
        rintro e w5 ⟨v5, rfl, hown, hb5⟩
        have hcv := hown.rd.conv (P := Tryz.prog) 22 5 9 Tryz.underlying22 Tryz.underlying5 Tryz.underlying9
        rw [← HSS.out] at hcv
        have HC5 := Lib.hid (HC3.out.trans (Chg.of_below hb5))
        have HGV := Lib.hid (tok_give HH.out HC5.out (HS3.out.below hb5) 3 ⟨#[]⟩ S2 false none 0 0 (AtsIs.nil _))
        obtain ⟨z0, z1, z2, z3, z4, zz⟩ := cellsX5 (box_chg hpl HC5.out)
        clear hown hb5
        go_wp2_with fail
        refine bodyPost_ret (results_cell_row Tryz.results85 _ _ w.heap.size 52 _ (0, 0) _ rfl HGV.out.1 Tryz.underlying52 rfl infoT5) rfl ?_
        exact ⟨_, rfl, ⟨_, by rw [HSS.out]; rfl, HGV.out.2.2.2⟩, HGV.out.2.1, HGV.out.2.2.1⟩
end Go.Proofs.YtpcajjbdlfookaaGreatDoor

/- xmllex: scan: what it raises and catches. -/
namespace Go.Proofs.YtpcajjbdlfookaaGreatDoor
open Go.RowKit
set_option linter.unusedVariables false

theorem fault_is (f k : Int) (w : World) : (Instr.typeAssert (.iface 153 (.agg #[.int .i64 f, .int .i64 k])) 20 153 true).run Tryz.prog w = .ok (.tuple #[.agg #[.int .i64 f, .int .i64 k], .bool true]) w := by
  simp [Instr.typeAssert, go_sem]
theorem iface_nil (f k : Int) (w : World) : (binOp .eql 20 (.iface 153 (.agg #[.int .i64 f, .int .i64 k])) .nilIface).run Tryz.prog w = .ok (.bool false) w := by
  kernel_rfl
theorem nil_nil (w : World) : (binOp .eql 20 .nilIface .nilIface).run Tryz.prog w = .ok (.bool true) w := by
  kernel_rfl

set_option maxRecDepth 100000 in
set_option maxHeartbeats 2000000 in
theorem scatch_c (b c : Nat) (x y f k : Int) (older : List PanicEntry) (w : World) (hx : w.heap[b]? = some (.cells #[.int .i64 x] 3 (0, 0))) (hy : w.heap[c]? = some (.cells #[.int .i64 y] 28 (0, 0))) :
    CallsD Tryz.prog 104 #[.pointer (some ⟨b, 0, none⟩), .pointer (some ⟨c, 0, none⟩)] (.panicking ({ v := .iface 153 (.agg #[.int .i64 f, .int .i64 k]), recovered := false } :: older)) w fun e u' w' =>
      e = .returned (.tuple #[]) ∧ u' = .panicking ({ v := .iface 153 (.agg #[.int .i64 f, .int .i64 k]), recovered := true } :: older) ∧
      w'.heap[b]? = some (.cells #[.int .i64 f] 3 (0, 0)) ∧ w'.heap[c]? = some (.cells #[.int .i64 k] 28 (0, 0)) ∧ Chg [b, c] w w' := by
  have hbc : b ≠ c := by
    rintro rfl
    rw [hx] at hy
    simp at hy
  have hbl := (Array.getElem?_eq_some_iff.1 hx).1
  have hcl := (Array.getElem?_eq_some_iff.1 hy).1
  obtain ⟨x0, xz⟩ := cells1 hx
  obtain ⟨y0, yz⟩ := cells1 hy
  have HX := Lib.hid hx
  have HY := Lib.hid hy
  refine callsD_of_wpS Tryz.func104 rfl fun c₀ cs hu => ?_
  apply wpS_seq
  apply wpS_region
  simp [wpOpsS, go_sem, recoverD, hu, Tryz.ntmps104, Exit.thenS]
  refine wpS_of_wp ?_
  have hta := fault_is f k
  have hin := iface_nil f k
  clear hx hy
  have hT : #[Value.pointer (some ⟨b, 0, none⟩), Value.pointer (some ⟨c, 0, none⟩)] ++ (Array.replicate 13 undef).setIfInBounds 3 (Value.iface 153 (.agg #[.int .i64 f, .int .i64 k])) = #[Value.pointer (some ⟨b, 0, none⟩), Value.pointer (some ⟨c, 0, none⟩), undef, undef, undef, Value.iface 153 (.agg #[.int .i64 f, .int .i64 k]), undef, undef, undef, undef, undef, undef, undef, undef, undef] := rfl
  rw [hT]
  clear hT
  go_wp2_with fail
  go_region
  all_goals
    go_wp2_with fail
    have hc : Chg [b, c] w ((((w.setCell ⟨b, 0, none⟩ (.int .i64 f)).setCell ⟨c, 0, none⟩ (.int .i64 k)).alloc (.cells #[.int .i64 f, .int .i64 k] 153)).drew) := ((((Chg.refl [b, c] w).set' _ _ _ (.inl (by simp))).set' _ _ _ (.inl (by simp))).alloc' _).drew'
    have e1 : ((((w.setCell ⟨b, 0, none⟩ (.int .i64 f)).setCell ⟨c, 0, none⟩ (.int .i64 k)).alloc (.cells #[.int .i64 f, .int .i64 k] 153)).drew).heap[b]? = some (.cells #[.int .i64 f] 3 (0, 0)) := by
      rw [heap_drew, Below.heap_alloc _ _ _ (by simpa [World.size_setCell] using hbl), Below.heap_setCell _ _ _ _ hbc, block_set _ _ _ _ _ _ _ HX.out]
      rfl
    have e2 : ((((w.setCell ⟨b, 0, none⟩ (.int .i64 f)).setCell ⟨c, 0, none⟩ (.int .i64 k)).alloc (.cells #[.int .i64 f, .int .i64 k] 153)).drew).heap[c]? = some (.cells #[.int .i64 k] 28 (0, 0)) := by
      rw [heap_drew, Below.heap_alloc _ _ _ (by simpa [World.size_setCell] using hcl), block_set _ _ _ _ _ _ _ ((Below.heap_setCell _ _ _ _ (Ne.symm hbc)).trans HY.out)]
      rfl
    simp [bodyPostS, results, Tryz.results104, go_sem]
    exact ⟨e1, e2, hc⟩
set_option maxHeartbeats 2000000 in
theorem sidle_c (b c : Nat) (w : World) :
    CallsD Tryz.prog 104 #[.pointer (some ⟨b, 0, none⟩), .pointer (some ⟨c, 0, none⟩)] .returning w fun e u' w' => e = .returned (.tuple #[]) ∧ u' = .returning ∧ w' = w := by
  refine callsD_of_wpS Tryz.func104 rfl fun c₀ cs hu => ?_
  apply wpS_seq
  apply wpS_region
  simp [wpOpsS, go_sem, recoverD, hu, Tryz.ntmps104, Exit.thenS]
  refine wpS_of_wp ?_
  have hT : #[Value.pointer (some ⟨b, 0, none⟩), Value.pointer (some ⟨c, 0, none⟩)] ++ (Array.replicate 13 undef).setIfInBounds 3 Value.nilIface = #[Value.pointer (some ⟨b, 0, none⟩), Value.pointer (some ⟨c, 0, none⟩), undef, undef, undef, Value.nilIface, undef, undef, undef, undef, undef, undef, undef, undef, undef] := rfl
  rw [hT]
  clear hT
  have hin := nil_nil
  go_wp2_with fail
  cases c₀
  simp_all [bodyPostS, results, Tryz.results104, go_sem]
end Go.Proofs.YtpcajjbdlfookaaGreatDoor
