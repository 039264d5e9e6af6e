/- xmltree: an element's content, however it ends. -/
import Derived.Test.YtpcajjbdlfookaaGreatDoorMp26
import Derived.Deep.AppendLies
import Derived.Deep.RegionLaw
import Derived.RegionDies
namespace Go.Proofs.YtpcajjbdlfookaaGreatDoor
open Go Go.RowKit Go.Deep Go.Shelf
set_option linter.unusedVariables false
set_option linter.unusedSimpArgs false

set_option maxRecDepth 100000 in
set_option maxHeartbeats 32000000 in
theorem content_c {w0 : World} (hw0 : BW w0) {bv : Value} {xs : List UInt8} (hr : Rd w0 bv xs) (hl : xs.length ≤ 65536) (f : Nat) : ∀ {w : World} {pb : Nat} {sv : Value} {L : BS} {k : Nat} (h : PX w0 pb bv sv L k w) (o : Nat) (ho : o < 24) (hL : L.length ≤ 201 * (o + 1)) (t : Tk) (q : Nat) (s : Value) (hh : HT) (av : Value) (eb : Nat) (hbox : w.heap[eb]? = some (.cells #[.string hh.1, .string hh.2.1, av, .slice none 0 0, .string ⟨#[]⟩] 27 (0, 0))) (hats : PairsR (okP w) w av hh.2.2) (hlow : w0.heap.size ≤ eb) (hk : k ≤ xs.length) (hf : xs.length < f + k),
    Calls Tryz.prog 62 #[.pointer (some ⟨pb, 0, none⟩), .pointer (some ⟨eb, 0, none⟩), tokV6 t s q, .int .i64 (o : Nat)] w (ConD w0 w pb bv L eb o (contM xs f L o t.name hh [] [] k)) := by
  obtain ⟨i0, hi, hz0, hz1, hz2⟩ := infoElX
  induction f using Nat.strongRecOn with
  | _ f IH =>
  intro w pb sv L k h o ho hL t q s hh av eb hbox hats hlow hk hf
  obtain ⟨NM, hNM⟩ : ∃ NM, NM = t.name := ⟨_, rfl⟩
  obtain ⟨R, hR⟩ : ∃ R, contM xs f L o t.name hh [] [] k = R := ⟨_, rfl⟩
  rw [hR]
  rw [← hNM] at hR
  unfold tokV6
  obtain ⟨S, hS⟩ : ∃ S : ByteArray, S = ⟨NM.toArray⟩ := ⟨_, rfl⟩
  obtain ⟨U, hU⟩ : ∃ U : ByteArray, U = ⟨t.text.toArray⟩ := ⟨_, rfl⟩
  obtain ⟨TK, hTK⟩ : ∃ TK : Int, TK = (t.kind : Nat) := ⟨_, rfl⟩
  obtain ⟨TE, hTE⟩ : ∃ TE, TE = t.empty := ⟨_, rfl⟩
  rw [← hNM, ← hS, ← hU, ← hTK, ← hTE]
  clear hU hTK hTE hNM
  have hst := CnI.start (d := 24 - (o + 1)) h hbox hats hlow (.cells #[.int .i64 TK, .string S, s, .bool TE, .string U, .int .i64 (q : Nat)] 69)
  obtain ⟨W1, hW1⟩ : ∃ W, W = w.alloc (.cells #[.int .i64 TK, .string S, s, .bool TE, .string U, .int .i64 (q : Nat)] 69) := ⟨_, rfl⟩
  have ht1 : W1.heap[w.heap.size]? = some (.cells #[.int .i64 TK, .string S, s, .bool TE, .string U, .int .i64 (q : Nat)] 69 (0, 0)) := hW1 ▸ heap_alloc_new w _
  suffices hs : Calls Tryz.prog 62 #[.pointer (some ⟨pb, 0, none⟩), .pointer (some ⟨eb, 0, none⟩), .agg #[.int .i64 TK, .string S, s, .bool TE, .string U, .int .i64 (q : Nat)], .int .i64 (o : Nat)] w (ConD w0 W1 pb bv L eb o R) from hs.mono fun e w' hc => ConD.early (ob := .cells #[.int .i64 TK, .string S, s, .bool TE, .string U, .int .i64 (q : Nat)] 69) (hW1 ▸ hc)
  rw [← hW1] at hst
  obtain ⟨W0, hW0⟩ : ∃ W0, W0 = W1.alloc ZBd := ⟨_, rfl⟩
  rw [← hW0] at hst
  have hne1 : w.heap.size ≠ pb := by have := h.ps.lt; omega
  have hne2 : w.heap.size ≠ eb := by have := (Array.getElem?_eq_some_iff.1 hbox).1; omega
  have hpl := h.ps.lt
  have hsz1 : W1.heap.size = w.heap.size + 1 := by rw [hW1]; simp
  have HTB := Lib.hid (fun (wr : World) (EL : List EV) (tx : List UInt8) (a : Nat) (kv : Value) (H : CnI w0 W1 pb eb (w.heap.size + 1) bv L hh av (24 - (o + 1)) EL tx a kv wr) => H.stay ht1 hne1 hne2)
  have HEL := Lib.hid (fun (g : Nat) (hg : g < f) (W : World) (sv' : Value) (t' : Tk) (q' k' : Nat) (s' : Value) (hx : PX w0 pb bv sv' L k' W) (hat : AtsIs W s' t'.attrs) (hb : TkB xs.length t') (hk' : k' ≤ xs.length) (hf' : xs.length < g + k') =>
    elementW_c (c := fun L' o' nm' h' k' => contM xs g L' o' nm' h' [] [] k') hx (o + 1) (by omega) hL t' q' s' hat (Nat.le_trans hb.name (by omega)) (fun x hx => Nat.le_trans (hb.ats x hx) (by omega)) (fun ho2 _ W' h' L' sv'' av' eb' hp hL' hbx hpr hlw => IH g hg hp (o + 1) ho2 hL' t' q' s' h' av' eb' hbx hpr hlw hk' hf'))
  have HNX := Lib.hid (fun (W : World) (sv' : Value) (a : Nat) (hx : PX w0 pb bv sv' L a W) => pnextD_c hw0 hr (by omega) hx)
  have HST := Lib.hid hst
  have HR := Lib.hid hR
  have HS := Lib.hid hS
  have HW1 := Lib.hid hW1
  have HW0 := Lib.hid hW0
  have HSZ1 := Lib.hid hsz1
  clear IH hw0 hr hst hR hS hW1 hW0 hsz1 ht1 hats hbox h
  go_enter Tryz.func62, Tryz.ntmps62
  go_wp2_with fail
  rw [← HW1.out, ← HW0.out]
  go_loopg [] f (fun n wr => ∃ EL tx a kv, CnI w0 W1 pb eb (w.heap.size + 1) bv L hh av (24 - (o + 1)) EL tx a kv wr ∧ contM xs n L o NM hh (EL.map (·.1)) tx a = R ∧ xs.length < n + a ∧ a ≤ xs.length ∧ tx.length ≤ 262144 * a ∧ EL.length ≤ 100 ∧ n ≤ f)
  case atStart => exact ⟨[], [], k, _, HST.out, HR.out, hf, hk, by simp, by simp, Nat.le_refl _⟩
  case round =>
    obtain ⟨EL, tx, a, kv, hI, hM, hfa, hax, htx, hEL, hgf⟩ := hrel
    obtain ⟨g, rfl⟩ : ∃ g, gk = g + 1 := ⟨gk - 1, by omega⟩
    obtain ⟨sv1, hx⟩ := hI.px
    have HN := Lib.hid (HNX.out _ _ _ hx)
    have HI := Lib.hid hI
    have HM := Lib.hid hM
    clear hI hM hx
    go_wp2_with fail
    refine HN.out.mono ?_
    rintro e w1 hn
    unfold AftD at hn
    cases htk : tokM xs a with
    | error x =>
      rw [htk] at hn
      obtain ⟨hbm, hk1, hbl1⟩ := hn
      have hc := HI.out.boom (o := o) hbm hk1 hbl1
      have hRe := HM.out
      rw [contM_bad htk] at hRe
      rw [hRe] at hc
      unfold Boom6 at hbm
      subst hbm
      have HC := Lib.hid hc
      clear hc hRe hk1 hbl1
      dsimp only
      exact ⟨rfl, HC.out⟩
    | ok x =>
      obtain ⟨t', q', k'⟩ := x
      rw [htk] at hn
      obtain ⟨⟨s', rfl, hat, hx1, hk1⟩, hsz1⟩ := hn
      dsimp only at hat hx1
      have hI1 := HI.out.on hx1 hk1 hsz1
      have hTB := tokM_lenB htk
      have hkl := tokM_le htk
      have hgo := tokM_goes htk hax
      obtain ⟨ps1, cs1, hsv1, -⟩ := hat.form
      obtain ⟨N1, hN1⟩ : ∃ N1, N1 = t'.attrs.length := ⟨_, rfl⟩
      obtain ⟨S1, hS1⟩ : ∃ S : ByteArray, S = ⟨t'.name.toArray⟩ := ⟨_, rfl⟩
      obtain ⟨U1, hU1⟩ : ∃ U : ByteArray, U = ⟨t'.text.toArray⟩ := ⟨_, rfl⟩
      obtain ⟨TK1, hTK1⟩ : ∃ TK : Int, TK = (t'.kind : Nat) := ⟨_, rfl⟩
      obtain ⟨TE1, hTE1⟩ : ∃ TE, TE = t'.empty := ⟨_, rfl⟩
      rw [← hN1] at hsv1
      subst hsv1
      unfold tokV6
      dsimp only
      rw [← hS1, ← hU1, ← hTK1, ← hTE1]
      have hbb := box_belT w1 (.cells #[.int .i64 TK1, .string S1, .slice ps1 N1 cs1, .bool TE1, .string U1, .int .i64 (q' : Nat)] 69)
      have hI2 := hI1.below hbb
      obtain ⟨pv, cv, hkv⟩ := rowT_form hI2.row
      obtain ⟨g0, g1, g2, g3, g4, g5, gz⟩ := cellsE6 (heap_alloc_new w1 (.cells #[.int .i64 TK1, .string S1, .slice ps1 N1 cs1, .bool TE1, .string U1, .int .i64 (q' : Nat)] 69))
      have HI2 := Lib.hid hI2
      have HTL := Lib.hid (Array.getElem?_eq_some_iff.1 (HTB.out _ _ _ _ _ hI1)).1
      have HGO := Lib.hid hgo
      have HTK := Lib.hid htk
      have hBs : w.heap.size + 1 ≤ (w1.alloc (.cells #[.int .i64 TK1, .string S1, .slice ps1 N1 cs1, .bool TE1, .string U1, .int .i64 (q' : Nat)] 69)).heap.size := by
        have := hI2.sz
        have := HSZ1.out
        omega
      have HBS := Lib.hid hBs
      have HAT := Lib.hid (hat.below hbb)
      have HTBB := Lib.hid hTB
      have HX2 := Lib.hid (hx1.below hbb)
      have HNW := Lib.hid (heap_alloc_new w1 (.cells #[.int .i64 TK1, .string S1, .slice ps1 N1 cs1, .bool TE1, .string U1, .int .i64 (q' : Nat)] 69))
      have HS1 := Lib.hid hS1
      have HU1 := Lib.hid hU1
      have HTK1 := Lib.hid hTK1
      have HTE1 := Lib.hid hTE1
      have HN1 := Lib.hid hN1
      clear hat hx1 hk1 hsz1 hI1 hbb hI2 hgo hTB htk hBs hS1 hU1 hTE1 hN1
      subst hkv
      by_cases h3 : t'.kind = 3
      · obtain rfl : TK1 = 3 := by rw [hTK1, h3]; rfl
        have HWS := Lib.hid (wstringL _ _ _ tx t'.text HI2.out.bi (by omega) (by have := HTBB.out.text; omega) HBS.out)
        rw [← HU1.out] at HWS
        have hgk := (HGO.out (by omega)).2
        have HEQ := Lib.hid (show contM xs g L o NM hh (EL.map (·.1)) (tx ++ t'.text) k' = R from by rw [← HM.out, contM_text HTK.out h3])
        have hlen : (tx ++ t'.text).length ≤ 262144 * k' := by have := HTBB.out.text; rw [List.length_append]; omega
        have HLEN := Lib.hid hlen
        clear hTK1 hlen
        go_wp2_with fail
        refine HWS.out.mono ?_
        rintro e w2 ⟨⟨z, rfl⟩, hba2, hb2, hkw2⟩
        have HI3 := Lib.hid (HI2.out.text hba2 hb2 hkw2)
        clear hba2 hb2 hkw2
        go_wp2_with fail
        go_roundg g
        case measure => omega
        case rel => exact ⟨EL, tx ++ t'.text, k', _, HI3.out, HEQ.out, by omega, hkl, HLEN.out, hEL, by omega⟩
      by_cases h1 : t'.kind = 1
      · obtain rfl : TK1 = 1 := by rw [hTK1, h1]; rfl
        obtain ⟨e0, e1, e2, e3, e4, ez⟩ := cellsE5 HI2.out.box
        by_cases hfull : 100 ≤ EL.length
        · have hRe := HM.out
          rw [contM_full HTK.out h1 (by rw [List.length_map]; exact hfull)] at hRe
          have HRE := Lib.hid hRe
          have HFL := Lib.hid ((tfail_c (w1.alloc (.cells #[.int .i64 1, .string S1, .slice ps1 N1 cs1, .bool TE1, .string U1, .int .i64 (q' : Nat)] 69)) (.int .i64 1) (.string S1) (.slice ps1 N1 cs1) (.bool TE1) (.string U1) q' 4).mono (R' := fun e w' => Boom6 q' 4 e ∧ ConD w0 W1 pb bv L eb o R e w') (fun e w' hh => ⟨hh.1, by
            rw [← HRE.out]
            exact HI2.out.boom (x := (q', 4)) hh.1 (KpD.of_below hh.2) (HX2.out.ps.bel.trans (hh.2.mono HX2.out.ps.bel.size))⟩))
          have hq : decide ((100 : Int) ≤ (EL.length : Int)) = true := decide_eq_true (by omega)
          clear hTK1 hRe
          go_wp2_with fail
          refine HFL.out.mono ?_
          rintro e w2 ⟨hbm, hc⟩
          unfold Boom6 at hbm
          subst hbm
          have HC := Lib.hid hc
          clear hc
          dsimp only
          exact ⟨rfl, HC.out⟩
        · have hq : decide ((100 : Int) ≤ (EL.length : Int)) = false := decide_eq_false (by omega)
          obtain ⟨RK, hRK⟩ : ∃ RK, elemW (fun L' o' nm' h' k' => contM xs g L' o' nm' h' [] [] k') L (o + 1) t' q' k' = RK := ⟨_, rfl⟩
          have hpt : w1.heap.size ≠ pb := by have := HX2.out.ps.box; rintro rfl; rw [HNW.out] at this; simp at this
          have HKID := Lib.hid (fun (W : World) (hb : Below (w1.alloc (.cells #[.int .i64 1, .string S1, .slice ps1 N1 cs1, .bool TE1, .string U1, .int .i64 (q' : Nat)] 69)).heap.size (w1.alloc (.cells #[.int .i64 1, .string S1, .slice ps1 N1 cs1, .bool TE1, .string U1, .int .i64 (q' : Nat)] 69)) W) => HEL.out g (by omega) W _ t' q' k' (.slice ps1 N1 cs1) (HX2.out.below hb) (HAT.out.below hb) HTBB.out hkl (by have := (HGO.out (by omega)).2; omega))
          unfold tokV6 at HKID
          rw [hRK, ← HS1.out, ← HU1.out, ← HTE1.out, ← hTK1, show ((o + 1 : Nat) : Int) = (o : Int) + 1 from by omega] at HKID
          have hwo : IntKind.i64.wrap ((o : Int) + 1) = (o : Int) + 1 := by rw [IntKind.wrap_i64]; omega
          have HBd := Lib.hid (show Below (w1.alloc (.cells #[.int .i64 1, .string S1, .slice ps1 N1 cs1, .bool TE1, .string U1, .int .i64 (q' : Nat)] 69)).heap.size (w1.alloc (.cells #[.int .i64 1, .string S1, .slice ps1 N1 cs1, .bool TE1, .string U1, .int .i64 (q' : Nat)] 69)) (w1.alloc (.cells #[.int .i64 1, .string S1, .slice ps1 N1 cs1, .bool TE1, .string U1, .int .i64 (q' : Nat)] 69)).drew from (Below.refl _ _).drew)
          have HBz := Lib.hid (show Below (w1.alloc (.cells #[.int .i64 1, .string S1, .slice ps1 N1 cs1, .bool TE1, .string U1, .int .i64 (q' : Nat)] 69)).heap.size (w1.alloc (.cells #[.int .i64 1, .string S1, .slice ps1 N1 cs1, .bool TE1, .string U1, .int .i64 (q' : Nat)] 69)) (((w1.alloc (.cells #[.int .i64 1, .string S1, .slice ps1 N1 cs1, .bool TE1, .string U1, .int .i64 (q' : Nat)] 69)).alloc ZE).drew) from ((Below.refl _ _).alloc (Nat.le_refl _) _).drew)
          have hel9 : eb < w1.heap.size + 1 := by have := (Array.getElem?_eq_some_iff.1 HI2.out.box).1; rwa [World.size_alloc] at this
          have hel8 : eb < w1.heap.size := by
            have := HI2.out.box
            rcases Nat.lt_or_ge eb w1.heap.size with h9 | h9
            · exact h9
            · exfalso
              obtain rfl : eb = w1.heap.size := by omega
              rw [HNW.out] at this
              simp at this
          cases RK with
          | error x =>
            have hRe := HM.out
            rw [contM_kidE HTK.out h1 (by rw [List.length_map]; exact hfull) hRK] at hRe
            have HKE := Lib.hid (fun (W : World) (hb : Below (w1.alloc (.cells #[.int .i64 1, .string S1, .slice ps1 N1 cs1, .bool TE1, .string U1, .int .i64 (q' : Nat)] 69)).heap.size (w1.alloc (.cells #[.int .i64 1, .string S1, .slice ps1 N1 cs1, .bool TE1, .string U1, .int .i64 (q' : Nat)] 69)) W) => (HKID.out W hb).mono (R' := fun e w' => Boom6 x.1 x.2 e ∧ ConD w0 W1 pb bv L eb o R e w') (fun e w' he => ⟨he.1, by
              rw [← hRe]
              exact (HI2.out.below hb).boom he.1 he.2.1 he.2.2⟩))
            clear hTK1 hRe hRK HKID HTB HEL HNX HST HR HS HW1 HW0 HSZ1 HBS HTL HM HN HTBB HGO HTK HAT HX2 HNW HI HI2 HS1 HU1 HTK1 HTE1 HN1 hi hz0 hz1 hz2
            go_wp2_with fail
            go_region_dies
            all_goals
              refine (HKE.out _ (by first | with_reducible exact HBd.out | with_reducible exact HBz.out)).mono ?_
              rintro e w2 ⟨hbm, hc⟩
              unfold Boom6 at hbm
              subst hbm
              exact ⟨rfl, hc⟩
          | ok x =>
            have hRe := HM.out
            rw [contM_kid HTK.out h1 (by rw [List.length_map]; exact hfull) hRK] at hRe
            have HRE := Lib.hid hRe
            have hxg := kid_goes hkl hRK
            have hgk := (HGO.out (by omega)).2
            obtain ⟨T1, hT1⟩ : ∃ T, T = x.1.space := ⟨_, rfl⟩
            obtain ⟨T2, hT2⟩ : ∃ T, T = x.1.name := ⟨_, rfl⟩
            obtain ⟨T3, hT3⟩ : ∃ T, T = x.1.text := ⟨_, rfl⟩
            have HKOK := Lib.hid (fun (W : World) (hb : Below (w1.alloc (.cells #[.int .i64 1, .string S1, .slice ps1 N1 cs1, .bool TE1, .string U1, .int .i64 (q' : Nat)] 69)).heap.size (w1.alloc (.cells #[.int .i64 1, .string S1, .slice ps1 N1 cs1, .bool TE1, .string U1, .int .i64 (q' : Nat)] 69)) W) (hla : ∃ b cs T z, W.heap.size = b + 1 ∧ W.heap[b]? = some (.cells cs T z) ∧ b ≠ pb ∧ 126 ≠ T) => (HKID.out W hb).mono (R' := fun e w' => ∃ p2 n2 c2 p3 n3 c3, e = .returned (.agg #[.string T1, .string T2, .slice p2 n2 c2, .slice p3 n3 c3, .string T3]) ∧ KidOk w0 W1 pb eb (w.heap.size + 1) bv L hh av (24 - (o + 1)) EL tx x.2 (.slice pv EL.length cv) x.1 (.slice p2 n2 c2) (.slice p3 n3 c3) w' ∧ KpD pb W w') (fun e w' he => by
              have he' : EleD w0 W pb bv L (o + 1) x e w' := he
              obtain ⟨b, cs, T, z, hsz, hbx, hbp, hT⟩ := hla
              have hkd : KpD pb W w' := by
                obtain ⟨_, _, _, _, _, hk⟩ := he'
                exact hk
              have hs : W.heap.size ≤ w'.heap.size := by
                have := (Array.getElem?_eq_some_iff.1 (hkd _ _ _ _ hbp hT hbx)).1
                omega
              obtain ⟨hI, av2, kv2, he2, hp, hk2⟩ := (HI2.out.below hb).kid he' rfl hs
              obtain ⟨p2, c2, hf2, -⟩ := hp.form
              obtain ⟨p3, c3, hf3, -⟩ := hk2.form
              subst hf2 hf3
              exact ⟨p2, _, c2, p3, _, c3, by rw [he2, hT1, hT2, hT3], ⟨hI, hp, hk2⟩, hkd⟩))
            have hpz : w1.heap.size + 1 ≠ pb := by
              have := HX2.out.ps.lt
              rw [World.size_alloc] at this
              omega
            have HL1 := Lib.hid (show ∃ b cs T z, (w1.alloc (.cells #[.int .i64 1, .string S1, .slice ps1 N1 cs1, .bool TE1, .string U1, .int .i64 (q' : Nat)] 69)).drew.heap.size = b + 1 ∧ (w1.alloc (.cells #[.int .i64 1, .string S1, .slice ps1 N1 cs1, .bool TE1, .string U1, .int .i64 (q' : Nat)] 69)).drew.heap[b]? = some (.cells cs T z) ∧ b ≠ pb ∧ 126 ≠ T from ⟨w1.heap.size, _, _, _, (by show (w1.alloc (.cells #[.int .i64 1, .string S1, .slice ps1 N1 cs1, .bool TE1, .string U1, .int .i64 (q' : Nat)] 69)).heap.size = _; rw [World.size_alloc]), HNW.out, hpt, by decide⟩)
            have hzn : (((w1.alloc (.cells #[.int .i64 1, .string S1, .slice ps1 N1 cs1, .bool TE1, .string U1, .int .i64 (q' : Nat)] 69)).alloc ZE).drew).heap[w1.heap.size + 1]? = some ZE := by
              have := heap_alloc_new (w1.alloc (.cells #[.int .i64 1, .string S1, .slice ps1 N1 cs1, .bool TE1, .string U1, .int .i64 (q' : Nat)] 69)) ZE
              rw [World.size_alloc] at this
              exact this
            have HL2 := Lib.hid (show ∃ b cs T z, (((w1.alloc (.cells #[.int .i64 1, .string S1, .slice ps1 N1 cs1, .bool TE1, .string U1, .int .i64 (q' : Nat)] 69)).alloc ZE).drew).heap.size = b + 1 ∧ (((w1.alloc (.cells #[.int .i64 1, .string S1, .slice ps1 N1 cs1, .bool TE1, .string U1, .int .i64 (q' : Nat)] 69)).alloc ZE).drew).heap[b]? = some (.cells cs T z) ∧ b ≠ pb ∧ 126 ≠ T from ⟨w1.heap.size + 1, _, _, _, (by show ((w1.alloc (.cells #[.int .i64 1, .string S1, .slice ps1 N1 cs1, .bool TE1, .string U1, .int .i64 (q' : Nat)] 69)).alloc ZE).heap.size = _; rw [World.size_alloc, World.size_alloc]), hzn, hpz, by decide⟩)
            have HZN := Lib.hid hzn
            have HNWd := Lib.hid (show (w1.alloc (.cells #[.int .i64 1, .string S1, .slice ps1 N1 cs1, .bool TE1, .string U1, .int .i64 (q' : Nat)] 69)).drew.heap[w1.heap.size]? = some (.cells #[.int .i64 1, .string S1, .slice ps1 N1 cs1, .bool TE1, .string U1, .int .i64 (q' : Nat)] 69 (0, 0)) from HNW.out)
            have HTZ := Lib.hid (show (((w1.alloc (.cells #[.int .i64 1, .string S1, .slice ps1 N1 cs1, .bool TE1, .string U1, .int .i64 (q' : Nat)] 69)).alloc ZE).drew).heap[w1.heap.size]? = some (.cells #[.int .i64 1, .string S1, .slice ps1 N1 cs1, .bool TE1, .string U1, .int .i64 (q' : Nat)] 69 (0, 0)) from ((box_belT (w1.alloc (.cells #[.int .i64 1, .string S1, .slice ps1 N1 cs1, .bool TE1, .string U1, .int .i64 (q' : Nat)] 69)) ZE).block _ (by rw [World.size_alloc]; omega)).trans HNW.out)
            have HKS := Lib.hid (fun (W : World) (h9 : W.heap[w1.heap.size]? = some (.cells #[.int .i64 1, .string S1, .slice ps1 N1 cs1, .bool TE1, .string U1, .int .i64 (q' : Nat)] 69 (0, 0))) => show W.cell? ⟨w1.heap.size, 0, none⟩ = some (.int .i64 1) ∧ W.cell? ⟨w1.heap.size, 1, none⟩ = some (.string S1) ∧ W.cell? ⟨w1.heap.size, 2, none⟩ = some (.slice ps1 N1 cs1) ∧ W.cell? ⟨w1.heap.size, 3, none⟩ = some (.bool TE1) ∧ W.cell? ⟨w1.heap.size, 4, none⟩ = some (.string U1) ∧ W.cell? ⟨w1.heap.size, 5, none⟩ = some (.int .i64 (q' : Nat)) from by
              obtain ⟨d0, d1, d2, d3, d4, d5, _⟩ := cellsE6 h9
              exact ⟨d0, d1, d2, d3, d4, d5⟩)
            have HT123 := Lib.hid (And.intro hT1 (And.intro hT2 hT3))
            have heb9 : eb ≠ w1.heap.size := by
              have := HI2.out.box
              rintro rfl
              rw [HNW.out] at this
              simp at this
            have HSZB := Lib.hid (show W1.heap.size ≤ w1.heap.size from by have := HSZ1.out; have := HTL.out; omega)
            have hM3 : ¬ ((EL.length : Int) + 1 ≤ (EL.length : Int)) := by omega
            have HOM := Lib.hid (show xs.length < g + x.2 ∧ x.2 ≤ xs.length ∧ tx.length ≤ 262144 * x.2 ∧ EL.length + 1 ≤ 100 ∧ g ≤ f ∧ g < g + 1 from ⟨by omega, hxg.2, by omega, by omega, by omega, by omega⟩)
            clear hTK1 hRe hRK hT1 hT2 hT3 hzn hxg hgk HKID HTB HEL HNX HST HR HS HW1 HW0 HSZ1 HBS HTL HM HN HTBB HGO HTK HAT HX2 HNW HI HS1 HU1 HTK1 HTE1 HN1 HKS hl hfa hax htx hEL hgf hkl
            go_wp2_with fail
            go_region_law (first
                | (go_simp
                   go_at_call 31
                   refine (HKOK.out _ (by first | with_reducible exact HBd.out | with_reducible exact HBz.out) (by first | with_reducible exact HL1.out | with_reducible exact HL2.out)).mono ?_
                   rintro e w3 ⟨p2, n2, c2, p3, n3, c3, rfl, hko, hkd⟩
                   have HKO := Lib.hid hko
                   have hq3 := hkd w1.heap.size _ _ _ hpt (show 126 ≠ 69 by decide) (by first | with_reducible exact HNWd.out | with_reducible exact HTZ.out)
                   try (have hz3 := hkd (w1.heap.size + 1) _ _ _ hpz (show 126 ≠ 27 by decide) (by with_reducible exact HZN.out))
                   obtain ⟨d0, d1, d2, d3, d4, dz⟩ := cellsE5 hko.st.box
                   have hel3 := (Array.getElem?_eq_some_iff.1 hko.st.box).1
                   have HBS3 := Lib.hid (show W1.heap.size ≤ w3.heap.size from hko.st.sz)
                   clear hko hkd)
                | (first
                     | (have hz4 := hz3; refine step_append_lies _ (by rfl) _ _ 25 (by rfl) W1.heap.size 27 i0 (.agg #[.string ⟨#[]⟩, .string ⟨#[]⟩, .slice none 0 0, .slice none 0 0, .string ⟨#[]⟩]) 5 96 Tryz.underlying25 hi hz0 hz1 hz2 rfl (by omega) (.slice pv EL.length cv) EL.length (ecells EL) (by rfl) HKO.out.st.row ⟨w1.heap.size + 1, 0, none⟩ 1 1 [.string ⟨#[]⟩, .string ⟨#[]⟩, .slice none 0 0, .slice none 0 0, .string ⟨#[]⟩] (by rfl) (by simp) (World.news_of_block hz3) (by simp [Value.oneCell']) (by omega) (by unfold maxLen; omega) (by omega) (by have := HBS3.out; omega) _ rfl ?_)
                     | (refine step_append_lies _ (by rfl) _ _ 25 (by rfl) W1.heap.size 27 i0 (.agg #[.string ⟨#[]⟩, .string ⟨#[]⟩, .slice none 0 0, .slice none 0 0, .string ⟨#[]⟩]) 5 96 Tryz.underlying25 hi hz0 hz1 hz2 rfl (by omega) (.slice pv EL.length cv) EL.length (ecells EL) (by rfl) (rowT_below HKO.out.st.row (box_belT _ _)) ⟨w3.heap.size, 0, none⟩ 1 1 [.string ⟨#[]⟩, .string ⟨#[]⟩, .slice none 0 0, .slice none 0 0, .string ⟨#[]⟩] (by rfl) (by simp) (World.news_of_block (heap_alloc_new w3 _)) (by simp [Value.oneCell']) (by omega) (by unfold maxLen; omega) (by omega) (by have := HBS3.out; rw [World.size_alloc]; omega) _ rfl ?_)
                   intro g6 cap6 w6 hown6 hgrow6 hat6 hlt6
                   have hpu := KidOk.push HKO.out (by first | with_reducible exact Below.refl _ _ | with_reducible exact box_belT _ _) hgrow6 hown6 hat6 HT123.out.1 HT123.out.2.1 HT123.out.2.2
                   have HPU := Lib.hid hpu.1
                   have hge := hpu.2.1
                   have HPV := hpu.1
                   rw [← put5_comm _ hge] at HPV
                   have HPV := Lib.hid HPV
                   obtain ⟨r0, r1, r2, r3, r4, rz⟩ := cellsE5 hpu.2.2.1
                   have hq6 := (hpu.2.2.2 _ _ _ hq3).1
                   have hgt := (hpu.2.2.2 _ _ _ hq3).2
                   obtain ⟨s0, s1, s2, s3, s4, sz⟩ := row_place hown6
                   rw [show (ecells EL).length = EL.length * 5 from by unfold ecells; rw [flat_len ecell_len]] at s0 s1 s2 s3 s4
                   clear hown6 hgrow6 hat6 hpu d0 d1 d2 d3 d4 dz)
                | fail "no arm")
            all_goals
              go_wp2_with fail
              go_roundg g
              case measure => exact HOM.out.2.2.2.2.2
              case rel => exact ⟨EL ++ [(x.1, .slice p2 n2 c2, .slice p3 n3 c3)], tx, x.2, .slice (some ⟨g6, 0, none⟩) (EL.length + 1) cap6, (by first | with_reducible exact HPU.out | with_reducible exact HPV.out), by rw [List.map_append]; exact HRE.out, HOM.out.1, HOM.out.2.1, HOM.out.2.2.1, by rw [List.length_append]; exact HOM.out.2.2.2.1, HOM.out.2.2.2.2.1⟩
      have n3 : (TK1 == 3) = false := by rw [beq_eq_false_iff_ne]; omega
      have n1 : (TK1 == 1) = false := by rw [beq_eq_false_iff_ne]; omega
      have ht2 := HTB.out _ _ _ _ _ HI2.out
      obtain ⟨t0, t1, t2, t3, t4, t5, tz⟩ := cellsE6 ht2
      have htl2 : w.heap.size < w1.heap.size := HTL.out
      clear ht2
      by_cases h2 : t'.kind = 2 ∧ t'.name = NM
      · obtain rfl : TK1 = 2 := by rw [hTK1, h2.1]; rfl
        obtain rfl : S1 = S := by rw [HS1.out, HS.out, h2.2]
        have hRe := HM.out
        rw [contM_close HTK.out h2.1 h2.2] at hRe
        have HST := Lib.hid (btextK _ _ _ tx HI2.out.bi HBS.out)
        obtain ⟨V, hV⟩ : ∃ V : ByteArray, V = ⟨tx.toArray⟩ := ⟨_, rfl⟩
        rw [← hV] at HST
        have HRE := Lib.hid hRe
        have HV := Lib.hid hV
        have hVs : V.size ≤ 140737488355328 := by
          rw [hV]
          show tx.toArray.size ≤ _
          simp
          omega
        have HBL := Lib.hid (fun W => blank_c W V hVs)
        rw [show blankB V = blankL tx from by rw [hV]; rfl] at HBL
        clear hTK1 h2 hRe hV
        go_wp2_with fail
        refine HST.out.mono ?_
        rintro e w4 ⟨rfl, hb4, hkw4⟩
        have HF := Lib.hid (HI2.out.f hb4 hkw4)
        obtain ⟨e0, e1, e2, e3, e4, ez⟩ := cellsE5 HF.out.box
        clear hb4 hkw4 t0 t1 t2 t3 t4 t5 tz g0 g1 g2 g3 g4 g5 gz
        dsimp only
        by_cases h0 : EL = []
        · have hl0 : ((EL.length : Int) == 0) = true := by rw [h0]; rfl
          rw [if_pos (.inl (by rw [h0]; rfl))] at HRE
          have HEND := Lib.hid (HF.out.ends1 (o := o) (by omega) tx)
          rw [HRE.out, show ba tx = V from HV.out.symm] at HEND
          clear h0 HBL
          go_wp2_with fail
          refine bodyPost_ret (results_none rfl _ _ _) rfl ?_
          exact HEND.out
        · have hl0 : ((EL.length : Int) == 0) = false := by
            rw [beq_eq_false_iff_ne]
            intro e
            exact h0 (List.length_eq_zero_iff.1 (by omega))
          cases hbl : blankL tx with
          | false =>
            rw [if_pos (.inr hbl)] at HRE
            rw [hbl] at HBL
            have HEND := Lib.hid (HF.out.ends1 (o := o) (by omega) tx)
            rw [HRE.out, show ba tx = V from HV.out.symm] at HEND
            clear h0 hbl
            go_wp2_with fail
            refine (HBL.out _).mono ?_
            rintro e w5 ⟨rfl, rfl⟩
            go_wp2_with fail
            refine bodyPost_ret (results_none rfl _ _ _) rfl ?_
            exact HEND.out
          | true =>
            rw [if_neg (by rw [hbl, List.map_eq_nil_iff]; simp [h0])] at HRE
            rw [hbl] at HBL
            have HEND := Lib.hid (HF.out.ends0 (o := o) (by omega))
            rw [HRE.out] at HEND
            clear h0 hbl
            go_wp2_with fail
            refine (HBL.out _).mono ?_
            rintro e w5 ⟨rfl, rfl⟩
            go_wp2_with fail
            refine bodyPost_ret (results_none rfl _ _ _) rfl ?_
            exact HEND.out
      · have hRe := HM.out
        rw [contM_nest HTK.out h3 h1 h2] at hRe
        have HRE := Lib.hid hRe
        have HFL := Lib.hid ((tfail_c (w1.alloc (.cells #[.int .i64 TK1, .string S1, .slice ps1 N1 cs1, .bool TE1, .string U1, .int .i64 (q' : Nat)] 69)) (.int .i64 TK1) (.string S1) (.slice ps1 N1 cs1) (.bool TE1) (.string U1) q' 14).mono (R' := fun e w' => Boom6 q' 14 e ∧ ConD w0 W1 pb bv L eb o R e w') (fun e w' hh => ⟨hh.1, by
          rw [← HRE.out]
          exact HI2.out.boom (x := (q', 14)) hh.1 (KpD.of_below hh.2) (HX2.out.ps.bel.trans (hh.2.mono HX2.out.ps.bel.size))⟩))
        by_cases hk2 : t'.kind = 2
        · obtain rfl : TK1 = 2 := by rw [hTK1, hk2]; rfl
          have hne : (S1.toList == S.toList) = false := by
            rw [beq_eq_false_iff_ne, HS1.out, HS.out, ByteArray.toList_eq, ByteArray.toList_eq]
            intro e
            exact h2 ⟨hk2, by simpa using e⟩
          clear hTK1 hRe h2
          go_wp2_with fail
          refine HFL.out.mono ?_
          rintro e w2 ⟨hbm, hc⟩
          unfold Boom6 at hbm
          subst hbm
          have HC := Lib.hid hc
          clear hc
          dsimp only
          exact ⟨rfl, HC.out⟩
        · have n2 : (TK1 == 2) = false := by rw [beq_eq_false_iff_ne]; omega
          clear hTK1 hRe h2
          go_wp2_with fail
          refine HFL.out.mono ?_
          rintro e w2 ⟨hbm, hc⟩
          unfold Boom6 at hbm
          subst hbm
          have HC := Lib.hid hc
          clear hc
          dsimp only
          exact ⟨rfl, HC.out⟩
end Go.Proofs.YtpcajjbdlfookaaGreatDoor
