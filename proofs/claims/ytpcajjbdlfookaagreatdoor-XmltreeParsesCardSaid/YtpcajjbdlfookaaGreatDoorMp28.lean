/- xmltree: the reference: what is in an element. -/
import Derived.Test.YtpcajjbdlfookaaGreatDoorMp27
import Derived.Test.YtpcajjbdlfookaaGreatDoorMp23
import Derived.Deep.LoopGhost
import Derived.Deep.AppendLies
import Derived.Test.YtpcajjbdlfookaaGreatDoorMp26
namespace Go.Proofs.YtpcajjbdlfookaaGreatDoor
open Go Go.RowKit Go.Deep Go.Shelf
set_option linter.unusedVariables false
set_option linter.unusedSimpArgs false

theorem tokG_kind {r : List UInt8} {k : Tk} {m : Nat} (h : tokG opnP cloP r = .ok (k, m)) : k.kind ≤ 3 := by
  unfold tokG at h
  simp only at h
  split at h
  · split at h
    · cases h
    · cases h
      show (3 : Nat) ≤ 3
      decide
  split at h
  · cases h
  split at h
  · split at h
    · cases h
    · rename_i t m' hx
      cases h
      unfold cloP at hx
      split at hx
      · cases hx
      split at hx
      · cases hx
        show (2 : Nat) ≤ 3
        decide
      · cases hx
  split at h
  · split at h
    · cases h
    · rename_i t m' hx
      cases h
      unfold opnP at hx
      split at hx
      · cases hx
      split at hx
      · cases hx
      · rename_i l b m2 hy
        cases hx
        show (1 : Nat) ≤ 3
        decide
  · obtain ⟨n, -, hd⟩ := dat_eq r
    rw [hd] at h
    split at h
    · cases h
    split at h
    · cases h
    · rename_i s hs
      cases h
      show (3 : Nat) ≤ 3
      decide
theorem tokM_kind {xs : List UInt8} {a q k : Nat} {t : Tk} (h : tokM xs a = .ok (t, q, k)) : t.kind ≤ 3 := by
  have h := (tokM_ok h).2
  unfold nxt at h
  split at h
  · cases h
  split at h
  · cases h
  · split at h
    · cases h
      decide
    · split at h
      · cases h
        decide
      · rename_i t' n hx
        cases h
        exact tokG_kind hx
theorem results_in (tm : Array Value) (V : World) (b : Nat) (c0 c1 c2 c3 c4 k z : Value) (h2 : tm.getD 10 undef = .pointer (some ⟨b, 0, none⟩)) (h3 : tm.getD 11 undef = k) (h4 : tm.getD 12 undef = z) (h : V.heap[b]? = some (.cells #[c0, c1, c2, c3, c4] 27 (0, 0))) :
    (results Tryz.f40 tm).run Tryz.prog V = .ok (.tuple #[.agg #[c0, c1, c2, c3, c4], k, z]) V := by
  obtain ⟨e0, e1, e2, e3, e4, _⟩ := cellsE5 h
  have h2' : tm[10]?.getD undef = .pointer (some ⟨b, 0, none⟩) := by simpa using h2
  have h3' : tm[11]?.getD undef = k := by simpa using h3
  have h4' : tm[12]?.getD undef = z := by simpa using h4
  simp [results, Tryz.results40, go_sem, h2', h3', h4', e0, e1, e2, e3, e4]
theorem ba_app (a b : List UInt8) : ba a ++ ba b = ba (a ++ b) := by
  apply ByteArray.ext
  rw [ByteArray.data_append]
  simp [ba]
theorem ba_size (a : List UInt8) : (ba a).size = a.length := by
  show a.toArray.size = _
  simp
set_option maxRecDepth 100000 in
set_option maxHeartbeats 32000000 in
theorem inside_c {w0 : World} {bv : Value} {xs : List UInt8} (hr : Rd w0 bv xs) (hl : xs.length ≤ 65536) (f : Nat) : ∀ {w : World} {rb : Nat} {v : Value} {L : BS} {k : Nat} (hx : RX w0 rb bv k w) (hb : RB w v L) (o : Nat) (ho : o < 24) (hL : L.length ≤ 201 * (o + 1)) (nm : List UInt8) (hh : HT) (av : Value) (N : Nat) (hp : PairsR (fun b => N ≤ b) w av hh.2.2) (hrn : rb < N) (hN : N ≤ w.heap.size) (hk : k ≤ xs.length) (hf : xs.length < f + k),
    Calls Tryz.prog 40 #[.pointer (some ⟨rb, 0, none⟩), .agg #[.string hh.1, .string hh.2.1, av, .slice none 0 0, .string ⟨#[]⟩], .string ⟨nm.toArray⟩, v, .int .i64 ((o : Int) + 1)] w (WhE w0 w rb bv N o (contM xs f L o nm hh [] [] k)) := by
  obtain ⟨i0, hi, hz0, hz1, hz2⟩ := infoElX
  induction f using Nat.strongRecOn with
  | _ f IH =>
  intro w rb v L k hx hb o ho hL nm hh av N hp hrn hN hk hf
  obtain ⟨R, hR⟩ : ∃ R, contM xs f L o nm hh [] [] k = R := ⟨_, rfl⟩
  rw [hR]
  obtain ⟨pa, ca, hav, -⟩ := hp.form
  obtain ⟨NA, hNA⟩ : ∃ NA, NA = hh.2.2.length := ⟨_, rfl⟩
  rw [← hNA] at hav
  subst hav
  obtain ⟨pb, cb, hbv, hlb, hmb⟩ := hb.form
  obtain ⟨M, hM⟩ : ∃ M, M = L.length := ⟨_, rfl⟩
  rw [← hM] at hbv
  subst hbv
  obtain ⟨S, hS⟩ : ∃ S : ByteArray, S = ⟨nm.toArray⟩ := ⟨_, rfl⟩
  rw [← hS]
  have hst := RnI.start (w := w) (d := 24 - (o + 1)) hx hp hrn hN
  obtain ⟨W0, hW0⟩ : ∃ W0, W0 = (w.alloc (.cells #[.string hh.1, .string hh.2.1, .slice pa NA ca, .slice none 0 0, .string ⟨#[]⟩] 27)).alloc ZE := ⟨_, rfl⟩
  rw [← hW0] at hst
  have HRBC := Lib.hid (fun (W : World) (hc : Chg [rb] w W) => hb.chg hc hx.box)
  have HWH := Lib.hid (fun (g : Nat) (hg : g < f) (W : World) (t' : Tk) (q' k' : Nat) (s' : Value) (hx' : RX w0 rb bv k' W) (hc : RB W (.slice pb M cb) L) (hat : AtsIs W s' t'.attrs) (hbk : TkB xs.length t') (hao : AtsOk t'.attrs) (hk' : k' ≤ xs.length) (hf' : xs.length < g + k') (ho2 : o + 1 < 24) =>
    wholeW_c (c := fun L' o' nm' h' k' => contM xs g L' o' nm' h' [] [] k') hx' hc (o + 1) ho2 hL t' q' s' hat hao (Nat.le_trans hbk.name (by omega)) (fun x hx => Nat.le_trans (hbk.ats x hx) (by omega)) (fun W' h' L' v' av' N' hp1 hp2 hp3 hp4 hp5 hp6 => IH g hg hp1 hp2 (o + 1) ho2 hp3 t'.name h' av' N' hp4 hp5 hp6 hk' hf'))
  have HNX := Lib.hid (fun (W : World) (a : Nat) (hx : RX w0 rb bv a W) (ha : a ≤ xs.length) => rrnext_c hr (by omega) hx ha)
  have HST := Lib.hid hst
  have HR := Lib.hid hR
  have HS := Lib.hid hS
  have HW0 := Lib.hid hW0
  have hrl := hx.lt
  clear IH hr hst hR hS hW0 hp hx hb hNA hM hlb hmb
  go_enter Tryz.func40, Tryz.ntmps40
  go_wp2_with fail
  rw [← HW0.out]
  go_loopg [] f (fun n wr => ∃ EL tx a kv, RnI w0 w rb bv N hh (.slice pa NA ca) (24 - (o + 1)) EL tx a kv wr ∧ contM xs n L o nm hh (EL.map (·.1)) tx a = R ∧ xs.length < n + a ∧ a ≤ xs.length ∧ tx.length ≤ 262144 * a ∧ EL.length ≤ 100 ∧ n ≤ f)
  case atStart => exact ⟨[], [], k, _, HST.out, HR.out, hf, hk, by simp, by simp, Nat.le_refl _⟩
  case round =>
    obtain ⟨EL, tx, a, kv, hI, hM, hfa, hax, htx, hEL, hgf⟩ := hrel
    obtain ⟨g, rfl⟩ : ∃ g, gk = g + 1 := ⟨gk - 1, by omega⟩
    have HN := Lib.hid (HNX.out _ _ hI.rx hax)
    have HI := Lib.hid hI
    have HM := Lib.hid hM
    clear hI hM
    obtain ⟨pv, cv, hkv⟩ := rowT_form HI.out.row
    subst hkv
    go_wp2_with fail
    refine HN.out.mono ?_
    rintro e w1 hn
    unfold RnxE at hn
    cases htk : tokM xs a with
    | error x =>
      rw [htk] at hn
      obtain ⟨t', vt, rfl, ⟨s', rfl, hat⟩, hb1, hne⟩ := hn
      obtain ⟨ps1, cs1, hsv1, -⟩ := hat.form
      obtain ⟨N1, hN1⟩ : ∃ N1, N1 = t'.attrs.length := ⟨_, rfl⟩
      obtain ⟨S1, hS1⟩ : ∃ S : ByteArray, S = ⟨t'.name.toArray⟩ := ⟨_, rfl⟩
      obtain ⟨U1, hU1⟩ : ∃ U : ByteArray, U = ⟨t'.text.toArray⟩ := ⟨_, rfl⟩
      obtain ⟨TK1, hTK1⟩ : ∃ TK : Int, TK = (t'.kind : Nat) := ⟨_, rfl⟩
      obtain ⟨TE1, hTE1⟩ : ∃ TE, TE = t'.empty := ⟨_, rfl⟩
      rw [← hN1] at hsv1
      subst hsv1
      dsimp only
      rw [← hS1, ← hU1, ← hTK1, ← hTE1]
      have hRe := HM.out
      rw [contM_bad htk] at hRe
      have HRE := Lib.hid hRe
      have HI1 := Lib.hid (HI.out.below hb1)
      have tz1 : ((x.2 : Int) == 0) = false := by rw [beq_eq_false_iff_ne]; omega
      have tz2 : ((x.2 : Int) != 0) = true := by simp only [bne, tz1]; rfl
      have HNE := Lib.hid hne
      obtain ⟨e0, e1, e2, e3, e4, ez⟩ := cellsE5 HI1.out.box
      obtain ⟨z0, z1, z2, z3, z4, zz⟩ := cellsE5 HI1.out.res
      have hel := (Array.getElem?_eq_some_iff.1 HI1.out.box).1
      have hzl := (Array.getElem?_eq_some_iff.1 HI1.out.res).1
      clear hRe hat hb1 hne hN1 hS1 hU1 hTK1 hTE1 htk
      go_wp2_with fail
      have hgv := HI1.out.give (ba tx) rfl (box_belT _ (.cells #[.int .i64 TK1, .string S1, .slice ps1 N1 cs1, .bool TE1, .string U1] 52))
      refine bodyPost_ret (results_in _ _ (w.heap.size + 1) _ _ _ _ _ _ _ rfl rfl rfl hgv.1) rfl ?_
      rw [← HRE.out]
      exact ⟨_, rfl, hgv.2.2.2.2, HNE.out, hgv.2.2.2.1⟩
    | ok x =>
      obtain ⟨t', q', k'⟩ := x
      rw [htk] at hn
      obtain ⟨vt, rfl, ⟨s', rfl, hat⟩, hx1, hc1⟩ := hn
      dsimp only at hat hx1
      have hI1 := HI.out.on hx1 hc1
      have hTB := tokM_lenB htk
      have hkl := tokM_le htk
      have hgo := tokM_goes htk hax
      have hk3 := tokM_kind htk
      have hao := tokM_ats htk
      obtain ⟨ps1, cs1, hsv1, -⟩ := hat.form
      obtain ⟨N1, hN1⟩ : ∃ N1, N1 = t'.attrs.length := ⟨_, rfl⟩
      obtain ⟨S1, hS1⟩ : ∃ S : ByteArray, S = ⟨t'.name.toArray⟩ := ⟨_, rfl⟩
      obtain ⟨U1, hU1⟩ : ∃ U : ByteArray, U = ⟨t'.text.toArray⟩ := ⟨_, rfl⟩
      obtain ⟨TK1, hTK1⟩ : ∃ TK : Int, TK = (t'.kind : Nat) := ⟨_, rfl⟩
      obtain ⟨TE1, hTE1⟩ : ∃ TE, TE = t'.empty := ⟨_, rfl⟩
      rw [← hN1] at hsv1
      subst hsv1
      dsimp only
      rw [← hS1, ← hU1, ← hTK1, ← hTE1]
      have hbb := box_belT w1 (.cells #[.int .i64 TK1, .string S1, .slice ps1 N1 cs1, .bool TE1, .string U1] 52)
      have hI2 := hI1.below hbb
      obtain ⟨g0, g1, g2, g3, g4, gz⟩ := cellsX5 (heap_alloc_new w1 (.cells #[.int .i64 TK1, .string S1, .slice ps1 N1 cs1, .bool TE1, .string U1] 52))
      obtain ⟨V, hV⟩ : ∃ V, V = ba tx := ⟨_, rfl⟩
      have hbxI := hI1.box
      rw [← hV] at hbxI
      have HV := Lib.hid hV
      obtain ⟨e0, e1, e2, e3, e4, ez⟩ := cellsE5 hbxI
      obtain ⟨z0, z1, z2, z3, z4, zz⟩ := cellsE5 hI1.res
      have hel := (Array.getElem?_eq_some_iff.1 hI1.box).1
      have hzl := (Array.getElem?_eq_some_iff.1 hI1.res).1
      have HI1 := Lib.hid hI1
      have HI2 := Lib.hid hI2
      have HGO := Lib.hid hgo
      have HTK := Lib.hid htk
      have HAT := Lib.hid (hat.below hbb)
      have HTBB := Lib.hid hTB
      have HAO := Lib.hid hao
      have HS1 := Lib.hid hS1
      have HU1 := Lib.hid hU1
      have HTK1 := Lib.hid hTK1
      have HTE1 := Lib.hid hTE1
      have HN1 := Lib.hid hN1
      have tz : ((0 : Int) != 0) = false := by decide
      clear hat hx1 hc1 hI1 hbb hI2 hgo hTB htk hS1 hU1 hTE1 hN1 hao hV hbxI
      by_cases h3 : t'.kind = 3
      · obtain rfl : TK1 = 3 := by rw [hTK1, h3]; rfl
        have hgk := (HGO.out (by omega)).2
        have HEQ := Lib.hid (show contM xs g L o nm hh (EL.map (·.1)) (tx ++ t'.text) k' = R from by rw [← HM.out, contM_text HTK.out h3])
        have hlen : (tx ++ t'.text).length ≤ 262144 * k' := by have := HTBB.out.text; rw [List.length_append]; omega
        have HLEN := Lib.hid hlen
        have hov : ¬ (9223372036854775807 < V.size + U1.size) := by
          have h8 := HTBB.out.text
          rw [HV.out, HU1.out, ba_size]
          have h9 : (⟨t'.text.toArray⟩ : ByteArray).size = t'.text.length := ba_size _
          rw [h9]
          omega
        have hov2 : ¬ ((9223372036854775807 : Int) < (V.size : Int) + (U1.size : Int)) := by omega
        have HI3 := Lib.hid (HI1.out.text (tx ++ t'.text) (V ++ U1) (by rw [HV.out, HU1.out]; exact ba_app tx t'.text))
        clear hTK1 hlen
        go_wp2_with fail
        have HI4 := Lib.hid (HI3.out.below (box_belT _ (.cells #[.int .i64 3, .string S1, .slice ps1 N1 cs1, .bool TE1, .string U1] 52)))
        go_roundg g
        case measure => omega
        case rel => exact ⟨EL, tx ++ t'.text, k', _, HI4.out, HEQ.out, by omega, hkl, HLEN.out, hEL, by omega⟩
      have n3 : (TK1 == 3) = false := by rw [beq_eq_false_iff_ne]; omega
      by_cases h0 : t'.kind = 0 ∨ (t'.kind = 2 ∧ t'.name ≠ nm)
      · have hRe := HM.out
        rw [contM_nest HTK.out h3 (by omega) (by rintro ⟨h8, h9⟩; rcases h0 with h7 | ⟨_, h7⟩; omega; exact h7 h9)] at hRe
        have HRE := Lib.hid hRe
        by_cases hk0 : t'.kind = 0
        · obtain rfl : TK1 = 0 := by rw [hTK1, hk0]; rfl
          clear hTK1 hRe h0 n3
          go_wp2_with fail
          have hgv := HI1.out.give V HV.out (box_belT _ (.cells #[.int .i64 0, .string S1, .slice ps1 N1 cs1, .bool TE1, .string U1] 52))
          refine bodyPost_ret (results_in _ _ (w.heap.size + 1) _ _ _ _ _ _ _ rfl rfl rfl hgv.1) rfl ?_
          rw [← HRE.out]
          exact ⟨_, rfl, hgv.2.2.2.2, (by decide : (14 : Nat) ≠ 0), hgv.2.2.2.1⟩

        · have h02 : t'.kind = 2 ∧ t'.name ≠ nm := by rcases h0 with h7 | h7; exact absurd h7 hk0; exact h7
          obtain rfl : TK1 = 2 := by rw [hTK1, h02.1]; rfl
          have hne : (S1.toList == S.toList) = false := by
            rw [beq_eq_false_iff_ne, HS1.out, HS.out, ByteArray.toList_eq, ByteArray.toList_eq]
            intro e
            exact h02.2 (by simpa using e)
          have hne2 : (S1.toList != S.toList) = true := by simp only [bne, hne]; rfl
          clear hTK1 hRe h0 h02 n3
          go_wp2_with fail
          have hgv := HI1.out.give V HV.out (box_belT _ (.cells #[.int .i64 2, .string S1, .slice ps1 N1 cs1, .bool TE1, .string U1] 52))
          refine bodyPost_ret (results_in _ _ (w.heap.size + 1) _ _ _ _ _ _ _ rfl rfl rfl hgv.1) rfl ?_
          rw [← HRE.out]
          exact ⟨_, rfl, hgv.2.2.2.2, (by decide : (14 : Nat) ≠ 0), hgv.2.2.2.1⟩

      by_cases h2 : t'.kind = 2
      · have hnm : t'.name = nm := Classical.not_not.1 fun h9 => h0 (.inr ⟨h2, h9⟩)
        obtain rfl : TK1 = 2 := by rw [hTK1, h2]; rfl
        obtain rfl : S1 = S := by rw [HS1.out, HS.out, hnm]
        have hRe := HM.out
        rw [contM_close HTK.out h2 hnm] at hRe
        have HRE := Lib.hid hRe
        have hVs : V.size ≤ 140737488355328 := by rw [HV.out, ba_size]; omega
        have HBL := Lib.hid (fun W => rblank_c W V hVs)
        rw [show blankB V = blankL tx from by rw [HV.out]; rfl] at HBL
        have HD24 := Lib.hid (show 24 - (o + 1) + 1 = 24 - o from by omega)
        clear hTK1 hRe h0 n3 hnm
        by_cases hel0 : EL = []
        · subst hel0
          rw [if_pos (.inl rfl)] at HRE
          clear HBL
          go_wp2_with fail
          have hgv := HI1.out.give V HV.out (box_belT _ (.cells #[.int .i64 2, .string S1, .slice ps1 N1 cs1, .bool TE1, .string U1] 52))
          rw [HD24.out] at hgv
          refine bodyPost_ret (results_in _ _ (w.heap.size + 1) _ _ _ _ _ _ _ rfl rfl rfl hgv.1) rfl ?_
          rw [← HRE.out]
          exact ⟨_, rfl, hgv.2.1, hgv.2.2.1, hgv.2.2.2.1⟩
        · have hl0 : 0 < EL.length := List.length_pos_iff.2 hel0
          cases hbl : blankL tx with
          | false =>
            rw [if_pos (.inr hbl)] at HRE
            rw [hbl] at HBL
            clear hbl
            go_wp2_with fail
            refine (HBL.out _).mono ?_
            rintro e w5 ⟨rfl, rfl⟩
            go_wp2_with fail
            have hgv := HI1.out.give V HV.out (box_belT _ (.cells #[.int .i64 2, .string S1, .slice ps1 N1 cs1, .bool TE1, .string U1] 52))
            rw [HD24.out] at hgv
            refine bodyPost_ret (results_in _ _ (w.heap.size + 1) _ _ _ _ _ _ _ rfl rfl rfl hgv.1) rfl ?_
            rw [← HRE.out]
            exact ⟨_, rfl, hgv.2.1, hgv.2.2.1, hgv.2.2.2.1⟩
          | true =>
            rw [if_neg (by rw [hbl, List.map_eq_nil_iff]; simp [hel0])] at HRE
            rw [hbl] at HBL
            have HI3 := Lib.hid (HI1.out.text [] ⟨#[]⟩ rfl)
            clear hbl
            go_wp2_with fail
            refine (HBL.out _).mono ?_
            rintro e w5 ⟨rfl, rfl⟩
            go_wp2_with fail
            have hgv := HI3.out.give ⟨#[]⟩ rfl (box_belT _ (.cells #[.int .i64 2, .string S1, .slice ps1 N1 cs1, .bool TE1, .string U1] 52))
            rw [HD24.out] at hgv
            refine bodyPost_ret (results_in _ _ (w.heap.size + 1) _ _ _ _ _ _ _ rfl rfl rfl hgv.1) rfl ?_
            rw [← HRE.out]
            exact ⟨_, rfl, hgv.2.1, hgv.2.2.1, hgv.2.2.2.1⟩
      have h1 : t'.kind = 1 := by omega
      obtain rfl : TK1 = 1 := by rw [hTK1, h1]; rfl
      by_cases hfull : 24 ≤ o + 1 ∨ 100 ≤ EL.length
      · have hRe : R = .error (q', 4) := by
          rw [← HM.out]
          by_cases h9 : 100 ≤ EL.length
          · exact contM_full HTK.out h1 (by rw [List.length_map]; exact h9)
          · exact contM_kidE HTK.out h1 (by rw [List.length_map]; exact h9) (by unfold elemW; rw [if_pos (.inl (by omega))])
        have HRE := Lib.hid hRe
        by_cases h24 : 24 ≤ o + 1
        · have hq : decide ((24 : Int) ≤ (o : Int) + 1) = true := decide_eq_true (by omega)
          clear hTK1 hRe h0 n3 h2 hfull
          go_wp2_with fail
          have hgv := HI1.out.give V HV.out (box_belT _ (.cells #[.int .i64 1, .string S1, .slice ps1 N1 cs1, .bool TE1, .string U1] 52))
          refine bodyPost_ret (results_in _ _ (w.heap.size + 1) _ _ _ _ _ _ _ rfl rfl rfl hgv.1) rfl ?_
          rw [HRE.out]
          exact ⟨_, rfl, hgv.2.2.2.2, (by decide : (4 : Nat) ≠ 0), hgv.2.2.2.1⟩
        · have hq : decide ((24 : Int) ≤ (o : Int) + 1) = false := decide_eq_false (by omega)
          have hq2 : decide ((100 : Int) ≤ (EL.length : Int)) = true := decide_eq_true (by omega)
          clear hTK1 hRe h0 n3 h2 hfull
          go_wp2_with fail
          have hgv := HI1.out.give V HV.out (box_belT _ (.cells #[.int .i64 1, .string S1, .slice ps1 N1 cs1, .bool TE1, .string U1] 52))
          refine bodyPost_ret (results_in _ _ (w.heap.size + 1) _ _ _ _ _ _ _ rfl rfl rfl hgv.1) rfl ?_
          rw [HRE.out]
          exact ⟨_, rfl, hgv.2.2.2.2, (by decide : (4 : Nat) ≠ 0), hgv.2.2.2.1⟩
      have hq : decide ((24 : Int) ≤ (o : Int) + 1) = false := decide_eq_false (by omega)
      have hq2 : decide ((100 : Int) ≤ (EL.length : Int)) = false := decide_eq_false (by omega)
      have hEL9 : EL.length ≤ 99 := by omega
      have hn100 : ¬ 100 ≤ (EL.map (·.1)).length := by rw [List.length_map]; omega
      obtain ⟨RK, hRK⟩ : ∃ RK, elemW (fun L' o' nm' h' k' => contM xs g L' o' nm' h' [] [] k') L (o + 1) t' q' k' = RK := ⟨_, rfl⟩
      have hgk := (HGO.out (by omega)).2
      have HK := Lib.hid (HWH.out g (by omega) (w1.alloc (.cells #[.int .i64 1, .string S1, .slice ps1 N1 cs1, .bool TE1, .string U1] 52)) t' q' k' (.slice ps1 N1 cs1) HI2.out.rx (HRBC.out _ HI2.out.ch) HAT.out HTBB.out HAO.out hkl (by omega) (by omega))
      rw [hRK, ← HS1.out, ← HU1.out, ← HTE1.out, ← hTK1, show (((o + 1 : Nat) : Int) + 1) = (o : Int) + 1 + 1 from by omega] at HK
      have hwo : IntKind.i64.wrap ((o : Int) + 1 + 1) = (o : Int) + 1 + 1 := by rw [IntKind.wrap_i64]; omega
      have HBXI := Lib.hid HI2.out.box
      have HRSI := Lib.hid HI2.out.res
      cases RK with
      | error y =>
        have hRe := HM.out
        rw [contM_kidE HTK.out h1 hn100 hRK] at hRe
        have HRE := Lib.hid hRe
        clear hTK1 hRe h0 n3 h2 hfull hRK hn100
        go_wp2_with fail
        refine HK.out.mono ?_
        rintro e w2 ⟨vv, rfl, ⟨S1', S2', q2, m2, d2, q3, m3, d3, S3', rfl⟩, hne, hc⟩
        have hb3 := (hc.block _ (Array.getElem?_eq_some_iff.1 HBXI.out).1 (by simp; omega)).trans HBXI.out
        have hr3 := (hc.block _ (Array.getElem?_eq_some_iff.1 HRSI.out).1 (by simp; omega)).trans HRSI.out
        have HR3 := Lib.hid hr3
        have HC3 := Lib.hid (HI2.out.ch.then hc (fun i hi => .inl hi))
        rw [← HV.out] at hb3
        have tz1 : ((y.2 : Int) == 0) = false := by rw [beq_eq_false_iff_ne]; omega
        have tz2 : ((y.2 : Int) != 0) = true := by simp only [bne, tz1]; rfl
        have HNE := Lib.hid hne
        clear e0 e1 e2 e3 e4 ez z0 z1 z2 z3 z4 zz hel hzl
        obtain ⟨e0, e1, e2, e3, e4, ez⟩ := cellsE5 hb3
        obtain ⟨z0, z1, z2, z3, z4, zz⟩ := cellsE5 hr3
        have hel := (Array.getElem?_eq_some_iff.1 hb3).1
        have hzl := (Array.getElem?_eq_some_iff.1 hr3).1
        clear hb3 hr3 hc hne
        dsimp only
        go_wp2_with fail
        have hend := wh_putC HC3.out HR3.out (.string hh.1) (.string hh.2.1) (.slice pa NA ca) (.slice pv EL.length cv) (.string V)
        have hba := box_belT (put5 w2 (w.heap.size + 1) (.string hh.1) (.string hh.2.1) (.slice pa NA ca) (.slice pv EL.length cv) (.string V)) (.cells #[.string S1', .string S2', .slice q2 m2 d2, .slice q3 m3 d3, .string S3'] 27)
        refine bodyPost_ret (results_in _ _ (w.heap.size + 1) _ _ _ _ _ _ _ rfl rfl rfl ((hba.block _ (Array.getElem?_eq_some_iff.1 hend.1).1).trans hend.1)) rfl ?_
        rw [← HRE.out]
        exact ⟨_, rfl, ⟨_, _, _, _, _, _, _, _, _, rfl⟩, HNE.out, hend.2.then (Chg.of_below hba) (fun i hi => .inl hi)⟩
      | ok y =>
        have hRe := HM.out
        rw [contM_kid HTK.out h1 hn100 hRK] at hRe
        have hxg := kid_goes hkl hRK
        have HRE := Lib.hid hRe
        obtain ⟨T1, hT1⟩ : ∃ T, T = y.1.space := ⟨_, rfl⟩
        obtain ⟨T2, hT2⟩ : ∃ T, T = y.1.name := ⟨_, rfl⟩
        obtain ⟨T3, hT3⟩ : ∃ T, T = y.1.text := ⟨_, rfl⟩
        clear hTK1 hRe h0 n3 h2 hfull hRK hn100
        go_wp2_with fail
        refine HK.out.mono ?_
        rintro e w2 ⟨vv, rfl, ⟨av2, kv2, rfl, hp2, hk2⟩, hx2, hc⟩
        have hI3 := HI2.out.on hx2 hc
        have hrowk := fun b (e9 : (Value.slice pv EL.length cv).ownBlock = some b) => (rowT_lt HI2.out.row b e9).2
        have hel2 := (Array.getElem?_eq_some_iff.1 HRSI.out).1
        have hnb := HI2.out.nb
        have up : ∀ b, (w1.alloc (.cells #[.int .i64 1, .string S1, .slice ps1 N1 cs1, .bool TE1, .string U1] 52)).heap.size ≤ b → b < w2.heap.size → okQ N w.heap.size (.slice pv EL.length cv) b := fun b hb _ => ⟨by omega, by omega, by omega, fun e9 => by have := hrowk b e9; omega⟩
        have hq1 := hp2.mono up
        have hq2 := hk2.mono up
        obtain ⟨q2, d2, hf1, -⟩ := hp2.form
        obtain ⟨q3, d3, hf2, -⟩ := hk2.form
        obtain ⟨m2, hm1⟩ : ∃ m, m = y.1.attrs.length := ⟨_, rfl⟩
        obtain ⟨m3, hm2⟩ : ∃ m, m = y.1.kids.length := ⟨_, rfl⟩
        rw [← hm1] at hf1
        rw [← hm2] at hf2
        subst hf1 hf2
        rw [← hT1, ← hT2, ← hT3]
        have HI3 := Lib.hid hI3
        have HPK := Lib.hid (And.intro hq1 hq2)
        have hbx3 := hI3.box
        have hels := (Array.getElem?_eq_some_iff.1 hbx3).1
        have HT123 := Lib.hid (And.intro hT1 (And.intro hT2 hT3))
        have HOW := Lib.hid hI3.row
        have HSZ3 := Lib.hid (show w.heap.size + 2 ≤ w2.heap.size from by have := (Array.getElem?_eq_some_iff.1 hI3.res).1; omega)
        have HA6 := Lib.hid ((box_belT w2 (.cells #[.string T1, .string T2, .slice q2 m2 d2, .slice q3 m3 d3, .string T3] 27)).trans ((box_belT (w2.alloc (.cells #[.string T1, .string T2, .slice q2 m2 d2, .slice q3 m3 d3, .string T3] 27)) (.cells #[.string T1, .string T2, .slice q2 m2 d2, .slice q3 m3 d3, .string T3] 27)).mono (by simp)))
        rw [← HV.out] at hbx3
        clear e0 e1 e2 e3 e4 ez z0 z1 z2 z3 z4 zz hel hzl
        obtain ⟨e0, e1, e2, e3, e4, ez⟩ := cellsE5 hbx3
        clear hbx3 hI3 hrowk hel2 hnb up hq1 hq2 hp2 hk2 hx2 hc hT1 hT2 hT3 hm1 hm2
        dsimp only
        go_wp2_with (at_builtin; go_loud (refine wpList_append_lies _ (by rfl) _ _ 25 (by rfl) (w.heap.size + 2) 27 i0 (.agg #[.string ⟨#[]⟩, .string ⟨#[]⟩, .slice none 0 0, .slice none 0 0, .string ⟨#[]⟩]) 5 96 Tryz.underlying25 hi hz0 hz1 hz2 rfl (by omega) (.slice pv EL.length cv) EL.length (ecells EL) (by rfl) (rowT_below HOW.out (by first | exact HA6.out | exact HA6.out.drew | exact Go.below_drewN HA6.out _)) ⟨w2.heap.size + 1, 0, none⟩ 1 1 [.string T1, .string T2, .slice q2 m2 d2, .slice q3 m3 d3, .string T3] (by rfl) (by simp) (World.news_of_block (by simpa using heap_alloc_new (w2.alloc (.cells #[.string T1, .string T2, .slice q2 m2 d2, .slice q3 m3 d3, .string T3] 27)) (.cells #[.string T1, .string T2, .slice q2 m2 d2, .slice q3 m3 d3, .string T3] 27))) (by simp [Value.oneCell']) (by omega) (by unfold maxLen; omega) (by omega) (by have := HSZ3.out; simp; omega) (w2.heap.size + 2) (by simp) ?_))
        intro g6 cap6 w6 hown6 hgrow6 hat6 hlt6
        have hpu := RnI.push HI3.out y.1 (.slice q2 m2 d2) (.slice q3 m3 d3) HPK.out.1 HPK.out.2 HA6.out hgrow6 (by rw [← HT123.out.1, ← HT123.out.2.1, ← HT123.out.2.2]; exact hown6) rfl (hat6.imp id fun h9 => by rw [h9]; simp)
        have HPU := Lib.hid hpu.1
        have hbx6 := hpu.2
        rw [← HV.out] at hbx6
        clear e0 e1 e2 e3 e4 ez
        obtain ⟨e0, e1, e2, e3, e4, ez⟩ := cellsE5 hbx6
        have HOM := Lib.hid (show xs.length < g + y.2 ∧ y.2 ≤ xs.length ∧ tx.length ≤ 262144 * y.2 ∧ EL.length + 1 ≤ 100 ∧ g ≤ f ∧ g < g + 1 from ⟨by omega, hxg.2, by omega, by omega, by omega, by omega⟩)
        clear hown6 hgrow6 hat6 hpu hbx6
        go_wp2_with fail
        go_roundg g
        case measure => exact HOM.out.2.2.2.2.2
        case rel => exact ⟨EL ++ [(y.1, .slice q2 m2 d2, .slice q3 m3 d3)], tx, y.2, .slice (some ⟨g6, 0, none⟩) (EL.length + 1) cap6, HPU.out, by rw [List.map_append]; exact HRE.out, HOM.out.1, HOM.out.2.1, HOM.out.2.2.1, by rw [List.length_append]; exact HOM.out.2.2.2.1, HOM.out.2.2.2.2.1⟩
end Go.Proofs.YtpcajjbdlfookaaGreatDoor

/- xmltree: what a document needs before it is walked. -/
namespace Go.Proofs.YtpcajjbdlfookaaGreatDoor
open Go Go.RowKit Go.Deep Go.Shelf
set_option linter.unusedVariables false
set_option linter.unusedSimpArgs false

/-- How a document ends. -/
def DocD (w0 : World) (R : Except (Nat × Nat) ET) (e : Ending) (w' : World) : Prop := match R with
  | .error x => Boom6 x.1 x.2 e ∧ Below w0.heap.size w0 w'
  | .ok x => ∃ v, e = .returned v ∧ ElemD (okN w0.heap.size w') w' 24 v x ∧ Below w0.heap.size w0 w'
/-- The root's box. -/
def RootI (wr : World) (N b : Nat) : Option ET → Prop
  | none => wr.heap[b]? = some ZE
  | some x => ∃ av kv, wr.heap[b]? = some (.cells #[.string x.space, .string x.name, av, kv, .string x.text] 27 (0, 0)) ∧ PairsR (okN N wr) wr av x.attrs ∧ KidsD (okN N wr) wr 24 kv x.kids
theorem RootI.box {wr : World} {N b : Nat} : ∀ {r : Option ET}, RootI wr N b r → ∃ cs, wr.heap[b]? = some (.cells cs 27 (0, 0))
  | none, h => ⟨_, h⟩
  | some x, h => by obtain ⟨av, kv, h1, _⟩ := h; exact ⟨_, h1⟩
theorem RootI.keep {wr w' : World} {N b : Nat} (hs : wr.heap.size ≤ w'.heap.size) (hb : ∀ cs, wr.heap[b]? = some (.cells cs 27 (0, 0)) → w'.heap[b]? = some (.cells cs 27 (0, 0))) (hk : ∀ i, okN N wr i → i < wr.heap.size → w'.heap[i]? = wr.heap[i]? ∧ okN N w' i) : ∀ {r : Option ET}, RootI wr N b r → RootI w' N b r
  | none, h => hb _ h
  | some x, h => by
    obtain ⟨av, kv, h1, h2, h3⟩ := h
    exact ⟨av, kv, hb _ h1, h2.keep hs hk, h3.keep hs hk⟩
/-- While the document is read. -/
structure DoI (w0 : World) (pb b : Nat) (bv : Value) (r : Option ET) (a : Nat) (wr : World) : Prop where
  px : ∃ sv, PX w0 pb bv sv [] a wr
  res : wr.heap[b]? = some ZE
  root : RootI wr (b + 2) (b + 1) r
  low : w0.heap.size ≤ b
theorem DoI.ne {w0 wr : World} {pb b i : Nat} {bv : Value} {r : Option ET} {a : Nat} (H : DoI w0 pb b bv r a wr) {cs : Array Value} {z : Nat × Nat} (h : wr.heap[i]? = some (.cells cs 27 z)) : i ≠ pb := by
  obtain ⟨s0, hx⟩ := H.px
  have hbx := hx.ps.box
  rintro rfl
  rw [h] at hbx
  simp at hbx
theorem DoI.on {w0 wr w' : World} {pb b : Nat} {bv sv : Value} {r : Option ET} {a a' : Nat} (H : DoI w0 pb b bv r a wr) (hp : PX w0 pb bv sv [] a' w') (hk : KpD pb wr w') (hs : wr.heap.size ≤ w'.heap.size) : DoI w0 pb b bv r a' w' := by
  obtain ⟨s0, hx⟩ := H.px
  exact ⟨⟨sv, hp⟩, hk _ _ _ _ (H.ne H.res) (by decide) H.res, H.root.keep hs (fun cs h => hk _ _ _ _ (H.ne h) (by decide) h) (okN_kp hx.ps.box hk), H.low⟩
theorem DoI.below {w0 wr w' : World} {pb b : Nat} {bv : Value} {r : Option ET} {a : Nat} (H : DoI w0 pb b bv r a wr) (hb : Below wr.heap.size wr w') : DoI w0 pb b bv r a w' := by
  obtain ⟨s0, hx⟩ := H.px
  exact H.on (hx.below hb) (KpD.of_below hb) hb.size
/-- The root is stored. -/
theorem DoI.put {w0 wr w' : World} {pb b : Nat} {bv : Value} {a : Nat} (H : DoI w0 pb b bv none a wr) {x : ET × Nat} {e : Ending} (he : EleD w0 wr pb bv [] 0 x e w') (hs : wr.heap.size ≤ w'.heap.size) :
    ∃ av kv, e = .returned (.agg #[.string x.1.space, .string x.1.name, av, kv, .string x.1.text]) ∧ (∃ p c n, av = .slice p n c) ∧ (∃ p c n, kv = .slice p n c) ∧ w'.heap[b + 1]? = some ZE ∧
      DoI w0 pb b bv (some x.1) x.2 (put5 w' (b + 1) (.string x.1.space) (.string x.1.name) av kv (.string x.1.text)) := by
  obtain ⟨v, sv', rfl, ⟨av, kv, rfl, h1, h2⟩, hp, hk⟩ := he
  obtain ⟨p1, c1, hf1, -⟩ := h1.form
  obtain ⟨p2, c2, hf2, -⟩ := h2.form
  have hz : wr.heap[b + 1]? = some ZE := H.root
  have H' := H.on hp hk hs
  have hz' : w'.heap[b + 1]? = some ZE := H'.root
  have hbl := (Array.getElem?_eq_some_iff.1 hz).1
  have hc5 := put5_chg w' (b + 1) (.string x.1.space) (.string x.1.name) av kv (.string x.1.text)
  have hke := KpE.of_chg pb hc5
  have hsz := hc5.size
  have h1' : PairsR (okN (b + 2) w') w' av x.1.attrs := h1.mono (okN_mono (by omega))
  have h2' : KidsD (okN (b + 2) w') w' 24 kv x.1.kids := h2.mono (okN_mono (by omega))
  have hok := okN_ke (N := b + 2) hp.ps.box hz' (by omega) hke
  refine ⟨av, kv, rfl, ⟨_, _, _, hf1⟩, ⟨_, _, _, hf2⟩, hz', ⟨⟨sv', hp.chgT hc5 hz' (by have := H.low; omega)⟩, (hc5.block b (by have := (Array.getElem?_eq_some_iff.1 H'.res).1; omega) (by simp)).trans H'.res, ?_, H.low⟩⟩
  exact ⟨av, kv, put5_at hz' _ _ _ _ _, h1'.keep hsz hok, h2'.keep hsz hok⟩
/-- The root is given back. -/
theorem DoI.give {w0 wr : World} {pb b : Nat} {bv : Value} {a : Nat} {x : ET} (H : DoI w0 pb b bv (some x) a wr) :
    ∃ av kv, (∃ p c n, av = .slice p n c) ∧ (∃ p c n, kv = .slice p n c) ∧ wr.heap[b + 1]? = some (.cells #[.string x.space, .string x.name, av, kv, .string x.text] 27 (0, 0)) ∧
      ∀ ob, ((put5 wr b (.string x.space) (.string x.name) av kv (.string x.text)).alloc ob).heap[b]? = some (.cells #[.string x.space, .string x.name, av, kv, .string x.text] 27 (0, 0)) ∧
        DocD w0 (.ok x) (.returned (.agg #[.string x.space, .string x.name, av, kv, .string x.text])) ((put5 wr b (.string x.space) (.string x.name) av kv (.string x.text)).alloc ob) := by
  obtain ⟨s0, hx⟩ := H.px
  obtain ⟨av, kv, h0, h1, h2⟩ := H.root
  obtain ⟨p1, c1, hf1, -⟩ := h1.form
  obtain ⟨p2, c2, hf2, -⟩ := h2.form
  have hc5 := put5_chg wr b (.string x.space) (.string x.name) av kv (.string x.text)
  have hke := KpE.of_chg pb hc5
  have hsz := hc5.size
  have hok := okN_ke (N := b + 2) hx.ps.box H.res (by omega) hke
  have h5 := put5_at H.res (.string x.space) (.string x.name) av kv (.string x.text)
  refine ⟨av, kv, ⟨_, _, _, hf1⟩, ⟨_, _, _, hf2⟩, h0, fun ob => ?_⟩
  have hbe : Below (put5 wr b (.string x.space) (.string x.name) av kv (.string x.text)).heap.size (put5 wr b (.string x.space) (.string x.name) av kv (.string x.text)) ((put5 wr b (.string x.space) (.string x.name) av kv (.string x.text)).alloc ob) := (Below.refl _ _).alloc (Nat.le_refl _) ob
  refine ⟨(hbe.block b (Array.getElem?_eq_some_iff.1 h5).1).trans h5, _, rfl, ?_, ?_⟩
  · have hN : ElemD (okN (b + 2) (put5 wr b (.string x.space) (.string x.name) av kv (.string x.text))) (put5 wr b (.string x.space) (.string x.name) av kv (.string x.text)) 24 (.agg #[.string x.space, .string x.name, av, kv, .string x.text]) x := ⟨av, kv, rfl, h1.keep hsz hok, h2.keep hsz hok⟩
    have hlow := H.low
    exact (hN.keep hbe.size (okN_below hbe)).mono (okN_mono (by omega))
  · exact (hx.chgT hc5 H.res H.low).ps.bel.trans (hbe.mono (hx.chgT hc5 H.res H.low).ps.bel.size)
theorem docM_bad {xs : List UInt8} {g f : Nat} {r : Option ET} {a : Nat} {x : Nat × Nat} (ht : tokM xs a = .error x) : docM xs g (f + 1) r a = .error x := by
  rw [docM, ht]
theorem docM_openE {xs : List UInt8} {g f : Nat} {a q k : Nat} {t : Tk} (ht : tokM xs a = .ok (t, q, k)) (h1 : t.kind = 1) {x : Nat × Nat} (he : elemM xs g [] 0 t q k = .error x) : docM xs g (f + 1) none a = .error x := by
  rw [docM, ht]
  dsimp only
  rw [if_pos ⟨h1, rfl⟩, he]
theorem docM_open {xs : List UInt8} {g f : Nat} {a q k : Nat} {t : Tk} (ht : tokM xs a = .ok (t, q, k)) (h1 : t.kind = 1) {x : ET × Nat} (he : elemM xs g [] 0 t q k = .ok x) : docM xs g (f + 1) none a = docM xs g f (some x.1) x.2 := by
  rw [docM, ht]
  dsimp only
  rw [if_pos ⟨h1, rfl⟩, he]
theorem docM_blank {xs : List UInt8} {g f : Nat} {r : Option ET} {a q k : Nat} {t : Tk} (ht : tokM xs a = .ok (t, q, k)) (h3 : t.kind = 3) (hb : blankL t.text = true) : docM xs g (f + 1) r a = docM xs g f r k := by
  rw [docM, ht]
  dsimp only
  rw [if_neg (by rintro ⟨h, _⟩; omega), if_pos ⟨h3, hb⟩]
theorem docM_end {xs : List UInt8} {g f : Nat} {x : ET} {a q k : Nat} {t : Tk} (ht : tokM xs a = .ok (t, q, k)) (h0 : t.kind = 0) : docM xs g (f + 1) (some x) a = .ok x := by
  rw [docM, ht]
  dsimp only
  rw [if_neg (by rintro ⟨h, _⟩; omega), if_neg (by rintro ⟨h, _⟩; omega), if_pos h0]
theorem docM_nest {xs : List UInt8} {g f : Nat} {r : Option ET} {a q k : Nat} {t : Tk} (ht : tokM xs a = .ok (t, q, k)) (h1 : ¬ (t.kind = 1 ∧ r.isNone = true)) (h3 : ¬ (t.kind = 3 ∧ blankL t.text = true)) (h0 : ¬ (t.kind = 0 ∧ r.isSome = true)) : docM xs g (f + 1) r a = .error (q, 14) := by
  rw [docM, ht]
  dsimp only
  rw [if_neg h1, if_neg h3]
  cases r with
  | none => rfl
  | some x =>
    dsimp only
    rw [if_neg (fun h => h0 ⟨h, rfl⟩)]
end Go.Proofs.YtpcajjbdlfookaaGreatDoor

/- xmltree: a document, however it ends, over what reads its element. -/
namespace Go.Proofs.YtpcajjbdlfookaaGreatDoor
open Go Go.RowKit Go.Deep Go.Shelf
set_option linter.unusedVariables false
set_option linter.unusedSimpArgs false

set_option maxRecDepth 100000 in
set_option maxHeartbeats 16000000 in
theorem documentW_c {w0 w : World} (hw0 : BW w0) {bv sv : Value} {xs : List UInt8} (hr : Rd w0 bv xs) (hl : xs.length ≤ 65536) {pb : Nat} (h : PX w0 pb bv sv [] 0 w) (f g : Nat) (hf : xs.length < f)
    (HEL : ∀ (W : World) (sv' : Value) (t' : Tk) (q' k' : Nat) (s' : Value) (hx : PX w0 pb bv sv' [] k' W) (hat : AtsIs W s' t'.attrs) (hb : TkB xs.length t') (hk' : k' ≤ xs.length), Calls Tryz.prog 31 #[.pointer (some ⟨pb, 0, none⟩), tokV6 t' s' q', .int .i64 0] W (AftD w0 W pb (elemM xs g [] 0 t' q' k') (EleD w0 W pb bv [] 0))) :
    Calls Tryz.prog 18 #[.pointer (some ⟨pb, 0, none⟩)] w (DocD w0 (docM xs g f none 0)) := by
  obtain ⟨R, hR⟩ : ∃ R, docM xs g f none 0 = R := ⟨_, rfl⟩
  rw [hR]
  obtain ⟨W0, hW0⟩ : ∃ W0, W0 = (w.alloc ZE).alloc ZE := ⟨_, rfl⟩
  have hb2 : Below w.heap.size w W0 := hW0 ▸ ((box_belT w _).trans ((box_belT _ _).mono (by simp)))
  have hsz0 : W0.heap.size = w.heap.size + 2 := by rw [hW0]; simp
  have ha0 : W0.heap[w.heap.size]? = some ZE := hW0 ▸ ((box_belT _ _).block _ (by simp)).trans (heap_alloc_new w _)
  have hz0 : W0.heap[w.heap.size + 1]? = some ZE := by
    have := heap_alloc_new (w.alloc ZE) ZE
    rw [World.size_alloc] at this
    rw [hW0]
    exact this
  have hI0 : DoI w0 pb w.heap.size bv none 0 W0 := ⟨⟨sv, h.below hb2⟩, ha0, hz0, h.ps.bel.size⟩
  have HI0 := Lib.hid hI0
  have HR := Lib.hid hR
  have HW0 := Lib.hid hW0
  have HELH := Lib.hid HEL
  have HNX := Lib.hid (fun (W : World) (sv' : Value) (a : Nat) (hx : PX w0 pb bv sv' [] a W) => pnextD_c hw0 hr (by omega) hx)
  clear HEL hI0 hR hW0 hb2 hsz0 ha0 hz0 h hw0 hr
  go_enter Tryz.func18, Tryz.ntmps18
  go_wp2_with fail
  rw [← HW0.out]
  go_loopg [4] f (fun n v wr => ∃ r a, v = .bool r.isSome ∧ DoI w0 pb w.heap.size bv r a wr ∧ docM xs g n r a = R ∧ xs.length < n + a ∧ a ≤ xs.length)
  case atStart => exact ⟨none, 0, rfl, HI0.out, HR.out, hf, Nat.zero_le _⟩
  case round =>
    obtain ⟨r, a, rfl, hI, hM, hfa, hax⟩ := hrel
    obtain ⟨n, rfl⟩ : ∃ n, gk = n + 1 := ⟨gk - 1, by omega⟩
    obtain ⟨sv1, hx⟩ := hI.px
    have HN := Lib.hid (HNX.out _ _ _ hx)
    have HI := Lib.hid hI
    have HM := Lib.hid hM
    clear hI hM hx
    go_wp2_with fail
    refine HN.out.mono ?_
    rintro e w1 hn
    unfold AftD at hn
    cases htk : tokM xs a with
    | error x =>
      rw [htk] at hn
      obtain ⟨hbm, hk1, hbl1⟩ := hn
      have hRe := HM.out
      rw [docM_bad htk] at hRe
      have HC := Lib.hid (show DocD w0 R e w1 from by rw [← hRe]; exact ⟨hbm, hbl1⟩)
      unfold Boom6 at hbm
      subst hbm
      clear hRe hk1 hbl1
      dsimp only
      exact ⟨rfl, HC.out⟩
    | ok x =>
      obtain ⟨t', q', k'⟩ := x
      rw [htk] at hn
      obtain ⟨⟨s', rfl, hat, hx1, hk1⟩, hsz1⟩ := hn
      dsimp only at hat hx1
      have hI1 := HI.out.on hx1 hk1 hsz1
      have hTB := tokM_lenB htk
      have hkl := tokM_le htk
      have hgo := tokM_goes htk hax
      obtain ⟨ps1, cs1, hsv1, -⟩ := hat.form
      obtain ⟨N1, hN1⟩ : ∃ N1, N1 = t'.attrs.length := ⟨_, rfl⟩
      obtain ⟨S1, hS1⟩ : ∃ S : ByteArray, S = ⟨t'.name.toArray⟩ := ⟨_, rfl⟩
      obtain ⟨U1, hU1⟩ : ∃ U : ByteArray, U = ⟨t'.text.toArray⟩ := ⟨_, rfl⟩
      obtain ⟨TK1, hTK1⟩ : ∃ TK : Int, TK = (t'.kind : Nat) := ⟨_, rfl⟩
      obtain ⟨TE1, hTE1⟩ : ∃ TE, TE = t'.empty := ⟨_, rfl⟩
      rw [← hN1] at hsv1
      subst hsv1
      unfold tokV6
      dsimp only
      rw [← hS1, ← hU1, ← hTK1, ← hTE1]
      have hbb := box_belT w1 (.cells #[.int .i64 TK1, .string S1, .slice ps1 N1 cs1, .bool TE1, .string U1, .int .i64 (q' : Nat)] 69)
      have hI2 := hI1.below hbb
      obtain ⟨g0, g1, g2, g3, g4, g5, gz⟩ := cellsE6 (heap_alloc_new w1 (.cells #[.int .i64 TK1, .string S1, .slice ps1 N1 cs1, .bool TE1, .string U1, .int .i64 (q' : Nat)] 69))
      have HI2 := Lib.hid hI2
      have HI1 := Lib.hid hI1
      have HGO := Lib.hid hgo
      have HTK := Lib.hid htk
      have HX2 := Lib.hid (hx1.below hbb)
      have HNW := Lib.hid (heap_alloc_new w1 (.cells #[.int .i64 TK1, .string S1, .slice ps1 N1 cs1, .bool TE1, .string U1, .int .i64 (q' : Nat)] 69))
      have HU1 := Lib.hid hU1
      have HTK1 := Lib.hid hTK1
      have hUs : U1.size ≤ 140737488355328 := by
        have := hTB.text
        rw [hU1]
        show t'.text.toArray.size ≤ _
        simp
        omega
      have HBL := Lib.hid (fun W => blank_c W U1 hUs)
      rw [show blankB U1 = blankL t'.text from by rw [hU1]; rfl] at HBL
      have HEL0 := Lib.hid (HELH.out (w1.alloc (.cells #[.int .i64 TK1, .string S1, .slice ps1 N1 cs1, .bool TE1, .string U1, .int .i64 (q' : Nat)] 69)) _ t' q' k' (.slice ps1 N1 cs1) (hx1.below hbb) (hat.below hbb) hTB hkl)
      unfold tokV6 at HEL0
      rw [← hS1, ← hU1, ← hTE1, ← hTK1] at HEL0
      have HFL := Lib.hid (fun (hRe : R = .error (q', 14)) => (tfail_c (w1.alloc (.cells #[.int .i64 TK1, .string S1, .slice ps1 N1 cs1, .bool TE1, .string U1, .int .i64 (q' : Nat)] 69)) (.int .i64 TK1) (.string S1) (.slice ps1 N1 cs1) (.bool TE1) (.string U1) q' 14).mono (R' := fun e w' => Boom6 q' 14 e ∧ DocD w0 R e w') (fun e w' hh => ⟨hh.1, by
          rw [hRe]
          exact ⟨hh.1, HX2.out.ps.bel.trans (hh.2.mono HX2.out.ps.bel.size)⟩⟩))
      have HDM := Lib.hid (show docM xs g (n + 1) r a = R from HM.out)
      clear hat hx1 hk1 hsz1 hI1 hbb hI2 hgo hTB htk hUs hS1 hU1 hTE1 hN1
      by_cases h3 : t'.kind = 3
      · obtain rfl : TK1 = 3 := by rw [hTK1, h3]; rfl
        have hgk := (HGO.out (by omega)).2
        cases hbl : blankL t'.text with
        | true =>
          rw [hbl] at HBL
          have HEQ := Lib.hid (show docM xs g n r k' = R from by rw [← HDM.out, docM_blank HTK.out h3 hbl])
          clear hTK1 hbl
          go_wp2_with fail
          refine (HBL.out _).mono ?_
          rintro e w5 ⟨rfl, rfl⟩
          go_wp2_with fail
          go_roundg n
          case measure => omega
          case rel => exact ⟨r, k', rfl, HI2.out, HEQ.out, by omega, hkl⟩
        | false =>
          rw [hbl] at HBL
          have HF2 := Lib.hid (HFL.out (by rw [← HDM.out, docM_nest HTK.out (by rintro ⟨h9, _⟩; omega) (by rintro ⟨_, h9⟩; rw [hbl] at h9; cases h9) (by rintro ⟨h9, _⟩; omega)]))
          clear hTK1 hbl
          go_wp2_with fail
          refine (HBL.out _).mono ?_
          rintro e w5 ⟨rfl, rfl⟩
          go_wp2_with fail
          refine HF2.out.mono ?_
          rintro e w2 ⟨hbm, hc⟩
          unfold Boom6 at hbm
          subst hbm
          have HC := Lib.hid hc
          clear hc
          dsimp only
          exact ⟨rfl, HC.out⟩
      have n3 : (TK1 == 3) = false := by rw [beq_eq_false_iff_ne]; omega
      have m3 : (TK1 != 3) = true := by simp only [bne, n3]; rfl
      by_cases h1 : t'.kind = 1 ∧ r = none
      · obtain ⟨h1, rfl⟩ := h1
        obtain rfl : TK1 = 1 := by rw [hTK1, h1]; rfl
        have hgk := (HGO.out (by omega)).2
        obtain ⟨RK, hRK⟩ : ∃ RK, elemM xs g [] 0 t' q' k' = RK := ⟨_, rfl⟩
        rw [hRK] at HEL0
        cases RK with
        | error x =>
          have hRe := HDM.out
          rw [docM_openE HTK.out h1 hRK] at hRe
          have HRE := Lib.hid hRe
          clear hTK1 hRe hRK n3 m3
          go_wp2_with fail
          refine HEL0.out.mono ?_
          rintro e w2 ⟨hbm, hk2, hbl2⟩
          have HC := Lib.hid (show DocD w0 R e w2 from by rw [← HRE.out]; exact ⟨hbm, hbl2⟩)
          unfold Boom6 at hbm
          subst hbm
          clear hk2 hbl2
          dsimp only
          exact ⟨rfl, HC.out⟩
        | ok x =>
          have hRe := HDM.out
          rw [docM_open HTK.out h1 hRK] at hRe
          have hxg := elem_goes hkl (show elemM xs g [] 0 t' q' k' = .ok (x.1, x.2) from hRK)
          have HRE := Lib.hid hRe
          have hpt : w1.heap.size ≠ pb := by have := HX2.out.ps.box; rintro rfl; rw [HNW.out] at this; simp at this
          clear hTK1 hRe hRK n3 m3
          go_wp2_with fail
          refine HEL0.out.mono ?_
          rintro e w2 he
          have he' : EleD w0 _ pb bv [] 0 x e w2 := he
          have hsz2 : (w1.alloc (.cells #[.int .i64 1, .string S1, .slice ps1 N1 cs1, .bool TE1, .string U1, .int .i64 (q' : Nat)] 69)).heap.size ≤ w2.heap.size := by
            obtain ⟨_, _, _, _, _, hk⟩ := he'
            have := (Array.getElem?_eq_some_iff.1 (hk _ _ _ _ hpt (by decide) HNW.out)).1
            rw [World.size_alloc]
            omega
          obtain ⟨av, kv, he2, ⟨p1, c1, n1, rfl⟩, ⟨p2, c2, n2, rfl⟩, hz2, hI3⟩ := HI2.out.put he' hsz2
          subst he2
          have HI3 := Lib.hid hI3
          obtain ⟨z0, z1, z2, z3, z4, zz⟩ := cellsE5 hz2
          clear hI3 hz2 hsz2 he he' g0 g1 g2 g3 g4 g5 gz
          dsimp only
          go_wp2_with fail
          go_roundg n
          case measure => omega
          case rel => exact ⟨some x.1, x.2, rfl, HI3.out, HRE.out, by omega, by omega⟩
      by_cases h0 : t'.kind = 0 ∧ r.isSome = true
      · obtain ⟨h0, hs⟩ := h0
        obtain rfl : TK1 = 0 := by rw [hTK1, h0]; rfl
        cases r with
        | none => cases hs
        | some x =>
          have hRe := HDM.out
          rw [docM_end HTK.out h0] at hRe
          have HRE := Lib.hid hRe
          obtain ⟨av, kv, ⟨p1, c1, n1, rfl⟩, ⟨p2, c2, n2, rfl⟩, hb1, hgv⟩ := HI1.out.give
          have HGV := Lib.hid (hgv (.cells #[.int .i64 0, .string S1, .slice ps1 N1 cs1, .bool TE1, .string U1, .int .i64 (q' : Nat)] 69))
          obtain ⟨r0, r1, r2, r3, r4, rz⟩ := cellsE5 hb1
          obtain ⟨e0, e1, e2, e3, e4, ez⟩ := cellsE5 HI1.out.res
          have hal4 := (Array.getElem?_eq_some_iff.1 HI1.out.res).1
          have hal5 := (Array.getElem?_eq_some_iff.1 hb1).1
          clear hTK1 hRe n3 m3 hb1 hgv
          go_wp2_with fail
          refine bodyPost_ret (results_cell_row Tryz.results18 _ _ w.heap.size 27 _ (0, 0) _ rfl HGV.out.1 Tryz.underlying27 rfl infoE5) rfl ?_
          rw [← HRE.out]
          exact HGV.out.2
      have HF2 := Lib.hid (HFL.out (by rw [← HDM.out, docM_nest HTK.out (by rintro ⟨h9, h8⟩; exact h1 ⟨h9, by cases r with | none => rfl | some x => cases h8⟩) (by rintro ⟨h9, _⟩; exact h3 h9) h0]))
      by_cases hk1 : t'.kind = 1
      · obtain rfl : TK1 = 1 := by rw [hTK1, hk1]; rfl
        obtain ⟨x, rfl⟩ : ∃ x, r = some x := by cases r with | none => exact absurd ⟨hk1, rfl⟩ h1 | some x => exact ⟨x, rfl⟩
        clear hTK1 h1 h0 h3 n3 m3
        go_wp2_with fail
        refine HF2.out.mono ?_
        rintro e w2 ⟨hbm, hc⟩
        unfold Boom6 at hbm
        subst hbm
        have HC := Lib.hid hc
        clear hc
        dsimp only
        exact ⟨rfl, HC.out⟩
      have n1 : (TK1 == 1) = false := by rw [beq_eq_false_iff_ne]; omega
      by_cases hk0 : t'.kind = 0
      · obtain rfl : TK1 = 0 := by rw [hTK1, hk0]; rfl
        obtain rfl : r = none := by cases r with | none => rfl | some x => exact absurd ⟨hk0, rfl⟩ h0
        clear hTK1 h1 h0 h3 n3 m3 n1
        go_wp2_with fail
        refine HF2.out.mono ?_
        rintro e w2 ⟨hbm, hc⟩
        unfold Boom6 at hbm
        subst hbm
        have HC := Lib.hid hc
        clear hc
        dsimp only
        exact ⟨rfl, HC.out⟩
      have n0 : (TK1 == 0) = false := by rw [beq_eq_false_iff_ne]; omega
      clear hTK1 h1 h0 h3
      go_wp2_with fail
      refine HF2.out.mono ?_
      rintro e w2 ⟨hbm, hc⟩
      unfold Boom6 at hbm
      subst hbm
      have HC := Lib.hid hc
      clear hc
      dsimp only
      exact ⟨rfl, HC.out⟩
end Go.Proofs.YtpcajjbdlfookaaGreatDoor
