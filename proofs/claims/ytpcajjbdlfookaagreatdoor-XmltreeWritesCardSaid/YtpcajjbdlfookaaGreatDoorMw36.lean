/- xmltree: the writer: element. Written by tools/genuh.py. -/
import Derived.Test.YtpcajjbdlfookaaGreatDoorMw33
import Derived.Test.YtpcajjbdlfookaaGreatDoorMw35
namespace Go.Proofs.YtpcajjbdlfookaaGreatDoor
open Go Go.RowKit Go.Deep
set_option linter.unusedVariables false
set_option linter.unusedSimpArgs false

theorem PutE.below {W0 Z wr W : World} {wb : Nat} {L : List UInt8} (h : PutE W0 wb Z L wr) (hb : Below wr.heap.size wr W) : PutE W0 wb Z L W := by
  obtain ⟨⟨xs, v, f, hx⟩, hk, h0⟩ := h
  exact ⟨⟨xs, v, f, hx.below hb⟩, hk.trans (Kp.of_below hb), h0.trans (hb.mono h0.size)⟩
theorem PutE.attr {W0 Z wr W : World} {wb : Nat} {L : List UInt8} (h : PutE W0 wb Z L wr) (hb : Below wr.heap.size wr W) (nm s : ByteArray) (hn : nm.size ≤ 1152921504606846976) :
    Calls Tryz.prog 42 #[.pointer (some ⟨wb, 0, none⟩), .string nm, .string s] W fun e w' => e = .returned (.tuple #[]) ∧ PutE W0 wb Z (L ++ attD nm.data.toList s.data.toList) w' := by
  obtain ⟨⟨xs, v, f, hx⟩, hk, h0⟩ := h.below hb
  exact (wattribute_c h0 hx nm s hn).mono fun e w' hh => ⟨hh.1, hh.2.step hk⟩
theorem PutE.text {W0 Z wr W : World} {wb : Nat} {L : List UInt8} (h : PutE W0 wb Z L wr) (hb : Below wr.heap.size wr W) (s : ByteArray) :
    Calls Tryz.prog 45 #[.pointer (some ⟨wb, 0, none⟩), .string s] W fun e w' => e = .returned (.tuple #[]) ∧ PutE W0 wb Z (L ++ escF s.data.toList) w' := by
  obtain ⟨⟨xs, v, f, hx⟩, hk, h0⟩ := h.below hb
  exact (wtext_c h0 hx s).mono fun e w' hh => ⟨hh.1, hh.2.step hk⟩
theorem PutE.puts {W0 Z wr : World} {wb n pb : Nat} {L : List UInt8} {cs : Array Value} (h : PutE W0 wb Z L wr) (hpb : pb = wr.heap.size) (parts : List ByteArray) (hcs : cs = (parts.map Value.string).toArray) (hn : n = parts.length) (hl : parts.length ≤ 1000) (hsz : ∀ k (h : k < parts.length), parts[k].size ≤ 1152921504606846976) :
    Calls Tryz.prog 41 #[.pointer (some ⟨wb, 0, none⟩), .slice (some ⟨pb, 0, none⟩) n n] (wr.alloc (.cells cs 9)) fun e w' => e = .returned (.tuple #[]) ∧ PutE W0 wb Z (L ++ parts.flatMap (fun s => s.data.toList)) w' := by
  subst hpb
  obtain ⟨⟨xs, v, f, hx⟩, hk, h0⟩ := h
  exact (put_new parts hcs hn h0 hx (Below.refl _ _) hl hsz).mono fun e w' hh => ⟨hh.1, hh.2.step hk⟩
theorem PutE.box {W0 Z wr : World} {wb eb : Nat} {L : List UInt8} {cs : Array Value} {T : TypeId} {z : Nat × Nat} (h : PutE W0 wb Z L wr) (hx : Z.heap[eb]? = some (.cells cs T z)) (he : eb ≠ wb) (hT : 5 ≠ T) : wr.heap[eb]? = some (.cells cs T z) := h.2.1 eb cs T z he hT hx
theorem canK_parts {d : Nat} {t : ET} (h : canK (d + 1) t = true) : t.attrs.length ≤ 100 ∧ ∀ k (hk : k < t.kids.length), canK d t.kids[k] = true := by
  unfold canK at h
  simp only [Bool.and_eq_true, decide_eq_true_eq] at h
  exact ⟨h.1.1.1.1.1.1.1.1.1.2, fun k hk => List.all_eq_true.1 h.2 _ (List.getElem_mem hk)⟩
theorem docT_succ (d : Nat) (t : ET) (ar : ByteArray) : docT (d + 1) t ar = if (t.text.toList.isEmpty && t.kids.isEmpty) = true then headD t ar ++ [47, 62] else headD t ar ++ [62] ++ escF t.text.data.toList ++ t.kids.flatMap (fun k => docT d k t.space) ++ [60, 47] ++ t.name.data.toList ++ [62] := rfl
theorem one_part {s : ByteArray} (h : s.size ≤ 1152921504606846976) : ∀ k (hk : k < [s].length), [s][k].size ≤ 1152921504606846976 := by
  intro k hk
  match k, hk with
  | 0, _ => exact h
theorem parts2 {s t : ByteArray} (h : s.size ≤ 1152921504606846976) (h2 : t.size ≤ 1152921504606846976) : ∀ k (hk : k < [s, t].length), [s, t][k].size ≤ 1152921504606846976 := by
  intro k hk
  match k, hk with
  | 0, _ => exact h
  | 1, _ => exact h2
theorem parts3 {s t u : ByteArray} (h : s.size ≤ 1152921504606846976) (h2 : t.size ≤ 1152921504606846976) (h3 : u.size ≤ 1152921504606846976) : ∀ k (hk : k < [s, t, u].length), [s, t, u][k].size ≤ 1152921504606846976 := by
  intro k hk
  match k, hk with
  | 0, _ => exact h
  | 1, _ => exact h2
  | 2, _ => exact h3

set_option maxRecDepth 100000 in
set_option maxHeartbeats 16000000 in
theorem welement_c (W0 : World) : ∀ (D : Nat) (w Z0 : World) (v : Value) (t : ET) (ar : ByteArray) (wb : Nat) (L : List UInt8) (c : Nat), ElemD Any W0 D v t → smK D t → canK c t = true → PutE W0 wb Z0 L w →
    Calls Tryz.prog 24 #[.pointer (some ⟨wb, 0, none⟩), v, .string ar] w fun e w' => e = .returned (.tuple #[]) ∧ PutE W0 wb Z0 (L ++ docT D t ar) w' := by
  intro D
  induction D with
  | zero => rintro w Z0 v t ar wb L c ⟨av, kv, _, _, h⟩; exact h.elim
  | succ D ih =>
    intro w Z0 v t ar wb L c h hsm hcan hpe
    have HIH := Lib.hid ih
    obtain ⟨av, kv, rfl, hpr, hkd⟩ := h
    obtain ⟨pa, ca, hav, hla0, hcm0⟩ := hpr.form
    obtain ⟨N, hN⟩ : ∃ N, N = t.attrs.length := ⟨_, rfl⟩
    rw [← hN] at hav
    subst hav
    obtain ⟨ka, kc, hkv, hlk0, hckm, -, hrows⟩ := hkd
    obtain ⟨M, hM⟩ : ∃ M, M = t.kids.length := ⟨_, rfl⟩
    rw [← hM] at hkv
    subst hkv
    have HPR := Lib.hid hpr
    have HROW := Lib.hid hrows
    have HN := Lib.hid hN
    have HM := Lib.hid hM
    have hnM : M ≤ 9223372036854775807 := by unfold maxLen at hckm; omega
    obtain ⟨S1, hS1⟩ : ∃ S, S = t.space := ⟨_, rfl⟩
    obtain ⟨S2, hS2⟩ : ∃ S, S = t.name := ⟨_, rfl⟩
    obtain ⟨S3, hS3⟩ : ∃ S, S = t.text := ⟨_, rfl⟩
    rw [← hS1, ← hS2, ← hS3]
    obtain ⟨m1, m2, m3, m4, m5⟩ := hsm
    obtain ⟨m0, hck⟩ : t.attrs.length ≤ 100 ∧ ∃ c', ∀ k (hk : k < t.kids.length), canK c' t.kids[k] = true := by
      cases c with
      | zero => cases hcan
      | succ c => exact ⟨(canK_parts hcan).1, c, (canK_parts hcan).2⟩
    obtain ⟨c', hck⟩ := hck
    have HCK := Lib.hid hck
    have HSA := Lib.hid m4
    have HSK := Lib.hid m5
    rw [← hN] at m0
    rw [← hS1] at m1
    rw [← hS2] at m2
    rw [← hS3] at m3
    obtain ⟨Z, hZ⟩ : ∃ Z, Z = w.alloc (.cells #[.string S1, .string S2, .slice pa N ca, .slice ka M kc, .string S3] 27) := ⟨_, rfl⟩
    have hwZ : Below w.heap.size w Z := hZ ▸ box_belT w _
    have hbz : Z.heap[w.heap.size]? = some (.cells #[.string S1, .string S2, .slice pa N ca, .slice ka M kc, .string S3] 27 (0, 0)) := hZ ▸ heap_alloc_new w _
    have HBZ := Lib.hid hbz
    have HKZ := Lib.hid (hpe.2.1.trans (Kp.of_below hwZ))
    have HNE := Lib.hid (show w.heap.size ≠ wb from by obtain ⟨⟨xs, v, f, hx⟩, -⟩ := hpe; have := hx.lt; omega)
    have hp0 : PutE W0 wb Z L Z := by
      obtain ⟨a, -, c⟩ := hpe.below hwZ
      exact ⟨a, Kp.refl _ _, c⟩
    have HP1 := Lib.hid (hp0.puts (pb := w.heap.size + 1) (cs := #[.string ⟨#[60]⟩, .string S2]) (n := 2) (by rw [hZ]; simp) [⟨#[60]⟩, S2] rfl rfl (by simp) (parts2 (by show (1 : Nat) ≤ 1152921504606846976; omega) (by omega)))
    obtain ⟨bq, tq⟩ : ∃ b, (S1.toList == ar.toList) = b := ⟨_, rfl⟩
    obtain ⟨b7, t7⟩ : ∃ b, S3.toList.isEmpty = b := ⟨_, rfl⟩
    have HNS := Lib.hid (show nsD S1 ar = if bq = true then [] else attD [120, 109, 108, 110, 115] S1.data.toList from by unfold nsD; rw [tq])
    have HD := Lib.hid (show docT (D + 1) t ar = if (b7 && t.kids.isEmpty) = true then ([60] ++ S2.data.toList ++ nsD S1 ar ++ enumK dclD t.attrs N ++ enumK valD t.attrs N) ++ [47, 62] else ([60] ++ S2.data.toList ++ nsD S1 ar ++ enumK dclD t.attrs N ++ enumK valD t.attrs N) ++ [62] ++ escF S3.data.toList ++ t.kids.flatMap (fun k => docT D k S1) ++ [60, 47] ++ S2.data.toList ++ [62] from by
      rw [docT_succ]
      unfold headD
      rw [← hS1, ← hS2, ← hS3, ← hN, t7])
    obtain ⟨LD, hLD⟩ : ∃ LD, LD = docT (D + 1) t ar := ⟨_, rfl⟩
    rw [← hLD] at HD ⊢
    clear ih hpr hrows hN hM hS1 hS2 hS3 hla0 hcm0 hlk0 hckm m4 m5 hwZ hbz hp0 hpe hLD hck hcan
    subst hZ
    go_enter Tryz.func24, Tryz.ntmps24
    go_wp2_with fail
    refine (HP1.out).mono ?_
    rintro e w1 ⟨rfl, hp1⟩
    have HP := Lib.hid hp1
    obtain ⟨c0, c1, c2, c3, c4, cz⟩ := box5b (hp1.box HBZ.out HNE.out (by decide)) (Below.refl _ _)
    clear hp1
    cases bq
    rotate_left
    · have HL1 := Lib.hid (HP.out.cast (L' := L ++ ([60] ++ S2.data.toList ++ nsD S1 ar ++ enumK dclD t.attrs 0)) (by rw [HNS.out]; simp [enumK]))
      go_wp2_with fail
      clear c0 c1 c2 c3 c4 cz
      go_loopw [28] (fun i wr => ∃ k : Nat, k ≤ N ∧ i = .int .i64 k ∧ Hid (PutE W0 wb (w.alloc (.cells #[.string S1, .string S2, .slice pa N ca, .slice ka M kc, .string S3] 27)) (L ++ ([60] ++ S2.data.toList ++ nsD S1 ar ++ enumK dclD t.attrs k)) wr)) (fun i _ => N - (intOf i).toNat)
      case atStart => exact ⟨0, by omega, rfl, HL1⟩
      case round =>
        obtain ⟨k, hk, rfl, HPW⟩ := hrel
        have hp := HPW.out
        obtain ⟨c0, c1, c2, c3, c4, cz⟩ := box5b (hp.box HBZ.out HNE.out (by decide)) (Below.refl _ _)
        have hlb : w.heap.size < wr.heap.size := (Array.getElem?_eq_some_iff.1 (hp.box HBZ.out HNE.out (by decide))).1
        clear hp
        by_cases hlt : k < N
        · have hkl : k < t.attrs.length := by rw [← HN.out]; exact hlt
          obtain ⟨b, o, cc, hv2, hbl, -, g0, g1, g2⟩ := HPR.out.at' hkl
          rw [← HN.out] at hv2
          cases hv2
          have e0 := (HPW.out.2.2.cell (p := ⟨b, o + k * 3, none⟩) hbl).trans g0
          have e1 := (HPW.out.2.2.cell (p := ⟨b, o + k * 3 + 1, none⟩) hbl).trans g1
          have e2 := (HPW.out.2.2.cell (p := ⟨b, o + k * 3 + 2, none⟩) hbl).trans g2
          have HEN := Lib.hid (enumK_next (f := dclD) hkl)
          have HSX := Lib.hid (HSA.out k hkl)
          generalize t.attrs[k] = x at *
          obtain ⟨n1, n2, n3⟩ := x
          dsimp only at e0 e1 e2
          clear g0 g1 g2 hkl
          have hki : k ≤ 1048576 := by omega
          have HBA := Lib.hid (box_belT wr (.cells #[.string n1, .string n2, .string n3] 58))
          obtain ⟨b1, t1⟩ : ∃ b, n1.toList.isEmpty = b := ⟨_, rfl⟩
          obtain ⟨b2, t2⟩ : ∃ b, (n1.toList == [104, 116, 116, 112, 58, 47, 47, 119, 119, 119, 46, 119, 51, 46, 111, 114, 103, 47, 88, 77, 76, 47, 49, 57, 57, 56, 47, 110, 97, 109, 101, 115, 112, 97, 99, 101]) = b := ⟨_, rfl⟩
          have HQ := Lib.hid (show dclD k (n1, n2, n3) = if b1 = true then [] else if b2 = true then [] else attD ([120, 109, 108, 110, 115, 58] ++ pfxD k) n1.data.toList from by unfold dclD; rw [t1, t2])
          cases b1
          rotate_left
          · have HE := Lib.hid ((HPW.out.below HBA.out).cast (L' := L ++ ([60] ++ S2.data.toList ++ nsD S1 ar ++ enumK dclD t.attrs (k + 1))) (by rw [HEN.out, HQ.out]; simp))
            go_wp2_with fail
            go_roundw
            case rel => exact ⟨k + 1, by omega, by go_num, HE⟩
            case measure => simp [intOf]; omega
          cases b2
          rotate_left
          · have HE := Lib.hid ((HPW.out.below HBA.out).cast (L' := L ++ ([60] ++ S2.data.toList ++ nsD S1 ar ++ enumK dclD t.attrs (k + 1))) (by rw [HEN.out, HQ.out]; simp))
            go_wp2_with fail
            go_roundw
            case rel => exact ⟨k + 1, by omega, by go_num, HE⟩
            case measure => simp [intOf]; omega
          have HPX := Lib.hid (fun W => prefix_c W k hki)
          have hpl := pfxD_len k hki
          obtain ⟨P, hP⟩ : ∃ P : ByteArray, P = ⟨(pfxD k).toArray⟩ := ⟨_, rfl⟩
          have hps : P.size ≤ 26 := by rw [hP]; exact hpl
          have HPD := Lib.hid (show P.data.toList = pfxD k from by rw [hP])
          rw [← hP] at HPX
          clear hpl hP
          obtain ⟨X, hX⟩ : ∃ X : ByteArray, (⟨#[120, 109, 108, 110, 115, 58]⟩ : ByteArray) ++ P = X := ⟨_, rfl⟩
          have HXS := Lib.hid (show X.size ≤ 1152921504606846976 from by rw [← hX, ByteArray.size_append]; have : (ByteArray.mk #[120, 109, 108, 110, 115, 58]).size = 6 := rfl; omega)
          have HXD := Lib.hid (show X.data.toList = [120, 109, 108, 110, 115, 58] ++ pfxD k from by rw [← hX, ByteArray.data_append, Array.toList_append, HPD.out])
          have hov : ¬ (9223372036854775807 < 6 + P.size) := by omega
          have HAT := Lib.hid (fun (W : World) (hb : Below (wr.alloc (.cells #[.string n1, .string n2, .string n3] 58)).heap.size (wr.alloc (.cells #[.string n1, .string n2, .string n3] 58)) W) => (HPW.out.below HBA.out).attr hb X n1 HXS.out)
          go_wp2_with fail
          have HKP := Lib.hid (fun (W : World) (hb : Below (wr.alloc (.cells #[.string n1, .string n2, .string n3] 58)).heap.size (wr.alloc (.cells #[.string n1, .string n2, .string n3] 58)) W) => show W.cell? ⟨wr.heap.size, 0, none⟩ = some (.string n1) ∧ Below (wr.alloc (.cells #[.string n1, .string n2, .string n3] 58)).heap.size (wr.alloc (.cells #[.string n1, .string n2, .string n3] 58)) W from ⟨(box3 hb).1, hb⟩)
          refine wp_region_cut (S := (fun W => W.cell? ⟨wr.heap.size, 0, none⟩ = some (.string n1) ∧ Below (wr.alloc (.cells #[.string n1, .string n2, .string n3] 58)).heap.size (wr.alloc (.cells #[.string n1, .string n2, .string n3] 58)) W)) 6 (by kernel_rfl) (by kernel_rfl) ?_ (fun hHeld => ?_)
          · (try dsimp only)
            (first | exact HKP.out _ ((Below.refl _ _).drew) | exact HKP.out _ HB1.out | exact HKP.out _ HB1.out.drew | exact HKP.out _ (Go.below_drewN HB1.out _))
          simp only [List.take_succ_cons, List.take_zero]
          (try dsimp only at hHeld)
          all_goals (repeat (first
                 | (refine wpAnyH_take (i := 0) (v := ?_) rfl (by decide +kernel) (by decide +kernel) (by decide +kernel) (fun _ _ _ h => h) (Or.inl ⟨by rfl, ?_⟩) (by assumption) ?_; rotate_left 1; (focus (intro w hSw; (try dsimp only at hSw); (try simp only [List.getElem_toArray, List.getElem_cons_zero]); first | (go_simp; done) | (go_simp; with_reducible rfl))); (try simp only [Act.put, List.getElem_toArray, List.getElem_cons_zero, List.setIfInBounds_toArray, List.set_cons_zero, List.set_cons_succ]))
                 | (refine wpAnyH_take (i := 1) (v := ?_) rfl (by decide +kernel) (by decide +kernel) (by decide +kernel) (fun _ _ _ h => h) (Or.inl ⟨by rfl, ?_⟩) (by assumption) ?_; rotate_left 1; (focus (intro w hSw; (try dsimp only at hSw); (try simp only [List.getElem_toArray, List.getElem_cons_succ, List.getElem_cons_zero]); first | (go_simp; done) | (go_simp; with_reducible rfl))); (try simp only [Act.put, List.getElem_toArray, List.getElem_cons_succ, List.getElem_cons_zero, List.setIfInBounds_toArray, List.set_cons_zero, List.set_cons_succ]))
                 | (refine wpAnyH_take (i := 4) (v := ?_) rfl (by decide +kernel) (by decide +kernel) (by decide +kernel) (fun _ _ _ h => h) (Or.inl ⟨by rfl, ?_⟩) (by assumption) ?_; rotate_left 1; (focus (intro w hSw; (try dsimp only at hSw); (try simp only [List.getElem_toArray, List.getElem_cons_succ, List.getElem_cons_zero]); first | (go_simp; done) | (go_simp; with_reducible rfl))); (try simp only [Act.put, List.getElem_toArray, List.getElem_cons_succ, List.getElem_cons_zero, List.setIfInBounds_toArray, List.set_cons_zero, List.set_cons_succ]))
                 | (refine wpAnyH_take (i := 5) (v := ?_) rfl (by decide +kernel) (by decide +kernel) (by decide +kernel) (fun _ _ _ h => h) (Or.inl ⟨by rfl, ?_⟩) (by assumption) ?_; rotate_left 1; (focus (intro w hSw; (try dsimp only at hSw); (try simp only [List.getElem_toArray, List.getElem_cons_succ, List.getElem_cons_zero]); first | (go_simp; done) | (go_simp; with_reducible rfl))); (try simp only [Act.put, List.getElem_toArray, List.getElem_cons_succ, List.getElem_cons_zero, List.setIfInBounds_toArray, List.set_cons_zero, List.set_cons_succ]))
                 | fail "nothing to take"))
          iterate 2 (all_goals (
            (first
              | (refine wpAnyH_ready (rs := [2]) (by decide +kernel) (by simp) ?_; refine (AllReadyH.cons rfl (fun Kx hKx => ?_) AllReadyH.nil))
              | (refine wpAnyH_ready (rs := [3]) (by decide +kernel) (by simp) ?_; refine (AllReadyH.cons rfl (fun Kx hKx => ?_) AllReadyH.nil)))
            all_goals (
              first
                | ((try simp only [List.getElem_toArray, List.getElem_cons_succ, List.getElem_cons_zero]); go_simp; go_at_call 43; refine (HPX.out _).mono ?_; rintro e w4 ⟨rfl, hb⟩; have HB1 := Lib.hid (hHeld.2.trans (hb.mono hHeld.2.size)); clear hb hHeld)
                | ((try simp only [List.getElem_toArray, List.getElem_cons_succ, List.getElem_cons_zero]); go_simp)
              refine hKx.out _ _ ?_ (fun hHeld => ?_)
              · (try dsimp only)
                (first | exact HKP.out _ ((Below.refl _ _).drew) | exact HKP.out _ HB1.out | exact HKP.out _ HB1.out.drew | exact HKP.out _ (Go.below_drewN HB1.out _))
              (try dsimp only at hHeld)
              clear hKx Kx
              (try simp only [Act.put, List.getElem_toArray, List.getElem_cons_succ, List.getElem_cons_zero, List.setIfInBounds_toArray, List.set_cons_zero, List.set_cons_succ])
              repeat (first
                 | (refine wpAnyH_take (i := 0) (v := ?_) rfl (by decide +kernel) (by decide +kernel) (by decide +kernel) (fun _ _ _ h => h) (Or.inl ⟨by rfl, ?_⟩) (by assumption) ?_; rotate_left 1; (focus (intro w hSw; (try dsimp only at hSw); (try simp only [List.getElem_toArray, List.getElem_cons_zero]); first | (go_simp; done) | (go_simp; with_reducible rfl))); (try simp only [Act.put, List.getElem_toArray, List.getElem_cons_zero, List.setIfInBounds_toArray, List.set_cons_zero, List.set_cons_succ]))
                 | (refine wpAnyH_take (i := 1) (v := ?_) rfl (by decide +kernel) (by decide +kernel) (by decide +kernel) (fun _ _ _ h => h) (Or.inl ⟨by rfl, ?_⟩) (by assumption) ?_; rotate_left 1; (focus (intro w hSw; (try dsimp only at hSw); (try simp only [List.getElem_toArray, List.getElem_cons_succ, List.getElem_cons_zero]); first | (go_simp; done) | (go_simp; with_reducible rfl))); (try simp only [Act.put, List.getElem_toArray, List.getElem_cons_succ, List.getElem_cons_zero, List.setIfInBounds_toArray, List.set_cons_zero, List.set_cons_succ]))
                 | (refine wpAnyH_take (i := 4) (v := ?_) rfl (by decide +kernel) (by decide +kernel) (by decide +kernel) (fun _ _ _ h => h) (Or.inl ⟨by rfl, ?_⟩) (by assumption) ?_; rotate_left 1; (focus (intro w hSw; (try dsimp only at hSw); (try simp only [List.getElem_toArray, List.getElem_cons_succ, List.getElem_cons_zero]); first | (go_simp; done) | (go_simp; with_reducible rfl))); (try simp only [Act.put, List.getElem_toArray, List.getElem_cons_succ, List.getElem_cons_zero, List.setIfInBounds_toArray, List.set_cons_zero, List.set_cons_succ]))
                 | (refine wpAnyH_take (i := 5) (v := ?_) rfl (by decide +kernel) (by decide +kernel) (by decide +kernel) (fun _ _ _ h => h) (Or.inl ⟨by rfl, ?_⟩) (by assumption) ?_; rotate_left 1; (focus (intro w hSw; (try dsimp only at hSw); (try simp only [List.getElem_toArray, List.getElem_cons_succ, List.getElem_cons_zero]); first | (go_simp; done) | (go_simp; with_reducible rfl))); (try simp only [Act.put, List.getElem_toArray, List.getElem_cons_succ, List.getElem_cons_zero, List.setIfInBounds_toArray, List.set_cons_zero, List.set_cons_succ]))
                 | fail "nothing to take"))))
          all_goals refine wpAnyH_done (by decide +kernel) ?_ _
          all_goals simp only [cutPost, List.drop_succ_cons, List.drop_zero]
          go_wp2_with fail
          refine (HAT.out _ HB1.out).mono ?_
          rintro e w5 ⟨rfl, hp5⟩
          have HE := Lib.hid (hp5.cast (L' := L ++ ([60] ++ S2.data.toList ++ nsD S1 ar ++ enumK dclD t.attrs (k + 1))) (by rw [HEN.out, HQ.out, HXD.out]; simp))
          clear hp5
          go_wp2_with fail
          go_roundw
          case rel => exact ⟨k + 1, by omega, by go_num, HE⟩
          case measure => simp [intOf]; omega
        · have HL2 := Lib.hid (HPW.out.cast (L' := L ++ ([60] ++ S2.data.toList ++ nsD S1 ar ++ enumK dclD t.attrs N ++ enumK valD t.attrs 0)) (by rw [show k = N by omega]; simp [enumK]))
          go_wp2_with fail
          clear c0 c1 c2 c3 c4 cz
          go_loopw [52] (fun i wr => ∃ k : Nat, k ≤ N ∧ i = .int .i64 k ∧ Hid (PutE W0 wb (w.alloc (.cells #[.string S1, .string S2, .slice pa N ca, .slice ka M kc, .string S3] 27)) (L ++ ([60] ++ S2.data.toList ++ nsD S1 ar ++ enumK dclD t.attrs N ++ enumK valD t.attrs k)) wr)) (fun i _ => N - (intOf i).toNat)
          case atStart => exact ⟨0, by omega, rfl, HL2⟩
          case round =>
            obtain ⟨k, hk, rfl, HPW⟩ := hrel
            have hp := HPW.out
            obtain ⟨c0, c1, c2, c3, c4, cz⟩ := box5b (hp.box HBZ.out HNE.out (by decide)) (Below.refl _ _)
            have hlb : w.heap.size < wr.heap.size := (Array.getElem?_eq_some_iff.1 (hp.box HBZ.out HNE.out (by decide))).1
            clear hp
            by_cases hlt : k < N
            · have hkl : k < t.attrs.length := by rw [← HN.out]; exact hlt
              obtain ⟨b, o, cc, hv2, hbl, -, g0, g1, g2⟩ := HPR.out.at' hkl
              rw [← HN.out] at hv2
              cases hv2
              have e0 := (HPW.out.2.2.cell (p := ⟨b, o + k * 3, none⟩) hbl).trans g0
              have e1 := (HPW.out.2.2.cell (p := ⟨b, o + k * 3 + 1, none⟩) hbl).trans g1
              have e2 := (HPW.out.2.2.cell (p := ⟨b, o + k * 3 + 2, none⟩) hbl).trans g2
              have HEN := Lib.hid (enumK_next (f := valD) hkl)
              have HSX := Lib.hid (HSA.out k hkl)
              generalize t.attrs[k] = x at *
              obtain ⟨n1, n2, n3⟩ := x
              dsimp only at e0 e1 e2
              clear g0 g1 g2 hkl
              have HBA := Lib.hid (box_belT wr (.cells #[.string n1, .string n2, .string n3] 58))
              have HQF := Lib.hid (fun W => qualified_c W k (by omega) n1 n2 n3 HSX.out)
              have HAT := Lib.hid (fun (W : World) (hb : Below (wr.alloc (.cells #[.string n1, .string n2, .string n3] 58)).heap.size (wr.alloc (.cells #[.string n1, .string n2, .string n3] 58)) W) (nm : ByteArray) (hn : nm.size ≤ 1152921504606846976) => (HPW.out.below HBA.out).attr hb nm n3 hn)
              have HKP := Lib.hid (fun (W : World) (hb : Below (wr.alloc (.cells #[.string n1, .string n2, .string n3] 58)).heap.size (wr.alloc (.cells #[.string n1, .string n2, .string n3] 58)) W) => show (W.cell? ⟨wr.heap.size, 0, none⟩ = some (.string n1) ∧ W.cell? ⟨wr.heap.size, 1, none⟩ = some (.string n2) ∧ W.cell? ⟨wr.heap.size, 2, none⟩ = some (.string n3)) ∧ Below (wr.alloc (.cells #[.string n1, .string n2, .string n3] 58)).heap.size (wr.alloc (.cells #[.string n1, .string n2, .string n3] 58)) W from ⟨⟨(box3 hb).1, (box3 hb).2.1, (box3 hb).2.2.1⟩, hb⟩)
              go_wp2_with fail
              refine wp_region_cut (S := (fun W => (W.cell? ⟨wr.heap.size, 0, none⟩ = some (.string n1) ∧ W.cell? ⟨wr.heap.size, 1, none⟩ = some (.string n2) ∧ W.cell? ⟨wr.heap.size, 2, none⟩ = some (.string n3)) ∧ Below (wr.alloc (.cells #[.string n1, .string n2, .string n3] 58)).heap.size (wr.alloc (.cells #[.string n1, .string n2, .string n3] 58)) W)) 6 (by kernel_rfl) (by kernel_rfl) ?_ (fun hHeld => ?_)
              · (try dsimp only)
                (first | exact HKP.out _ ((Below.refl _ _).drew) | exact HKP.out _ HB1.out | exact HKP.out _ HB1.out.drew | exact HKP.out _ (Go.below_drewN HB1.out _))
              simp only [List.take_succ_cons, List.take_zero]
              (try dsimp only at hHeld)
              all_goals (repeat (first
                     | (refine wpAnyH_take (i := 0) (v := ?_) rfl (by decide +kernel) (by decide +kernel) (by decide +kernel) (fun _ _ _ h => h) (Or.inl ⟨by rfl, ?_⟩) (by assumption) ?_; rotate_left 1; (focus (intro w hSw; (try dsimp only at hSw); (try simp only [List.getElem_toArray, List.getElem_cons_zero]); first | (go_simp; done) | (go_simp; with_reducible rfl))); (try simp only [Act.put, List.getElem_toArray, List.getElem_cons_zero, List.setIfInBounds_toArray, List.set_cons_zero, List.set_cons_succ]))
                     | (refine wpAnyH_take (i := 1) (v := ?_) rfl (by decide +kernel) (by decide +kernel) (by decide +kernel) (fun _ _ _ h => h) (Or.inl ⟨by rfl, ?_⟩) (by assumption) ?_; rotate_left 1; (focus (intro w hSw; (try dsimp only at hSw); (try simp only [List.getElem_toArray, List.getElem_cons_succ, List.getElem_cons_zero]); first | (go_simp; done) | (go_simp; with_reducible rfl))); (try simp only [Act.put, List.getElem_toArray, List.getElem_cons_succ, List.getElem_cons_zero, List.setIfInBounds_toArray, List.set_cons_zero, List.set_cons_succ]))
                     | (refine wpAnyH_take (i := 2) (v := ?_) rfl (by decide +kernel) (by decide +kernel) (by decide +kernel) (fun _ _ _ h => h) (Or.inl ⟨by rfl, ?_⟩) (by assumption) ?_; rotate_left 1; (focus (intro w hSw; (try dsimp only at hSw); (try simp only [List.getElem_toArray, List.getElem_cons_succ, List.getElem_cons_zero]); first | (go_simp; done) | (go_simp; with_reducible rfl))); (try simp only [Act.put, List.getElem_toArray, List.getElem_cons_succ, List.getElem_cons_zero, List.setIfInBounds_toArray, List.set_cons_zero, List.set_cons_succ]))
                     | (refine wpAnyH_take (i := 4) (v := ?_) rfl (by decide +kernel) (by decide +kernel) (by decide +kernel) (fun _ _ _ h => h) (Or.inl ⟨by rfl, ?_⟩) (by assumption) ?_; rotate_left 1; (focus (intro w hSw; (try dsimp only at hSw); (try simp only [List.getElem_toArray, List.getElem_cons_succ, List.getElem_cons_zero]); first | (go_simp; done) | (go_simp; with_reducible rfl))); (try simp only [Act.put, List.getElem_toArray, List.getElem_cons_succ, List.getElem_cons_zero, List.setIfInBounds_toArray, List.set_cons_zero, List.set_cons_succ]))
                     | (refine wpAnyH_take (i := 5) (v := ?_) rfl (by decide +kernel) (by decide +kernel) (by decide +kernel) (fun _ _ _ h => h) (Or.inl ⟨by rfl, ?_⟩) (by assumption) ?_; rotate_left 1; (focus (intro w hSw; (try dsimp only at hSw); (try simp only [List.getElem_toArray, List.getElem_cons_succ, List.getElem_cons_zero]); first | (go_simp; done) | (go_simp; with_reducible rfl))); (try simp only [Act.put, List.getElem_toArray, List.getElem_cons_succ, List.getElem_cons_zero, List.setIfInBounds_toArray, List.set_cons_zero, List.set_cons_succ]))
                     | fail "nothing to take"))
              iterate 1 (all_goals (
                (first
                  | (refine wpAnyH_ready (rs := [3]) (by decide +kernel) (by simp) ?_; refine (AllReadyH.cons rfl (fun Kx hKx => ?_) AllReadyH.nil)))
                all_goals (
                  first
                    | ((try simp only [List.getElem_toArray, List.getElem_cons_succ, List.getElem_cons_zero]); go_simp; go_at_call 44; refine (HQF.out _).mono ?_; rintro e w4 ⟨⟨Q, rfl, hq1, hq2⟩, hb⟩; have HB1 := Lib.hid (hHeld.2.trans (hb.mono hHeld.2.size)); have HQ1 := Lib.hid hq1; have HQ2 := Lib.hid hq2; clear hb hHeld hq1 hq2)
                    | ((try simp only [List.getElem_toArray, List.getElem_cons_succ, List.getElem_cons_zero]); go_simp)
                  refine hKx.out _ _ ?_ (fun hHeld => ?_)
                  · (try dsimp only)
                    (first | exact HKP.out _ ((Below.refl _ _).drew) | exact HKP.out _ HB1.out | exact HKP.out _ HB1.out.drew | exact HKP.out _ (Go.below_drewN HB1.out _))
                  (try dsimp only at hHeld)
                  clear hKx Kx
                  (try simp only [Act.put, List.getElem_toArray, List.getElem_cons_succ, List.getElem_cons_zero, List.setIfInBounds_toArray, List.set_cons_zero, List.set_cons_succ])
                  repeat (first
                     | (refine wpAnyH_take (i := 0) (v := ?_) rfl (by decide +kernel) (by decide +kernel) (by decide +kernel) (fun _ _ _ h => h) (Or.inl ⟨by rfl, ?_⟩) (by assumption) ?_; rotate_left 1; (focus (intro w hSw; (try dsimp only at hSw); (try simp only [List.getElem_toArray, List.getElem_cons_zero]); first | (go_simp; done) | (go_simp; with_reducible rfl))); (try simp only [Act.put, List.getElem_toArray, List.getElem_cons_zero, List.setIfInBounds_toArray, List.set_cons_zero, List.set_cons_succ]))
                     | (refine wpAnyH_take (i := 1) (v := ?_) rfl (by decide +kernel) (by decide +kernel) (by decide +kernel) (fun _ _ _ h => h) (Or.inl ⟨by rfl, ?_⟩) (by assumption) ?_; rotate_left 1; (focus (intro w hSw; (try dsimp only at hSw); (try simp only [List.getElem_toArray, List.getElem_cons_succ, List.getElem_cons_zero]); first | (go_simp; done) | (go_simp; with_reducible rfl))); (try simp only [Act.put, List.getElem_toArray, List.getElem_cons_succ, List.getElem_cons_zero, List.setIfInBounds_toArray, List.set_cons_zero, List.set_cons_succ]))
                     | (refine wpAnyH_take (i := 2) (v := ?_) rfl (by decide +kernel) (by decide +kernel) (by decide +kernel) (fun _ _ _ h => h) (Or.inl ⟨by rfl, ?_⟩) (by assumption) ?_; rotate_left 1; (focus (intro w hSw; (try dsimp only at hSw); (try simp only [List.getElem_toArray, List.getElem_cons_succ, List.getElem_cons_zero]); first | (go_simp; done) | (go_simp; with_reducible rfl))); (try simp only [Act.put, List.getElem_toArray, List.getElem_cons_succ, List.getElem_cons_zero, List.setIfInBounds_toArray, List.set_cons_zero, List.set_cons_succ]))
                     | (refine wpAnyH_take (i := 4) (v := ?_) rfl (by decide +kernel) (by decide +kernel) (by decide +kernel) (fun _ _ _ h => h) (Or.inl ⟨by rfl, ?_⟩) (by assumption) ?_; rotate_left 1; (focus (intro w hSw; (try dsimp only at hSw); (try simp only [List.getElem_toArray, List.getElem_cons_succ, List.getElem_cons_zero]); first | (go_simp; done) | (go_simp; with_reducible rfl))); (try simp only [Act.put, List.getElem_toArray, List.getElem_cons_succ, List.getElem_cons_zero, List.setIfInBounds_toArray, List.set_cons_zero, List.set_cons_succ]))
                     | (refine wpAnyH_take (i := 5) (v := ?_) rfl (by decide +kernel) (by decide +kernel) (by decide +kernel) (fun _ _ _ h => h) (Or.inl ⟨by rfl, ?_⟩) (by assumption) ?_; rotate_left 1; (focus (intro w hSw; (try dsimp only at hSw); (try simp only [List.getElem_toArray, List.getElem_cons_succ, List.getElem_cons_zero]); first | (go_simp; done) | (go_simp; with_reducible rfl))); (try simp only [Act.put, List.getElem_toArray, List.getElem_cons_succ, List.getElem_cons_zero, List.setIfInBounds_toArray, List.set_cons_zero, List.set_cons_succ]))
                     | fail "nothing to take"))))
              all_goals refine wpAnyH_done (by decide +kernel) ?_ _
              all_goals simp only [cutPost, List.drop_succ_cons, List.drop_zero]
              go_wp2_with fail
              refine (HAT.out _ HB1.out _ (by have := HQ2.out; omega)).mono ?_
              rintro e w5 ⟨rfl, hp5⟩
              have HE := Lib.hid (hp5.cast (L' := L ++ ([60] ++ S2.data.toList ++ nsD S1 ar ++ enumK dclD t.attrs N ++ enumK valD t.attrs (k + 1))) (by rw [HEN.out, HQ1.out]; simp [valD]))
              clear hp5
              go_wp2_with fail
              go_roundw
              case rel => exact ⟨k + 1, by omega, by go_num, HE⟩
              case measure => simp [intOf]; omega
            · have HL3 := Lib.hid (HPW.out.cast (L' := L ++ ([60] ++ S2.data.toList ++ nsD S1 ar ++ enumK dclD t.attrs N ++ enumK valD t.attrs N)) (by rw [show k = N by omega]))
              cases b7
              · have HD2 := Lib.hid (show LD = _ from HD.out.trans (if_neg (by simp)))
                go_wp2_with fail
                have HPU := Lib.hid (HL3.out.puts (pb := wr.heap.size) (cs := #[.string ⟨#[62]⟩]) (n := 1) rfl [⟨#[62]⟩] rfl rfl (by simp) (one_part (by show (1 : Nat) ≤ 1152921504606846976; omega)))
                refine (HPU.out).mono ?_
                rintro e w6 ⟨rfl, hp⟩
                have HTX := Lib.hid (hp.text (Below.refl _ _) S3)
                clear c0 c1 c2 c3 c4 cz hlb
                obtain ⟨c0, c1, c2, c3, c4, cz⟩ := box5b (hp.box HBZ.out HNE.out (by decide)) (Below.refl _ _)
                clear hp
                go_wp2_with fail
                refine (HTX.out).mono ?_
                rintro e w7 ⟨rfl, hp⟩
                clear c0 c1 c2 c3 c4 cz
                obtain ⟨c0, c1, c2, c3, c4, cz⟩ := box5b (hp.box HBZ.out HNE.out (by decide)) (Below.refl _ _)
                have HL4 := Lib.hid (hp.cast (L' := L ++ ([60] ++ S2.data.toList ++ nsD S1 ar ++ enumK dclD t.attrs N ++ enumK valD t.attrs N ++ [62] ++ escF S3.data.toList ++ (t.kids.take 0).flatMap (fun x => docT D x S1))) (by simp))
                clear hp
                go_wp2_with fail
                clear c0 c1 c2 c3 c4 cz
                go_loopw [87] (fun i wr => ∃ k : Nat, k ≤ M ∧ i = .int .i64 k ∧ Hid (PutE W0 wb (w.alloc (.cells #[.string S1, .string S2, .slice pa N ca, .slice ka M kc, .string S3] 27)) (L ++ ([60] ++ S2.data.toList ++ nsD S1 ar ++ enumK dclD t.attrs N ++ enumK valD t.attrs N ++ [62] ++ escF S3.data.toList ++ (t.kids.take k).flatMap (fun x => docT D x S1))) wr)) (fun i _ => M - (intOf i).toNat)
                case atStart => exact ⟨0, by omega, rfl, HL4⟩
                case round =>
                  obtain ⟨k, hk, rfl, HPW⟩ := hrel
                  have hp := HPW.out
                  obtain ⟨c0, c1, c2, c3, c4, cz⟩ := box5b (hp.box HBZ.out HNE.out (by decide)) (Below.refl _ _)
                  have hlb : w.heap.size < wr.heap.size := (Array.getElem?_eq_some_iff.1 (hp.box HBZ.out HNE.out (by decide))).1
                  clear hp
                  by_cases hlt : k < M
                  · obtain ⟨g, o, ha, hgl, -, hx⟩ := HROW.out (by rw [← HM.out]; omega)
                    have hkl : k < t.kids.length := by rw [← HM.out]; exact hlt
                    obtain ⟨av, kv, ⟨g0, g1, g2, g3, g4⟩, hpr, hkd⟩ := hx k hkl
                    subst ha
                    obtain ⟨ka2, kc2, hkv, -⟩ := hkd.form
                    obtain ⟨ra, rc, hrv, -⟩ := hpr.form
                    have HED := Lib.hid (show ElemD Any W0 D (.agg #[.string t.kids[k].space, .string t.kids[k].name, av, kv, .string t.kids[k].text]) t.kids[k] from ⟨av, kv, rfl, hpr, hkd⟩)
                    rw [hrv, hkv] at HED
                    rw [hkv] at g3
                    rw [hrv] at g2
                    have HB0R := HPW.out.2.2
                    have e0 := (HB0R.cell (p := ⟨g, o + k * 5, none⟩) hgl).trans g0
                    have e1 := (HB0R.cell (p := ⟨g, o + k * 5 + 1, none⟩) hgl).trans g1
                    have e2 := (HB0R.cell (p := ⟨g, o + k * 5 + 2, none⟩) hgl).trans g2
                    have e3 := (HB0R.cell (p := ⟨g, o + k * 5 + 3, none⟩) hgl).trans g3
                    have e4 := (HB0R.cell (p := ⟨g, o + k * 5 + 4, none⟩) hgl).trans g4
                    have HEN := Lib.hid (kids_next (fun x => docT D x S1) hkl)
                    have HSX := Lib.hid (HSK.out k hkl)
                    have HCX := Lib.hid (HCK.out k hkl)
                    clear HB0R
                    generalize t.kids[k] = x at *
                    obtain ⟨sp, nm, at2, ki, tx⟩ := x
                    dsimp only [ET.space, ET.name, ET.text, ET.attrs, ET.kids] at e0 e1 e2 e3 e4 HED
                    generalize hkn : ki.length = kn at *
                    generalize hrn : at2.length = rn at *
                    have HREC := Lib.hid (HIH.out (wr.alloc (.cells #[.string sp, .string nm, .slice ra rn rc, .slice ka2 kn kc2, .string tx] 27)) _ _ _ S1 wb _ _ HED.out HSX.out HCX.out (HPW.out.below (box_belT wr _)))
                    clear hx g0 g1 g2 g3 g4 hkd hpr hkv hrv hkn hrn hkl
                    go_wp2_with fail
                    refine (HREC.out).mono ?_
                    rintro e w8 ⟨rfl, hp8⟩
                    have HE := Lib.hid (hp8.cast (L' := L ++ ([60] ++ S2.data.toList ++ nsD S1 ar ++ enumK dclD t.attrs N ++ enumK valD t.attrs N ++ [62] ++ escF S3.data.toList ++ (t.kids.take (k + 1)).flatMap (fun x => docT D x S1))) (by rw [HEN.out]; simp only [List.append_assoc]))
                    clear hp8 e0 e1 e2 e3 e4
                    go_wp2_with fail
                    go_roundw
                    case rel => exact ⟨k + 1, by omega, by go_num, HE⟩
                    case measure => simp [intOf]; omega
                  · have HPU2 := Lib.hid (HPW.out.puts (pb := wr.heap.size) (cs := #[.string ⟨#[60, 47]⟩, .string S2, .string ⟨#[62]⟩]) (n := 3) rfl [⟨#[60, 47]⟩, S2, ⟨#[62]⟩] rfl rfl (by simp) (parts3 (by show (2 : Nat) ≤ 1152921504606846976; omega) (by omega) (by show (1 : Nat) ≤ 1152921504606846976; omega)))
                    have HTK := Lib.hid (show t.kids.take k = t.kids from List.take_of_length_le (by rw [← HM.out]; omega))
                    go_wp2_with fail
                    refine (HPU2.out).mono ?_
                    rintro e w9 ⟨rfl, hp9⟩
                    have HE := Lib.hid (show PutE W0 wb Z0 (L ++ LD) w9 from (hp9.step HKZ.out).cast (by rw [HD2.out, HTK.out]; simp))
                    clear hp9
                    go_wp2_with fail
                    refine bodyPost_end (results_none rfl _ _ _) rfl ?_
                    exact ⟨rfl, HE.out⟩
              · by_cases hm0 : M = 0
                · have HD2 := Lib.hid (show LD = _ from HD.out.trans (if_pos (by rw [Bool.true_and, List.isEmpty_iff]; exact List.eq_nil_of_length_eq_zero (by rw [← HM.out]; exact hm0))))
                  have hqm : ((M : Int) == 0) = true := by rw [beq_iff_eq]; omega
                  have HPU := Lib.hid (HL3.out.puts (pb := wr.heap.size) (cs := #[.string ⟨#[47, 62]⟩]) (n := 1) rfl [⟨#[47, 62]⟩] rfl rfl (by simp) (one_part (by show (2 : Nat) ≤ 1152921504606846976; omega)))
                  clear hm0
                  go_wp2_with fail
                  refine (HPU.out).mono ?_
                  rintro e w6 ⟨rfl, hp6⟩
                  have HE := Lib.hid (show PutE W0 wb Z0 (L ++ LD) w6 from (hp6.step HKZ.out).cast (by rw [HD2.out]; simp))
                  clear hp6
                  go_wp2_with fail
                  refine bodyPost_ret (results_none rfl _ _ _) rfl ?_
                  exact ⟨rfl, HE.out⟩
                · have HD2 := Lib.hid (show LD = _ from HD.out.trans (if_neg (by
                    rw [Bool.true_and, List.isEmpty_iff]
                    intro he
                    rw [he] at HM
                    exact hm0 HM.out)))
                  have hqm : ((M : Int) == 0) = false := by rw [beq_eq_false_iff_ne]; omega
                  clear hm0
                  go_wp2_with fail
                  have HPU := Lib.hid (HL3.out.puts (pb := wr.heap.size) (cs := #[.string ⟨#[62]⟩]) (n := 1) rfl [⟨#[62]⟩] rfl rfl (by simp) (one_part (by show (1 : Nat) ≤ 1152921504606846976; omega)))
                  refine (HPU.out).mono ?_
                  rintro e w6 ⟨rfl, hp⟩
                  have HTX := Lib.hid (hp.text (Below.refl _ _) S3)
                  clear c0 c1 c2 c3 c4 cz hlb
                  obtain ⟨c0, c1, c2, c3, c4, cz⟩ := box5b (hp.box HBZ.out HNE.out (by decide)) (Below.refl _ _)
                  clear hp
                  go_wp2_with fail
                  refine (HTX.out).mono ?_
                  rintro e w7 ⟨rfl, hp⟩
                  clear c0 c1 c2 c3 c4 cz
                  obtain ⟨c0, c1, c2, c3, c4, cz⟩ := box5b (hp.box HBZ.out HNE.out (by decide)) (Below.refl _ _)
                  have HL4 := Lib.hid (hp.cast (L' := L ++ ([60] ++ S2.data.toList ++ nsD S1 ar ++ enumK dclD t.attrs N ++ enumK valD t.attrs N ++ [62] ++ escF S3.data.toList ++ (t.kids.take 0).flatMap (fun x => docT D x S1))) (by simp))
                  clear hp
                  go_wp2_with fail
                  clear c0 c1 c2 c3 c4 cz
                  go_loopw [87] (fun i wr => ∃ k : Nat, k ≤ M ∧ i = .int .i64 k ∧ Hid (PutE W0 wb (w.alloc (.cells #[.string S1, .string S2, .slice pa N ca, .slice ka M kc, .string S3] 27)) (L ++ ([60] ++ S2.data.toList ++ nsD S1 ar ++ enumK dclD t.attrs N ++ enumK valD t.attrs N ++ [62] ++ escF S3.data.toList ++ (t.kids.take k).flatMap (fun x => docT D x S1))) wr)) (fun i _ => M - (intOf i).toNat)
                  case atStart => exact ⟨0, by omega, rfl, HL4⟩
                  case round =>
                    obtain ⟨k, hk, rfl, HPW⟩ := hrel
                    have hp := HPW.out
                    obtain ⟨c0, c1, c2, c3, c4, cz⟩ := box5b (hp.box HBZ.out HNE.out (by decide)) (Below.refl _ _)
                    have hlb : w.heap.size < wr.heap.size := (Array.getElem?_eq_some_iff.1 (hp.box HBZ.out HNE.out (by decide))).1
                    clear hp
                    by_cases hlt : k < M
                    · obtain ⟨g, o, ha, hgl, -, hx⟩ := HROW.out (by rw [← HM.out]; omega)
                      have hkl : k < t.kids.length := by rw [← HM.out]; exact hlt
                      obtain ⟨av, kv, ⟨g0, g1, g2, g3, g4⟩, hpr, hkd⟩ := hx k hkl
                      subst ha
                      obtain ⟨ka2, kc2, hkv, -⟩ := hkd.form
                      obtain ⟨ra, rc, hrv, -⟩ := hpr.form
                      have HED := Lib.hid (show ElemD Any W0 D (.agg #[.string t.kids[k].space, .string t.kids[k].name, av, kv, .string t.kids[k].text]) t.kids[k] from ⟨av, kv, rfl, hpr, hkd⟩)
                      rw [hrv, hkv] at HED
                      rw [hkv] at g3
                      rw [hrv] at g2
                      have HB0R := HPW.out.2.2
                      have e0 := (HB0R.cell (p := ⟨g, o + k * 5, none⟩) hgl).trans g0
                      have e1 := (HB0R.cell (p := ⟨g, o + k * 5 + 1, none⟩) hgl).trans g1
                      have e2 := (HB0R.cell (p := ⟨g, o + k * 5 + 2, none⟩) hgl).trans g2
                      have e3 := (HB0R.cell (p := ⟨g, o + k * 5 + 3, none⟩) hgl).trans g3
                      have e4 := (HB0R.cell (p := ⟨g, o + k * 5 + 4, none⟩) hgl).trans g4
                      have HEN := Lib.hid (kids_next (fun x => docT D x S1) hkl)
                      have HSX := Lib.hid (HSK.out k hkl)
                      have HCX := Lib.hid (HCK.out k hkl)
                      clear HB0R
                      generalize t.kids[k] = x at *
                      obtain ⟨sp, nm, at2, ki, tx⟩ := x
                      dsimp only [ET.space, ET.name, ET.text, ET.attrs, ET.kids] at e0 e1 e2 e3 e4 HED
                      generalize hkn : ki.length = kn at *
                      generalize hrn : at2.length = rn at *
                      have HREC := Lib.hid (HIH.out (wr.alloc (.cells #[.string sp, .string nm, .slice ra rn rc, .slice ka2 kn kc2, .string tx] 27)) _ _ _ S1 wb _ _ HED.out HSX.out HCX.out (HPW.out.below (box_belT wr _)))
                      clear hx g0 g1 g2 g3 g4 hkd hpr hkv hrv hkn hrn hkl
                      go_wp2_with fail
                      refine (HREC.out).mono ?_
                      rintro e w8 ⟨rfl, hp8⟩
                      have HE := Lib.hid (hp8.cast (L' := L ++ ([60] ++ S2.data.toList ++ nsD S1 ar ++ enumK dclD t.attrs N ++ enumK valD t.attrs N ++ [62] ++ escF S3.data.toList ++ (t.kids.take (k + 1)).flatMap (fun x => docT D x S1))) (by rw [HEN.out]; simp only [List.append_assoc]))
                      clear hp8 e0 e1 e2 e3 e4
                      go_wp2_with fail
                      go_roundw
                      case rel => exact ⟨k + 1, by omega, by go_num, HE⟩
                      case measure => simp [intOf]; omega
                    · have HPU2 := Lib.hid (HPW.out.puts (pb := wr.heap.size) (cs := #[.string ⟨#[60, 47]⟩, .string S2, .string ⟨#[62]⟩]) (n := 3) rfl [⟨#[60, 47]⟩, S2, ⟨#[62]⟩] rfl rfl (by simp) (parts3 (by show (2 : Nat) ≤ 1152921504606846976; omega) (by omega) (by show (1 : Nat) ≤ 1152921504606846976; omega)))
                      have HTK := Lib.hid (show t.kids.take k = t.kids from List.take_of_length_le (by rw [← HM.out]; omega))
                      go_wp2_with fail
                      refine (HPU2.out).mono ?_
                      rintro e w9 ⟨rfl, hp9⟩
                      have HE := Lib.hid (show PutE W0 wb Z0 (L ++ LD) w9 from (hp9.step HKZ.out).cast (by rw [HD2.out, HTK.out]; simp))
                      clear hp9
                      go_wp2_with fail
                      refine bodyPost_end (results_none rfl _ _ _) rfl ?_
                      exact ⟨rfl, HE.out⟩
    · have HAN := Lib.hid (HP.out.attr (Below.refl _ _) ⟨#[120, 109, 108, 110, 115]⟩ S1 (by show (5 : Nat) ≤ 1152921504606846976; omega))
      go_wp2_with fail
      refine (HAN.out).mono ?_
      rintro e w2 ⟨rfl, hp⟩
      clear c0 c1 c2 c3 c4 cz
      obtain ⟨c0, c1, c2, c3, c4, cz⟩ := box5b (hp.box HBZ.out HNE.out (by decide)) (Below.refl _ _)
      have HL1 := Lib.hid (hp.cast (L' := L ++ ([60] ++ S2.data.toList ++ nsD S1 ar ++ enumK dclD t.attrs 0)) (by rw [HNS.out]; simp [enumK]))
      clear hp
      go_wp2_with fail
      clear c0 c1 c2 c3 c4 cz
      go_loopw [28] (fun i wr => ∃ k : Nat, k ≤ N ∧ i = .int .i64 k ∧ Hid (PutE W0 wb (w.alloc (.cells #[.string S1, .string S2, .slice pa N ca, .slice ka M kc, .string S3] 27)) (L ++ ([60] ++ S2.data.toList ++ nsD S1 ar ++ enumK dclD t.attrs k)) wr)) (fun i _ => N - (intOf i).toNat)
      case atStart => exact ⟨0, by omega, rfl, HL1⟩
      case round =>
        obtain ⟨k, hk, rfl, HPW⟩ := hrel
        have hp := HPW.out
        obtain ⟨c0, c1, c2, c3, c4, cz⟩ := box5b (hp.box HBZ.out HNE.out (by decide)) (Below.refl _ _)
        have hlb : w.heap.size < wr.heap.size := (Array.getElem?_eq_some_iff.1 (hp.box HBZ.out HNE.out (by decide))).1
        clear hp
        by_cases hlt : k < N
        · have hkl : k < t.attrs.length := by rw [← HN.out]; exact hlt
          obtain ⟨b, o, cc, hv2, hbl, -, g0, g1, g2⟩ := HPR.out.at' hkl
          rw [← HN.out] at hv2
          cases hv2
          have e0 := (HPW.out.2.2.cell (p := ⟨b, o + k * 3, none⟩) hbl).trans g0
          have e1 := (HPW.out.2.2.cell (p := ⟨b, o + k * 3 + 1, none⟩) hbl).trans g1
          have e2 := (HPW.out.2.2.cell (p := ⟨b, o + k * 3 + 2, none⟩) hbl).trans g2
          have HEN := Lib.hid (enumK_next (f := dclD) hkl)
          have HSX := Lib.hid (HSA.out k hkl)
          generalize t.attrs[k] = x at *
          obtain ⟨n1, n2, n3⟩ := x
          dsimp only at e0 e1 e2
          clear g0 g1 g2 hkl
          have hki : k ≤ 1048576 := by omega
          have HBA := Lib.hid (box_belT wr (.cells #[.string n1, .string n2, .string n3] 58))
          obtain ⟨b1, t1⟩ : ∃ b, n1.toList.isEmpty = b := ⟨_, rfl⟩
          obtain ⟨b2, t2⟩ : ∃ b, (n1.toList == [104, 116, 116, 112, 58, 47, 47, 119, 119, 119, 46, 119, 51, 46, 111, 114, 103, 47, 88, 77, 76, 47, 49, 57, 57, 56, 47, 110, 97, 109, 101, 115, 112, 97, 99, 101]) = b := ⟨_, rfl⟩
          have HQ := Lib.hid (show dclD k (n1, n2, n3) = if b1 = true then [] else if b2 = true then [] else attD ([120, 109, 108, 110, 115, 58] ++ pfxD k) n1.data.toList from by unfold dclD; rw [t1, t2])
          cases b1
          rotate_left
          · have HE := Lib.hid ((HPW.out.below HBA.out).cast (L' := L ++ ([60] ++ S2.data.toList ++ nsD S1 ar ++ enumK dclD t.attrs (k + 1))) (by rw [HEN.out, HQ.out]; simp))
            go_wp2_with fail
            go_roundw
            case rel => exact ⟨k + 1, by omega, by go_num, HE⟩
            case measure => simp [intOf]; omega
          cases b2
          rotate_left
          · have HE := Lib.hid ((HPW.out.below HBA.out).cast (L' := L ++ ([60] ++ S2.data.toList ++ nsD S1 ar ++ enumK dclD t.attrs (k + 1))) (by rw [HEN.out, HQ.out]; simp))
            go_wp2_with fail
            go_roundw
            case rel => exact ⟨k + 1, by omega, by go_num, HE⟩
            case measure => simp [intOf]; omega
          have HPX := Lib.hid (fun W => prefix_c W k hki)
          have hpl := pfxD_len k hki
          obtain ⟨P, hP⟩ : ∃ P : ByteArray, P = ⟨(pfxD k).toArray⟩ := ⟨_, rfl⟩
          have hps : P.size ≤ 26 := by rw [hP]; exact hpl
          have HPD := Lib.hid (show P.data.toList = pfxD k from by rw [hP])
          rw [← hP] at HPX
          clear hpl hP
          obtain ⟨X, hX⟩ : ∃ X : ByteArray, (⟨#[120, 109, 108, 110, 115, 58]⟩ : ByteArray) ++ P = X := ⟨_, rfl⟩
          have HXS := Lib.hid (show X.size ≤ 1152921504606846976 from by rw [← hX, ByteArray.size_append]; have : (ByteArray.mk #[120, 109, 108, 110, 115, 58]).size = 6 := rfl; omega)
          have HXD := Lib.hid (show X.data.toList = [120, 109, 108, 110, 115, 58] ++ pfxD k from by rw [← hX, ByteArray.data_append, Array.toList_append, HPD.out])
          have hov : ¬ (9223372036854775807 < 6 + P.size) := by omega
          have HAT := Lib.hid (fun (W : World) (hb : Below (wr.alloc (.cells #[.string n1, .string n2, .string n3] 58)).heap.size (wr.alloc (.cells #[.string n1, .string n2, .string n3] 58)) W) => (HPW.out.below HBA.out).attr hb X n1 HXS.out)
          go_wp2_with fail
          have HKP := Lib.hid (fun (W : World) (hb : Below (wr.alloc (.cells #[.string n1, .string n2, .string n3] 58)).heap.size (wr.alloc (.cells #[.string n1, .string n2, .string n3] 58)) W) => show W.cell? ⟨wr.heap.size, 0, none⟩ = some (.string n1) ∧ Below (wr.alloc (.cells #[.string n1, .string n2, .string n3] 58)).heap.size (wr.alloc (.cells #[.string n1, .string n2, .string n3] 58)) W from ⟨(box3 hb).1, hb⟩)
          refine wp_region_cut (S := (fun W => W.cell? ⟨wr.heap.size, 0, none⟩ = some (.string n1) ∧ Below (wr.alloc (.cells #[.string n1, .string n2, .string n3] 58)).heap.size (wr.alloc (.cells #[.string n1, .string n2, .string n3] 58)) W)) 6 (by kernel_rfl) (by kernel_rfl) ?_ (fun hHeld => ?_)
          · (try dsimp only)
            (first | exact HKP.out _ ((Below.refl _ _).drew) | exact HKP.out _ HB1.out | exact HKP.out _ HB1.out.drew | exact HKP.out _ (Go.below_drewN HB1.out _))
          simp only [List.take_succ_cons, List.take_zero]
          (try dsimp only at hHeld)
          all_goals (repeat (first
                 | (refine wpAnyH_take (i := 0) (v := ?_) rfl (by decide +kernel) (by decide +kernel) (by decide +kernel) (fun _ _ _ h => h) (Or.inl ⟨by rfl, ?_⟩) (by assumption) ?_; rotate_left 1; (focus (intro w hSw; (try dsimp only at hSw); (try simp only [List.getElem_toArray, List.getElem_cons_zero]); first | (go_simp; done) | (go_simp; with_reducible rfl))); (try simp only [Act.put, List.getElem_toArray, List.getElem_cons_zero, List.setIfInBounds_toArray, List.set_cons_zero, List.set_cons_succ]))
                 | (refine wpAnyH_take (i := 1) (v := ?_) rfl (by decide +kernel) (by decide +kernel) (by decide +kernel) (fun _ _ _ h => h) (Or.inl ⟨by rfl, ?_⟩) (by assumption) ?_; rotate_left 1; (focus (intro w hSw; (try dsimp only at hSw); (try simp only [List.getElem_toArray, List.getElem_cons_succ, List.getElem_cons_zero]); first | (go_simp; done) | (go_simp; with_reducible rfl))); (try simp only [Act.put, List.getElem_toArray, List.getElem_cons_succ, List.getElem_cons_zero, List.setIfInBounds_toArray, List.set_cons_zero, List.set_cons_succ]))
                 | (refine wpAnyH_take (i := 4) (v := ?_) rfl (by decide +kernel) (by decide +kernel) (by decide +kernel) (fun _ _ _ h => h) (Or.inl ⟨by rfl, ?_⟩) (by assumption) ?_; rotate_left 1; (focus (intro w hSw; (try dsimp only at hSw); (try simp only [List.getElem_toArray, List.getElem_cons_succ, List.getElem_cons_zero]); first | (go_simp; done) | (go_simp; with_reducible rfl))); (try simp only [Act.put, List.getElem_toArray, List.getElem_cons_succ, List.getElem_cons_zero, List.setIfInBounds_toArray, List.set_cons_zero, List.set_cons_succ]))
                 | (refine wpAnyH_take (i := 5) (v := ?_) rfl (by decide +kernel) (by decide +kernel) (by decide +kernel) (fun _ _ _ h => h) (Or.inl ⟨by rfl, ?_⟩) (by assumption) ?_; rotate_left 1; (focus (intro w hSw; (try dsimp only at hSw); (try simp only [List.getElem_toArray, List.getElem_cons_succ, List.getElem_cons_zero]); first | (go_simp; done) | (go_simp; with_reducible rfl))); (try simp only [Act.put, List.getElem_toArray, List.getElem_cons_succ, List.getElem_cons_zero, List.setIfInBounds_toArray, List.set_cons_zero, List.set_cons_succ]))
                 | fail "nothing to take"))
          iterate 2 (all_goals (
            (first
              | (refine wpAnyH_ready (rs := [2]) (by decide +kernel) (by simp) ?_; refine (AllReadyH.cons rfl (fun Kx hKx => ?_) AllReadyH.nil))
              | (refine wpAnyH_ready (rs := [3]) (by decide +kernel) (by simp) ?_; refine (AllReadyH.cons rfl (fun Kx hKx => ?_) AllReadyH.nil)))
            all_goals (
              first
                | ((try simp only [List.getElem_toArray, List.getElem_cons_succ, List.getElem_cons_zero]); go_simp; go_at_call 43; refine (HPX.out _).mono ?_; rintro e w4 ⟨rfl, hb⟩; have HB1 := Lib.hid (hHeld.2.trans (hb.mono hHeld.2.size)); clear hb hHeld)
                | ((try simp only [List.getElem_toArray, List.getElem_cons_succ, List.getElem_cons_zero]); go_simp)
              refine hKx.out _ _ ?_ (fun hHeld => ?_)
              · (try dsimp only)
                (first | exact HKP.out _ ((Below.refl _ _).drew) | exact HKP.out _ HB1.out | exact HKP.out _ HB1.out.drew | exact HKP.out _ (Go.below_drewN HB1.out _))
              (try dsimp only at hHeld)
              clear hKx Kx
              (try simp only [Act.put, List.getElem_toArray, List.getElem_cons_succ, List.getElem_cons_zero, List.setIfInBounds_toArray, List.set_cons_zero, List.set_cons_succ])
              repeat (first
                 | (refine wpAnyH_take (i := 0) (v := ?_) rfl (by decide +kernel) (by decide +kernel) (by decide +kernel) (fun _ _ _ h => h) (Or.inl ⟨by rfl, ?_⟩) (by assumption) ?_; rotate_left 1; (focus (intro w hSw; (try dsimp only at hSw); (try simp only [List.getElem_toArray, List.getElem_cons_zero]); first | (go_simp; done) | (go_simp; with_reducible rfl))); (try simp only [Act.put, List.getElem_toArray, List.getElem_cons_zero, List.setIfInBounds_toArray, List.set_cons_zero, List.set_cons_succ]))
                 | (refine wpAnyH_take (i := 1) (v := ?_) rfl (by decide +kernel) (by decide +kernel) (by decide +kernel) (fun _ _ _ h => h) (Or.inl ⟨by rfl, ?_⟩) (by assumption) ?_; rotate_left 1; (focus (intro w hSw; (try dsimp only at hSw); (try simp only [List.getElem_toArray, List.getElem_cons_succ, List.getElem_cons_zero]); first | (go_simp; done) | (go_simp; with_reducible rfl))); (try simp only [Act.put, List.getElem_toArray, List.getElem_cons_succ, List.getElem_cons_zero, List.setIfInBounds_toArray, List.set_cons_zero, List.set_cons_succ]))
                 | (refine wpAnyH_take (i := 4) (v := ?_) rfl (by decide +kernel) (by decide +kernel) (by decide +kernel) (fun _ _ _ h => h) (Or.inl ⟨by rfl, ?_⟩) (by assumption) ?_; rotate_left 1; (focus (intro w hSw; (try dsimp only at hSw); (try simp only [List.getElem_toArray, List.getElem_cons_succ, List.getElem_cons_zero]); first | (go_simp; done) | (go_simp; with_reducible rfl))); (try simp only [Act.put, List.getElem_toArray, List.getElem_cons_succ, List.getElem_cons_zero, List.setIfInBounds_toArray, List.set_cons_zero, List.set_cons_succ]))
                 | (refine wpAnyH_take (i := 5) (v := ?_) rfl (by decide +kernel) (by decide +kernel) (by decide +kernel) (fun _ _ _ h => h) (Or.inl ⟨by rfl, ?_⟩) (by assumption) ?_; rotate_left 1; (focus (intro w hSw; (try dsimp only at hSw); (try simp only [List.getElem_toArray, List.getElem_cons_succ, List.getElem_cons_zero]); first | (go_simp; done) | (go_simp; with_reducible rfl))); (try simp only [Act.put, List.getElem_toArray, List.getElem_cons_succ, List.getElem_cons_zero, List.setIfInBounds_toArray, List.set_cons_zero, List.set_cons_succ]))
                 | fail "nothing to take"))))
          all_goals refine wpAnyH_done (by decide +kernel) ?_ _
          all_goals simp only [cutPost, List.drop_succ_cons, List.drop_zero]
          go_wp2_with fail
          refine (HAT.out _ HB1.out).mono ?_
          rintro e w5 ⟨rfl, hp5⟩
          have HE := Lib.hid (hp5.cast (L' := L ++ ([60] ++ S2.data.toList ++ nsD S1 ar ++ enumK dclD t.attrs (k + 1))) (by rw [HEN.out, HQ.out, HXD.out]; simp))
          clear hp5
          go_wp2_with fail
          go_roundw
          case rel => exact ⟨k + 1, by omega, by go_num, HE⟩
          case measure => simp [intOf]; omega
        · have HL2 := Lib.hid (HPW.out.cast (L' := L ++ ([60] ++ S2.data.toList ++ nsD S1 ar ++ enumK dclD t.attrs N ++ enumK valD t.attrs 0)) (by rw [show k = N by omega]; simp [enumK]))
          go_wp2_with fail
          clear c0 c1 c2 c3 c4 cz
          go_loopw [52] (fun i wr => ∃ k : Nat, k ≤ N ∧ i = .int .i64 k ∧ Hid (PutE W0 wb (w.alloc (.cells #[.string S1, .string S2, .slice pa N ca, .slice ka M kc, .string S3] 27)) (L ++ ([60] ++ S2.data.toList ++ nsD S1 ar ++ enumK dclD t.attrs N ++ enumK valD t.attrs k)) wr)) (fun i _ => N - (intOf i).toNat)
          case atStart => exact ⟨0, by omega, rfl, HL2⟩
          case round =>
            obtain ⟨k, hk, rfl, HPW⟩ := hrel
            have hp := HPW.out
            obtain ⟨c0, c1, c2, c3, c4, cz⟩ := box5b (hp.box HBZ.out HNE.out (by decide)) (Below.refl _ _)
            have hlb : w.heap.size < wr.heap.size := (Array.getElem?_eq_some_iff.1 (hp.box HBZ.out HNE.out (by decide))).1
            clear hp
            by_cases hlt : k < N
            · have hkl : k < t.attrs.length := by rw [← HN.out]; exact hlt
              obtain ⟨b, o, cc, hv2, hbl, -, g0, g1, g2⟩ := HPR.out.at' hkl
              rw [← HN.out] at hv2
              cases hv2
              have e0 := (HPW.out.2.2.cell (p := ⟨b, o + k * 3, none⟩) hbl).trans g0
              have e1 := (HPW.out.2.2.cell (p := ⟨b, o + k * 3 + 1, none⟩) hbl).trans g1
              have e2 := (HPW.out.2.2.cell (p := ⟨b, o + k * 3 + 2, none⟩) hbl).trans g2
              have HEN := Lib.hid (enumK_next (f := valD) hkl)
              have HSX := Lib.hid (HSA.out k hkl)
              generalize t.attrs[k] = x at *
              obtain ⟨n1, n2, n3⟩ := x
              dsimp only at e0 e1 e2
              clear g0 g1 g2 hkl
              have HBA := Lib.hid (box_belT wr (.cells #[.string n1, .string n2, .string n3] 58))
              have HQF := Lib.hid (fun W => qualified_c W k (by omega) n1 n2 n3 HSX.out)
              have HAT := Lib.hid (fun (W : World) (hb : Below (wr.alloc (.cells #[.string n1, .string n2, .string n3] 58)).heap.size (wr.alloc (.cells #[.string n1, .string n2, .string n3] 58)) W) (nm : ByteArray) (hn : nm.size ≤ 1152921504606846976) => (HPW.out.below HBA.out).attr hb nm n3 hn)
              have HKP := Lib.hid (fun (W : World) (hb : Below (wr.alloc (.cells #[.string n1, .string n2, .string n3] 58)).heap.size (wr.alloc (.cells #[.string n1, .string n2, .string n3] 58)) W) => show (W.cell? ⟨wr.heap.size, 0, none⟩ = some (.string n1) ∧ W.cell? ⟨wr.heap.size, 1, none⟩ = some (.string n2) ∧ W.cell? ⟨wr.heap.size, 2, none⟩ = some (.string n3)) ∧ Below (wr.alloc (.cells #[.string n1, .string n2, .string n3] 58)).heap.size (wr.alloc (.cells #[.string n1, .string n2, .string n3] 58)) W from ⟨⟨(box3 hb).1, (box3 hb).2.1, (box3 hb).2.2.1⟩, hb⟩)
              go_wp2_with fail
              refine wp_region_cut (S := (fun W => (W.cell? ⟨wr.heap.size, 0, none⟩ = some (.string n1) ∧ W.cell? ⟨wr.heap.size, 1, none⟩ = some (.string n2) ∧ W.cell? ⟨wr.heap.size, 2, none⟩ = some (.string n3)) ∧ Below (wr.alloc (.cells #[.string n1, .string n2, .string n3] 58)).heap.size (wr.alloc (.cells #[.string n1, .string n2, .string n3] 58)) W)) 6 (by kernel_rfl) (by kernel_rfl) ?_ (fun hHeld => ?_)
              · (try dsimp only)
                (first | exact HKP.out _ ((Below.refl _ _).drew) | exact HKP.out _ HB1.out | exact HKP.out _ HB1.out.drew | exact HKP.out _ (Go.below_drewN HB1.out _))
              simp only [List.take_succ_cons, List.take_zero]
              (try dsimp only at hHeld)
              all_goals (repeat (first
                     | (refine wpAnyH_take (i := 0) (v := ?_) rfl (by decide +kernel) (by decide +kernel) (by decide +kernel) (fun _ _ _ h => h) (Or.inl ⟨by rfl, ?_⟩) (by assumption) ?_; rotate_left 1; (focus (intro w hSw; (try dsimp only at hSw); (try simp only [List.getElem_toArray, List.getElem_cons_zero]); first | (go_simp; done) | (go_simp; with_reducible rfl))); (try simp only [Act.put, List.getElem_toArray, List.getElem_cons_zero, List.setIfInBounds_toArray, List.set_cons_zero, List.set_cons_succ]))
                     | (refine wpAnyH_take (i := 1) (v := ?_) rfl (by decide +kernel) (by decide +kernel) (by decide +kernel) (fun _ _ _ h => h) (Or.inl ⟨by rfl, ?_⟩) (by assumption) ?_; rotate_left 1; (focus (intro w hSw; (try dsimp only at hSw); (try simp only [List.getElem_toArray, List.getElem_cons_succ, List.getElem_cons_zero]); first | (go_simp; done) | (go_simp; with_reducible rfl))); (try simp only [Act.put, List.getElem_toArray, List.getElem_cons_succ, List.getElem_cons_zero, List.setIfInBounds_toArray, List.set_cons_zero, List.set_cons_succ]))
                     | (refine wpAnyH_take (i := 2) (v := ?_) rfl (by decide +kernel) (by decide +kernel) (by decide +kernel) (fun _ _ _ h => h) (Or.inl ⟨by rfl, ?_⟩) (by assumption) ?_; rotate_left 1; (focus (intro w hSw; (try dsimp only at hSw); (try simp only [List.getElem_toArray, List.getElem_cons_succ, List.getElem_cons_zero]); first | (go_simp; done) | (go_simp; with_reducible rfl))); (try simp only [Act.put, List.getElem_toArray, List.getElem_cons_succ, List.getElem_cons_zero, List.setIfInBounds_toArray, List.set_cons_zero, List.set_cons_succ]))
                     | (refine wpAnyH_take (i := 4) (v := ?_) rfl (by decide +kernel) (by decide +kernel) (by decide +kernel) (fun _ _ _ h => h) (Or.inl ⟨by rfl, ?_⟩) (by assumption) ?_; rotate_left 1; (focus (intro w hSw; (try dsimp only at hSw); (try simp only [List.getElem_toArray, List.getElem_cons_succ, List.getElem_cons_zero]); first | (go_simp; done) | (go_simp; with_reducible rfl))); (try simp only [Act.put, List.getElem_toArray, List.getElem_cons_succ, List.getElem_cons_zero, List.setIfInBounds_toArray, List.set_cons_zero, List.set_cons_succ]))
                     | (refine wpAnyH_take (i := 5) (v := ?_) rfl (by decide +kernel) (by decide +kernel) (by decide +kernel) (fun _ _ _ h => h) (Or.inl ⟨by rfl, ?_⟩) (by assumption) ?_; rotate_left 1; (focus (intro w hSw; (try dsimp only at hSw); (try simp only [List.getElem_toArray, List.getElem_cons_succ, List.getElem_cons_zero]); first | (go_simp; done) | (go_simp; with_reducible rfl))); (try simp only [Act.put, List.getElem_toArray, List.getElem_cons_succ, List.getElem_cons_zero, List.setIfInBounds_toArray, List.set_cons_zero, List.set_cons_succ]))
                     | fail "nothing to take"))
              iterate 1 (all_goals (
                (first
                  | (refine wpAnyH_ready (rs := [3]) (by decide +kernel) (by simp) ?_; refine (AllReadyH.cons rfl (fun Kx hKx => ?_) AllReadyH.nil)))
                all_goals (
                  first
                    | ((try simp only [List.getElem_toArray, List.getElem_cons_succ, List.getElem_cons_zero]); go_simp; go_at_call 44; refine (HQF.out _).mono ?_; rintro e w4 ⟨⟨Q, rfl, hq1, hq2⟩, hb⟩; have HB1 := Lib.hid (hHeld.2.trans (hb.mono hHeld.2.size)); have HQ1 := Lib.hid hq1; have HQ2 := Lib.hid hq2; clear hb hHeld hq1 hq2)
                    | ((try simp only [List.getElem_toArray, List.getElem_cons_succ, List.getElem_cons_zero]); go_simp)
                  refine hKx.out _ _ ?_ (fun hHeld => ?_)
                  · (try dsimp only)
                    (first | exact HKP.out _ ((Below.refl _ _).drew) | exact HKP.out _ HB1.out | exact HKP.out _ HB1.out.drew | exact HKP.out _ (Go.below_drewN HB1.out _))
                  (try dsimp only at hHeld)
                  clear hKx Kx
                  (try simp only [Act.put, List.getElem_toArray, List.getElem_cons_succ, List.getElem_cons_zero, List.setIfInBounds_toArray, List.set_cons_zero, List.set_cons_succ])
                  repeat (first
                     | (refine wpAnyH_take (i := 0) (v := ?_) rfl (by decide +kernel) (by decide +kernel) (by decide +kernel) (fun _ _ _ h => h) (Or.inl ⟨by rfl, ?_⟩) (by assumption) ?_; rotate_left 1; (focus (intro w hSw; (try dsimp only at hSw); (try simp only [List.getElem_toArray, List.getElem_cons_zero]); first | (go_simp; done) | (go_simp; with_reducible rfl))); (try simp only [Act.put, List.getElem_toArray, List.getElem_cons_zero, List.setIfInBounds_toArray, List.set_cons_zero, List.set_cons_succ]))
                     | (refine wpAnyH_take (i := 1) (v := ?_) rfl (by decide +kernel) (by decide +kernel) (by decide +kernel) (fun _ _ _ h => h) (Or.inl ⟨by rfl, ?_⟩) (by assumption) ?_; rotate_left 1; (focus (intro w hSw; (try dsimp only at hSw); (try simp only [List.getElem_toArray, List.getElem_cons_succ, List.getElem_cons_zero]); first | (go_simp; done) | (go_simp; with_reducible rfl))); (try simp only [Act.put, List.getElem_toArray, List.getElem_cons_succ, List.getElem_cons_zero, List.setIfInBounds_toArray, List.set_cons_zero, List.set_cons_succ]))
                     | (refine wpAnyH_take (i := 2) (v := ?_) rfl (by decide +kernel) (by decide +kernel) (by decide +kernel) (fun _ _ _ h => h) (Or.inl ⟨by rfl, ?_⟩) (by assumption) ?_; rotate_left 1; (focus (intro w hSw; (try dsimp only at hSw); (try simp only [List.getElem_toArray, List.getElem_cons_succ, List.getElem_cons_zero]); first | (go_simp; done) | (go_simp; with_reducible rfl))); (try simp only [Act.put, List.getElem_toArray, List.getElem_cons_succ, List.getElem_cons_zero, List.setIfInBounds_toArray, List.set_cons_zero, List.set_cons_succ]))
                     | (refine wpAnyH_take (i := 4) (v := ?_) rfl (by decide +kernel) (by decide +kernel) (by decide +kernel) (fun _ _ _ h => h) (Or.inl ⟨by rfl, ?_⟩) (by assumption) ?_; rotate_left 1; (focus (intro w hSw; (try dsimp only at hSw); (try simp only [List.getElem_toArray, List.getElem_cons_succ, List.getElem_cons_zero]); first | (go_simp; done) | (go_simp; with_reducible rfl))); (try simp only [Act.put, List.getElem_toArray, List.getElem_cons_succ, List.getElem_cons_zero, List.setIfInBounds_toArray, List.set_cons_zero, List.set_cons_succ]))
                     | (refine wpAnyH_take (i := 5) (v := ?_) rfl (by decide +kernel) (by decide +kernel) (by decide +kernel) (fun _ _ _ h => h) (Or.inl ⟨by rfl, ?_⟩) (by assumption) ?_; rotate_left 1; (focus (intro w hSw; (try dsimp only at hSw); (try simp only [List.getElem_toArray, List.getElem_cons_succ, List.getElem_cons_zero]); first | (go_simp; done) | (go_simp; with_reducible rfl))); (try simp only [Act.put, List.getElem_toArray, List.getElem_cons_succ, List.getElem_cons_zero, List.setIfInBounds_toArray, List.set_cons_zero, List.set_cons_succ]))
                     | fail "nothing to take"))))
              all_goals refine wpAnyH_done (by decide +kernel) ?_ _
              all_goals simp only [cutPost, List.drop_succ_cons, List.drop_zero]
              go_wp2_with fail
              refine (HAT.out _ HB1.out _ (by have := HQ2.out; omega)).mono ?_
              rintro e w5 ⟨rfl, hp5⟩
              have HE := Lib.hid (hp5.cast (L' := L ++ ([60] ++ S2.data.toList ++ nsD S1 ar ++ enumK dclD t.attrs N ++ enumK valD t.attrs (k + 1))) (by rw [HEN.out, HQ1.out]; simp [valD]))
              clear hp5
              go_wp2_with fail
              go_roundw
              case rel => exact ⟨k + 1, by omega, by go_num, HE⟩
              case measure => simp [intOf]; omega
            · have HL3 := Lib.hid (HPW.out.cast (L' := L ++ ([60] ++ S2.data.toList ++ nsD S1 ar ++ enumK dclD t.attrs N ++ enumK valD t.attrs N)) (by rw [show k = N by omega]))
              cases b7
              · have HD2 := Lib.hid (show LD = _ from HD.out.trans (if_neg (by simp)))
                go_wp2_with fail
                have HPU := Lib.hid (HL3.out.puts (pb := wr.heap.size) (cs := #[.string ⟨#[62]⟩]) (n := 1) rfl [⟨#[62]⟩] rfl rfl (by simp) (one_part (by show (1 : Nat) ≤ 1152921504606846976; omega)))
                refine (HPU.out).mono ?_
                rintro e w6 ⟨rfl, hp⟩
                have HTX := Lib.hid (hp.text (Below.refl _ _) S3)
                clear c0 c1 c2 c3 c4 cz hlb
                obtain ⟨c0, c1, c2, c3, c4, cz⟩ := box5b (hp.box HBZ.out HNE.out (by decide)) (Below.refl _ _)
                clear hp
                go_wp2_with fail
                refine (HTX.out).mono ?_
                rintro e w7 ⟨rfl, hp⟩
                clear c0 c1 c2 c3 c4 cz
                obtain ⟨c0, c1, c2, c3, c4, cz⟩ := box5b (hp.box HBZ.out HNE.out (by decide)) (Below.refl _ _)
                have HL4 := Lib.hid (hp.cast (L' := L ++ ([60] ++ S2.data.toList ++ nsD S1 ar ++ enumK dclD t.attrs N ++ enumK valD t.attrs N ++ [62] ++ escF S3.data.toList ++ (t.kids.take 0).flatMap (fun x => docT D x S1))) (by simp))
                clear hp
                go_wp2_with fail
                clear c0 c1 c2 c3 c4 cz
                go_loopw [87] (fun i wr => ∃ k : Nat, k ≤ M ∧ i = .int .i64 k ∧ Hid (PutE W0 wb (w.alloc (.cells #[.string S1, .string S2, .slice pa N ca, .slice ka M kc, .string S3] 27)) (L ++ ([60] ++ S2.data.toList ++ nsD S1 ar ++ enumK dclD t.attrs N ++ enumK valD t.attrs N ++ [62] ++ escF S3.data.toList ++ (t.kids.take k).flatMap (fun x => docT D x S1))) wr)) (fun i _ => M - (intOf i).toNat)
                case atStart => exact ⟨0, by omega, rfl, HL4⟩
                case round =>
                  obtain ⟨k, hk, rfl, HPW⟩ := hrel
                  have hp := HPW.out
                  obtain ⟨c0, c1, c2, c3, c4, cz⟩ := box5b (hp.box HBZ.out HNE.out (by decide)) (Below.refl _ _)
                  have hlb : w.heap.size < wr.heap.size := (Array.getElem?_eq_some_iff.1 (hp.box HBZ.out HNE.out (by decide))).1
                  clear hp
                  by_cases hlt : k < M
                  · obtain ⟨g, o, ha, hgl, -, hx⟩ := HROW.out (by rw [← HM.out]; omega)
                    have hkl : k < t.kids.length := by rw [← HM.out]; exact hlt
                    obtain ⟨av, kv, ⟨g0, g1, g2, g3, g4⟩, hpr, hkd⟩ := hx k hkl
                    subst ha
                    obtain ⟨ka2, kc2, hkv, -⟩ := hkd.form
                    obtain ⟨ra, rc, hrv, -⟩ := hpr.form
                    have HED := Lib.hid (show ElemD Any W0 D (.agg #[.string t.kids[k].space, .string t.kids[k].name, av, kv, .string t.kids[k].text]) t.kids[k] from ⟨av, kv, rfl, hpr, hkd⟩)
                    rw [hrv, hkv] at HED
                    rw [hkv] at g3
                    rw [hrv] at g2
                    have HB0R := HPW.out.2.2
                    have e0 := (HB0R.cell (p := ⟨g, o + k * 5, none⟩) hgl).trans g0
                    have e1 := (HB0R.cell (p := ⟨g, o + k * 5 + 1, none⟩) hgl).trans g1
                    have e2 := (HB0R.cell (p := ⟨g, o + k * 5 + 2, none⟩) hgl).trans g2
                    have e3 := (HB0R.cell (p := ⟨g, o + k * 5 + 3, none⟩) hgl).trans g3
                    have e4 := (HB0R.cell (p := ⟨g, o + k * 5 + 4, none⟩) hgl).trans g4
                    have HEN := Lib.hid (kids_next (fun x => docT D x S1) hkl)
                    have HSX := Lib.hid (HSK.out k hkl)
                    have HCX := Lib.hid (HCK.out k hkl)
                    clear HB0R
                    generalize t.kids[k] = x at *
                    obtain ⟨sp, nm, at2, ki, tx⟩ := x
                    dsimp only [ET.space, ET.name, ET.text, ET.attrs, ET.kids] at e0 e1 e2 e3 e4 HED
                    generalize hkn : ki.length = kn at *
                    generalize hrn : at2.length = rn at *
                    have HREC := Lib.hid (HIH.out (wr.alloc (.cells #[.string sp, .string nm, .slice ra rn rc, .slice ka2 kn kc2, .string tx] 27)) _ _ _ S1 wb _ _ HED.out HSX.out HCX.out (HPW.out.below (box_belT wr _)))
                    clear hx g0 g1 g2 g3 g4 hkd hpr hkv hrv hkn hrn hkl
                    go_wp2_with fail
                    refine (HREC.out).mono ?_
                    rintro e w8 ⟨rfl, hp8⟩
                    have HE := Lib.hid (hp8.cast (L' := L ++ ([60] ++ S2.data.toList ++ nsD S1 ar ++ enumK dclD t.attrs N ++ enumK valD t.attrs N ++ [62] ++ escF S3.data.toList ++ (t.kids.take (k + 1)).flatMap (fun x => docT D x S1))) (by rw [HEN.out]; simp only [List.append_assoc]))
                    clear hp8 e0 e1 e2 e3 e4
                    go_wp2_with fail
                    go_roundw
                    case rel => exact ⟨k + 1, by omega, by go_num, HE⟩
                    case measure => simp [intOf]; omega
                  · have HPU2 := Lib.hid (HPW.out.puts (pb := wr.heap.size) (cs := #[.string ⟨#[60, 47]⟩, .string S2, .string ⟨#[62]⟩]) (n := 3) rfl [⟨#[60, 47]⟩, S2, ⟨#[62]⟩] rfl rfl (by simp) (parts3 (by show (2 : Nat) ≤ 1152921504606846976; omega) (by omega) (by show (1 : Nat) ≤ 1152921504606846976; omega)))
                    have HTK := Lib.hid (show t.kids.take k = t.kids from List.take_of_length_le (by rw [← HM.out]; omega))
                    go_wp2_with fail
                    refine (HPU2.out).mono ?_
                    rintro e w9 ⟨rfl, hp9⟩
                    have HE := Lib.hid (show PutE W0 wb Z0 (L ++ LD) w9 from (hp9.step HKZ.out).cast (by rw [HD2.out, HTK.out]; simp))
                    clear hp9
                    go_wp2_with fail
                    refine bodyPost_end (results_none rfl _ _ _) rfl ?_
                    exact ⟨rfl, HE.out⟩
              · by_cases hm0 : M = 0
                · have HD2 := Lib.hid (show LD = _ from HD.out.trans (if_pos (by rw [Bool.true_and, List.isEmpty_iff]; exact List.eq_nil_of_length_eq_zero (by rw [← HM.out]; exact hm0))))
                  have hqm : ((M : Int) == 0) = true := by rw [beq_iff_eq]; omega
                  have HPU := Lib.hid (HL3.out.puts (pb := wr.heap.size) (cs := #[.string ⟨#[47, 62]⟩]) (n := 1) rfl [⟨#[47, 62]⟩] rfl rfl (by simp) (one_part (by show (2 : Nat) ≤ 1152921504606846976; omega)))
                  clear hm0
                  go_wp2_with fail
                  refine (HPU.out).mono ?_
                  rintro e w6 ⟨rfl, hp6⟩
                  have HE := Lib.hid (show PutE W0 wb Z0 (L ++ LD) w6 from (hp6.step HKZ.out).cast (by rw [HD2.out]; simp))
                  clear hp6
                  go_wp2_with fail
                  refine bodyPost_ret (results_none rfl _ _ _) rfl ?_
                  exact ⟨rfl, HE.out⟩
                · have HD2 := Lib.hid (show LD = _ from HD.out.trans (if_neg (by
                    rw [Bool.true_and, List.isEmpty_iff]
                    intro he
                    rw [he] at HM
                    exact hm0 HM.out)))
                  have hqm : ((M : Int) == 0) = false := by rw [beq_eq_false_iff_ne]; omega
                  clear hm0
                  go_wp2_with fail
                  have HPU := Lib.hid (HL3.out.puts (pb := wr.heap.size) (cs := #[.string ⟨#[62]⟩]) (n := 1) rfl [⟨#[62]⟩] rfl rfl (by simp) (one_part (by show (1 : Nat) ≤ 1152921504606846976; omega)))
                  refine (HPU.out).mono ?_
                  rintro e w6 ⟨rfl, hp⟩
                  have HTX := Lib.hid (hp.text (Below.refl _ _) S3)
                  clear c0 c1 c2 c3 c4 cz hlb
                  obtain ⟨c0, c1, c2, c3, c4, cz⟩ := box5b (hp.box HBZ.out HNE.out (by decide)) (Below.refl _ _)
                  clear hp
                  go_wp2_with fail
                  refine (HTX.out).mono ?_
                  rintro e w7 ⟨rfl, hp⟩
                  clear c0 c1 c2 c3 c4 cz
                  obtain ⟨c0, c1, c2, c3, c4, cz⟩ := box5b (hp.box HBZ.out HNE.out (by decide)) (Below.refl _ _)
                  have HL4 := Lib.hid (hp.cast (L' := L ++ ([60] ++ S2.data.toList ++ nsD S1 ar ++ enumK dclD t.attrs N ++ enumK valD t.attrs N ++ [62] ++ escF S3.data.toList ++ (t.kids.take 0).flatMap (fun x => docT D x S1))) (by simp))
                  clear hp
                  go_wp2_with fail
                  clear c0 c1 c2 c3 c4 cz
                  go_loopw [87] (fun i wr => ∃ k : Nat, k ≤ M ∧ i = .int .i64 k ∧ Hid (PutE W0 wb (w.alloc (.cells #[.string S1, .string S2, .slice pa N ca, .slice ka M kc, .string S3] 27)) (L ++ ([60] ++ S2.data.toList ++ nsD S1 ar ++ enumK dclD t.attrs N ++ enumK valD t.attrs N ++ [62] ++ escF S3.data.toList ++ (t.kids.take k).flatMap (fun x => docT D x S1))) wr)) (fun i _ => M - (intOf i).toNat)
                  case atStart => exact ⟨0, by omega, rfl, HL4⟩
                  case round =>
                    obtain ⟨k, hk, rfl, HPW⟩ := hrel
                    have hp := HPW.out
                    obtain ⟨c0, c1, c2, c3, c4, cz⟩ := box5b (hp.box HBZ.out HNE.out (by decide)) (Below.refl _ _)
                    have hlb : w.heap.size < wr.heap.size := (Array.getElem?_eq_some_iff.1 (hp.box HBZ.out HNE.out (by decide))).1
                    clear hp
                    by_cases hlt : k < M
                    · obtain ⟨g, o, ha, hgl, -, hx⟩ := HROW.out (by rw [← HM.out]; omega)
                      have hkl : k < t.kids.length := by rw [← HM.out]; exact hlt
                      obtain ⟨av, kv, ⟨g0, g1, g2, g3, g4⟩, hpr, hkd⟩ := hx k hkl
                      subst ha
                      obtain ⟨ka2, kc2, hkv, -⟩ := hkd.form
                      obtain ⟨ra, rc, hrv, -⟩ := hpr.form
                      have HED := Lib.hid (show ElemD Any W0 D (.agg #[.string t.kids[k].space, .string t.kids[k].name, av, kv, .string t.kids[k].text]) t.kids[k] from ⟨av, kv, rfl, hpr, hkd⟩)
                      rw [hrv, hkv] at HED
                      rw [hkv] at g3
                      rw [hrv] at g2
                      have HB0R := HPW.out.2.2
                      have e0 := (HB0R.cell (p := ⟨g, o + k * 5, none⟩) hgl).trans g0
                      have e1 := (HB0R.cell (p := ⟨g, o + k * 5 + 1, none⟩) hgl).trans g1
                      have e2 := (HB0R.cell (p := ⟨g, o + k * 5 + 2, none⟩) hgl).trans g2
                      have e3 := (HB0R.cell (p := ⟨g, o + k * 5 + 3, none⟩) hgl).trans g3
                      have e4 := (HB0R.cell (p := ⟨g, o + k * 5 + 4, none⟩) hgl).trans g4
                      have HEN := Lib.hid (kids_next (fun x => docT D x S1) hkl)
                      have HSX := Lib.hid (HSK.out k hkl)
                      have HCX := Lib.hid (HCK.out k hkl)
                      clear HB0R
                      generalize t.kids[k] = x at *
                      obtain ⟨sp, nm, at2, ki, tx⟩ := x
                      dsimp only [ET.space, ET.name, ET.text, ET.attrs, ET.kids] at e0 e1 e2 e3 e4 HED
                      generalize hkn : ki.length = kn at *
                      generalize hrn : at2.length = rn at *
                      have HREC := Lib.hid (HIH.out (wr.alloc (.cells #[.string sp, .string nm, .slice ra rn rc, .slice ka2 kn kc2, .string tx] 27)) _ _ _ S1 wb _ _ HED.out HSX.out HCX.out (HPW.out.below (box_belT wr _)))
                      clear hx g0 g1 g2 g3 g4 hkd hpr hkv hrv hkn hrn hkl
                      go_wp2_with fail
                      refine (HREC.out).mono ?_
                      rintro e w8 ⟨rfl, hp8⟩
                      have HE := Lib.hid (hp8.cast (L' := L ++ ([60] ++ S2.data.toList ++ nsD S1 ar ++ enumK dclD t.attrs N ++ enumK valD t.attrs N ++ [62] ++ escF S3.data.toList ++ (t.kids.take (k + 1)).flatMap (fun x => docT D x S1))) (by rw [HEN.out]; simp only [List.append_assoc]))
                      clear hp8 e0 e1 e2 e3 e4
                      go_wp2_with fail
                      go_roundw
                      case rel => exact ⟨k + 1, by omega, by go_num, HE⟩
                      case measure => simp [intOf]; omega
                    · have HPU2 := Lib.hid (HPW.out.puts (pb := wr.heap.size) (cs := #[.string ⟨#[60, 47]⟩, .string S2, .string ⟨#[62]⟩]) (n := 3) rfl [⟨#[60, 47]⟩, S2, ⟨#[62]⟩] rfl rfl (by simp) (parts3 (by show (2 : Nat) ≤ 1152921504606846976; omega) (by omega) (by show (1 : Nat) ≤ 1152921504606846976; omega)))
                      have HTK := Lib.hid (show t.kids.take k = t.kids from List.take_of_length_le (by rw [← HM.out]; omega))
                      go_wp2_with fail
                      refine (HPU2.out).mono ?_
                      rintro e w9 ⟨rfl, hp9⟩
                      have HE := Lib.hid (show PutE W0 wb Z0 (L ++ LD) w9 from (hp9.step HKZ.out).cast (by rw [HD2.out, HTK.out]; simp))
                      clear hp9
                      go_wp2_with fail
                      refine bodyPost_end (results_none rfl _ _ _) rfl ?_
                      exact ⟨rfl, HE.out⟩
end Go.Proofs.YtpcajjbdlfookaaGreatDoor
