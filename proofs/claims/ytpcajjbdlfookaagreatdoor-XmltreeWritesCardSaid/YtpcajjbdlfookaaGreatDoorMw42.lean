/- xmltree: an element's document: the reference. Written by tools/genuk.py. -/
import Derived.Test.YtpcajjbdlfookaaGreatDoorMw37
import Derived.Test.YtpcajjbdlfookaaGreatDoorMw36
import Derived.Test.YtpcajjbdlfookaaGreatDoorMw41
import Derived.Deep.QuietTactic
import Derived.BigQuiet
namespace Go.Proofs.YtpcajjbdlfookaaGreatDoor
open Go Go.RowKit Go.Deep
set_option linter.unusedVariables false
set_option linter.unusedSimpArgs false

theorem rtextS_c (w : World) (i : Nat) (hi : i ≤ 1048576) : ∃ P : ByteArray, P.data.toList = txt (i : Int) ∧ P.size ≤ 25 ∧ ∀ w : World, Calls Tryz.prog 47 #[.int .i64 i] w fun e w' => e = .returned (.string P) ∧ w' = w := by
  refine ⟨⟨(txt (i : Int)).toArray⟩, rfl, txt_size 0 (i : Int) (by omega) (by omega), fun w => (rtext_c 9 (i : Int) w (by omega) (by omega) (by omega)).mono fun e w' hh => ⟨hh.1, hh.2.symm⟩⟩
theorem rescS_c (s : ByteArray) (hs : s.size ≤ 140737488351232) : ∃ P : ByteArray, P.data.toList = escF s.data.toList ∧ P.size ≤ 844424930107392 ∧ ∀ w : World, Calls Tryz.prog 46 #[.string s] w fun e w' => e = .returned (.string P) ∧ w' = w := by
  refine ⟨⟨(escF s.data.toList).toArray⟩, rfl, ?_, fun w => (resc_c w s hs).mono fun e w' hh => ⟨hh.1, hh.2.symm⟩⟩
  have h := escF_len s.data.toList
  rw [size_data] at h
  show (escF s.data.toList).length ≤ _
  omega
theorem apD (a b : ByteArray) : (a ++ b).data.toList = a.data.toList ++ b.data.toList := by simp [ByteArray.data_append]
/-- How written ends. -/
def WtE (d : Nat) (L : List UInt8) (e : Ending) : Prop := ∃ S : ByteArray, e = .returned (.string S) ∧ RT S.data.toList L ∧ S.size ≤ 288230376151711744 + d * 281474976710656

set_option maxRecDepth 100000 in
set_option maxHeartbeats 16000000 in
theorem rwritten_c (W0 : World) : ∀ (D : Nat) (w : World) (v : Value) (t : ET) (ar : ByteArray) (d : Nat), ElemD Any W0 D v t → smK D t → canK d t = true → d ≤ 24 → Below W0.heap.size W0 w →
    Calls Tryz.prog 25 #[v, .string ar] w fun e w' => WtE d (docT D t ar) e ∧ Below w.heap.size w w' := by
  intro D
  induction D with
  | zero => rintro w v t ar d ⟨av, kv, _, _, h⟩; exact h.elim
  | succ D ih =>
    intro w v t ar d h hsm hcan hd24 hb0
    have HIH := Lib.hid ih
    cases d with
    | zero => cases hcan
    | succ d =>
    obtain ⟨hca, hck⟩ := canK_parts hcan
    obtain ⟨av, kv, rfl, hpr, hkd⟩ := h
    obtain ⟨pa, ca, hav, hla0, hcm0⟩ := hpr.form
    obtain ⟨N, hN⟩ : ∃ N, N = t.attrs.length := ⟨_, rfl⟩
    rw [← hN] at hav
    subst hav
    obtain ⟨ka, kc, hkv, hlk0, hckm, -, hrows⟩ := hkd
    obtain ⟨M, hM⟩ : ∃ M, M = t.kids.length := ⟨_, rfl⟩
    rw [← hM] at hkv
    subst hkv
    rw [← hN] at hca
    have HPR := Lib.hid hpr
    have HROW := Lib.hid hrows
    have HN := Lib.hid hN
    have HM := Lib.hid hM
    have HCK := Lib.hid hck
    have hnM : M ≤ 9223372036854775807 := by unfold maxLen at hckm; omega
    obtain ⟨S1, hS1⟩ : ∃ S, S = t.space := ⟨_, rfl⟩
    obtain ⟨S2, hS2⟩ : ∃ S, S = t.name := ⟨_, rfl⟩
    obtain ⟨S3, hS3⟩ : ∃ S, S = t.text := ⟨_, rfl⟩
    rw [← hS1, ← hS2, ← hS3]
    obtain ⟨m1, m2, m3, m4, m5⟩ := hsm
    have HSA := Lib.hid m4
    have HSK := Lib.hid m5
    rw [← hS1] at m1
    rw [← hS2] at m2
    rw [← hS3] at m3
    obtain ⟨Z, hZ⟩ : ∃ Z, Z = w.alloc (.cells #[.string S1, .string S2, .slice pa N ca, .slice ka M kc, .string S3] 27) := ⟨_, rfl⟩
    have hwZ : Below w.heap.size w Z := hZ ▸ box_belT w _
    have HWZ := Lib.hid hwZ
    have H0Z := Lib.hid (hb0.trans (hwZ.mono hb0.size))
    obtain ⟨E1, hE1d, hE1s, hE1c⟩ := rescS_c S1 m1
    obtain ⟨E3, hE3d, hE3s, hE3c⟩ := rescS_c S3 m3
    have HE1D := Lib.hid hE1d
    have HE1C := Lib.hid hE1c
    have HE3D := Lib.hid hE3d
    have HE3C := Lib.hid hE3c
    obtain ⟨bq, tq⟩ : ∃ b, (S1.toList == ar.toList) = b := ⟨_, rfl⟩
    obtain ⟨b7, t7⟩ : ∃ b, S3.toList.isEmpty = b := ⟨_, rfl⟩
    have HNS := Lib.hid (show nsD S1 ar = if bq = true then [] else attD [120, 109, 108, 110, 115] S1.data.toList from by unfold nsD; rw [tq])
    have HD := Lib.hid (show docT (D + 1) t ar = if (b7 && t.kids.isEmpty) = true then ([60] ++ S2.data.toList ++ nsD S1 ar ++ enumK dclD t.attrs N ++ enumK valD t.attrs N) ++ [47, 62] else ([60] ++ S2.data.toList ++ nsD S1 ar ++ enumK dclD t.attrs N ++ enumK valD t.attrs N) ++ [62] ++ escF S3.data.toList ++ t.kids.flatMap (fun k => docT D k S1) ++ [60, 47] ++ S2.data.toList ++ [62] from by
      rw [docT_succ]
      unfold headD
      rw [← hS1, ← hS2, ← hS3, ← hN, t7])
    obtain ⟨LD, hLD⟩ : ∃ LD, LD = docT (D + 1) t ar := ⟨_, rfl⟩
    rw [← hLD] at HD ⊢
    have HB0 := Lib.hid (Below.refl Z.heap.size Z)
    clear ih hpr hrows hN hM hS1 hS2 hS3 hla0 hcm0 hlk0 hckm m4 m5 hwZ hb0 hLD hck hcan hE1d hE1c hE3d hE3c
    subst hZ
    go_enter Tryz.func25, Tryz.ntmps25
    cases bq
    rotate_left
    · have HL1 := Lib.hid (show ((⟨#[60]⟩ : ByteArray) ++ S2).data.toList = [60] ++ S2.data.toList ++ nsD S1 ar ++ enumK dclD t.attrs 0 from by rw [apD, HNS.out]; simp [enumK])
      have hos0 : ((⟨#[60]⟩ : ByteArray) ++ S2).size ≤ 1125899906842624 := by
        rw [ByteArray.size_append]
        have : (ByteArray.mk #[60]).size = 1 := rfl
        omega
      have HBS := HB0
      go_wp2_with fail
      go_loopw [29, 5] (fun i o wr => ∃ (k : Nat) (O : ByteArray), k ≤ N ∧ i = .int .i64 k ∧ o = .string O ∧ Hid (O.data.toList = [60] ++ S2.data.toList ++ nsD S1 ar ++ enumK dclD t.attrs k) ∧ O.size ≤ 1125899906842624 + k * 1125899906842624 ∧ Below (w.alloc (.cells #[.string S1, .string S2, .slice pa N ca, .slice ka M kc, .string S3] 27)).heap.size (w.alloc (.cells #[.string S1, .string S2, .slice pa N ca, .slice ka M kc, .string S3] 27)) wr) (fun i _ _ => N - (intOf i).toNat)
      case atStart => exact ⟨0, _, by omega, rfl, rfl, HL1, by omega, HBS.out⟩
      case round =>
        obtain ⟨k, O, hk, rfl, rfl, HO, hos, hbr⟩ := hrel
        have HBR := Lib.hid hbr
        have HB0R := Lib.hid (H0Z.out.trans (hbr.mono H0Z.out.size))
        obtain ⟨c0, c1, c2, c3, c4, cz⟩ := box5 hbr
        have hlb : w.heap.size < wr.heap.size := by have := hbr.size; simp at this; omega
        clear hbr
        by_cases hlt : k < N
        · have hkl : k < t.attrs.length := by rw [← HN.out]; exact hlt
          obtain ⟨b, o, cc, hv2, hbl, -, g0, g1, g2⟩ := HPR.out.at' hkl
          rw [← HN.out] at hv2
          cases hv2
          have e0 := (HB0R.out.cell (p := ⟨b, o + k * 3, none⟩) hbl).trans g0
          have e1 := (HB0R.out.cell (p := ⟨b, o + k * 3 + 1, none⟩) hbl).trans g1
          have e2 := (HB0R.out.cell (p := ⟨b, o + k * 3 + 2, none⟩) hbl).trans g2
          have HEN := Lib.hid (enumK_next (f := dclD) hkl)
          have HSX := Lib.hid (HSA.out k hkl)
          generalize t.attrs[k] = x at *
          obtain ⟨n1, n2, n3⟩ := x
          dsimp only at e0 e1 e2
          clear g0 g1 g2 hkl
          have hki : k ≤ 1048576 := by omega
          have HBA := Lib.hid (HBR.out.trans ((box_belT wr (.cells #[.string n1, .string n2, .string n3] 58)).mono HBR.out.size))
          obtain ⟨b1, t1⟩ : ∃ b, n1.toList.isEmpty = b := ⟨_, rfl⟩
          obtain ⟨b2, t2⟩ : ∃ b, (n1.toList == [104, 116, 116, 112, 58, 47, 47, 119, 119, 119, 46, 119, 51, 46, 111, 114, 103, 47, 88, 77, 76, 47, 49, 57, 57, 56, 47, 110, 97, 109, 101, 115, 112, 97, 99, 101]) = b := ⟨_, rfl⟩
          have HQ := Lib.hid (show dclD k (n1, n2, n3) = if b1 = true then [] else if b2 = true then [] else attD ([120, 109, 108, 110, 115, 58] ++ pfxD k) n1.data.toList from by unfold dclD; rw [t1, t2])
          have HOSN := Lib.hid (show O.size ≤ 1125899906842624 + (k + 1) * 1125899906842624 from Nat.le_trans hos (Nat.add_le_add_left (Nat.mul_le_mul_right _ (Nat.le_succ k)) _))
          cases b1
          rotate_left
          · have HE := Lib.hid (show O.data.toList = [60] ++ S2.data.toList ++ nsD S1 ar ++ enumK dclD t.attrs (k + 1) from by rw [HEN.out, HQ.out, HO.out]; simp)
            go_wp2_with fail
            go_roundw
            case rel => exact ⟨k + 1, O, by omega, by go_num, rfl, HE, HOSN.out, HBA.out⟩
            case measure => simp [intOf]; omega
          cases b2
          rotate_left
          · have HE := Lib.hid (show O.data.toList = [60] ++ S2.data.toList ++ nsD S1 ar ++ enumK dclD t.attrs (k + 1) from by rw [HEN.out, HQ.out, HO.out]; simp)
            go_wp2_with fail
            go_roundw
            case rel => exact ⟨k + 1, O, by omega, by go_num, rfl, HE, HOSN.out, HBA.out⟩
            case measure => simp [intOf]; omega
          obtain ⟨P, hPD, hps, hPC⟩ := rtextS_c w k hki
          obtain ⟨E, hED, hes, hEC⟩ := rescS_c n1 HSX.out.1
          have HPC := Lib.hid hPC
          have HEC := Lib.hid hEC
          have HPD := Lib.hid hPD
          have HED := Lib.hid hED
          obtain ⟨O2, hO2⟩ : ∃ O2 : ByteArray, O2 = O ++ (((((⟨#[32, 120, 109, 108, 110, 115, 58, 110]⟩ : ByteArray) ++ P) ++ (⟨#[61, 34]⟩ : ByteArray)) ++ E) ++ (⟨#[34]⟩ : ByteArray)) := ⟨_, rfl⟩
          have HE := Lib.hid (show O2.data.toList = [60] ++ S2.data.toList ++ nsD S1 ar ++ enumK dclD t.attrs (k + 1) from by rw [hO2, apD, apD, apD, apD, apD, HEN.out, HQ.out, HO.out, HPD.out, HED.out]; simp [attD, pfxD])
          have HES := Lib.hid (show O2.size ≤ 1125899906842624 + (k + 1) * 1125899906842624 from by
            rw [hO2]
            simp only [ByteArray.size_append]
            have h1 : (ByteArray.mk #[32, 120, 109, 108, 110, 115, 58, 110]).size = 8 := rfl
            have h2 : (ByteArray.mk #[61, 34]).size = 2 := rfl
            have h3 : (ByteArray.mk #[34]).size = 1 := rfl
            omega)
          clear hPC hEC hPD hED
          go_wp2_with fail
          go_quiet (first | (go_at_call 47; exact Calls.quiet_of_same (HPC.out _)) | (go_at_call 46; exact Calls.quiet_of_same (HEC.out _)))
          go_wp2_with fail
          go_roundw
          case rel => exact ⟨k + 1, _, by omega, by go_num, rfl, by rw [← hO2]; exact HE, by rw [← hO2]; exact HES.out, by first | exact HBA.out | exact HBA.out.drew | exact Go.below_drewN HBA.out _⟩
          case measure => simp [intOf]; omega
        · have HL2 := Lib.hid (show O.data.toList = [60] ++ S2.data.toList ++ nsD S1 ar ++ enumK dclD t.attrs N ++ enumK valD t.attrs 0 from by rw [HO.out, show k = N by omega]; simp [enumK])
          have HOL2 := Lib.hid (show O.size ≤ 117093590311632896 + 0 * 1125899906842624 from by omega)
          go_wp2_with fail
          clear c0 c1 c2 c3 c4 cz hos
          go_loopw [57, 5] (fun i o wr => ∃ (k : Nat) (O : ByteArray), k ≤ N ∧ i = .int .i64 k ∧ o = .string O ∧ Hid (O.data.toList = [60] ++ S2.data.toList ++ nsD S1 ar ++ enumK dclD t.attrs N ++ enumK valD t.attrs k) ∧ O.size ≤ 117093590311632896 + k * 1125899906842624 ∧ Below (w.alloc (.cells #[.string S1, .string S2, .slice pa N ca, .slice ka M kc, .string S3] 27)).heap.size (w.alloc (.cells #[.string S1, .string S2, .slice pa N ca, .slice ka M kc, .string S3] 27)) wr) (fun i _ _ => N - (intOf i).toNat)
          case atStart => exact ⟨0, O, by omega, rfl, rfl, HL2, HOL2.out, HBR.out⟩
          case round =>
            obtain ⟨k, O, hk, rfl, rfl, HO, hos, hbr⟩ := hrel
            have HBR := Lib.hid hbr
            have HB0R := Lib.hid (H0Z.out.trans (hbr.mono H0Z.out.size))
            obtain ⟨c0, c1, c2, c3, c4, cz⟩ := box5 hbr
            have hlb : w.heap.size < wr.heap.size := by have := hbr.size; simp at this; omega
            clear hbr
            by_cases hlt : k < N
            · have hkl : k < t.attrs.length := by rw [← HN.out]; exact hlt
              obtain ⟨b, o, cc, hv2, hbl, -, g0, g1, g2⟩ := HPR.out.at' hkl
              rw [← HN.out] at hv2
              cases hv2
              have e0 := (HB0R.out.cell (p := ⟨b, o + k * 3, none⟩) hbl).trans g0
              have e1 := (HB0R.out.cell (p := ⟨b, o + k * 3 + 1, none⟩) hbl).trans g1
              have e2 := (HB0R.out.cell (p := ⟨b, o + k * 3 + 2, none⟩) hbl).trans g2
              have HEN := Lib.hid (enumK_next (f := valD) hkl)
              have HSX := Lib.hid (HSA.out k hkl)
              generalize t.attrs[k] = x at *
              obtain ⟨n1, n2, n3⟩ := x
              dsimp only at e0 e1 e2
              clear g0 g1 g2 hkl
              have hki : k ≤ 1048576 := by omega
              obtain ⟨s1, s2, s3⟩ := HSX.out
              dsimp only at s1 s2 s3
              have HBA := Lib.hid (HBR.out.trans ((box_belT wr (.cells #[.string n1, .string n2, .string n3] 58)).mono HBR.out.size))
              obtain ⟨b1, t1⟩ : ∃ b, n1.toList.isEmpty = b := ⟨_, rfl⟩
              obtain ⟨b2, t2⟩ : ∃ b, (n1.toList == [104, 116, 116, 112, 58, 47, 47, 119, 119, 119, 46, 119, 51, 46, 111, 114, 103, 47, 88, 77, 76, 47, 49, 57, 57, 56, 47, 110, 97, 109, 101, 115, 112, 97, 99, 101]) = b := ⟨_, rfl⟩
              have HQ := Lib.hid (show qualD k (n1, n2, n3) = if b1 = true then n2.data.toList else if b2 = true then [120, 109, 108, 58] ++ n2.data.toList else pfxD k ++ [58] ++ n2.data.toList from by unfold qualD; rw [t1, t2])
              have HX12 := Lib.hid (show b2 = true → b1 = true → False from by
                rw [← t1, ← t2]
                intro h1 h2
                rw [beq_iff_eq.1 h1] at h2
                cases h2)
              obtain ⟨P, hPD, hps, hPC⟩ := rtextS_c w k hki
              obtain ⟨E, hED, hes, hEC⟩ := rescS_c n3 s3
              have HPC := Lib.hid hPC
              have HEC := Lib.hid hEC
              have HPD := Lib.hid hPD
              have HED := Lib.hid hED
              have HSUF := Lib.hid (show ∀ (O1 : ByteArray), O1.data.toList = [60] ++ S2.data.toList ++ nsD S1 ar ++ enumK dclD t.attrs N ++ enumK valD t.attrs k ++ [32] ++ (qualD k (n1, n2, n3)).take ((qualD k (n1, n2, n3)).length - n2.data.toList.length) → (qualD k (n1, n2, n3)) = (qualD k (n1, n2, n3)).take ((qualD k (n1, n2, n3)).length - n2.data.toList.length) ++ n2.data.toList → O1.size ≤ 117093590311632896 + k * 1125899906842624 + 31 → (O1 ++ (((n2 ++ (⟨#[61, 34]⟩ : ByteArray)) ++ E) ++ (⟨#[34]⟩ : ByteArray))).data.toList = [60] ++ S2.data.toList ++ nsD S1 ar ++ enumK dclD t.attrs N ++ enumK valD t.attrs (k + 1) ∧ (O1 ++ (((n2 ++ (⟨#[61, 34]⟩ : ByteArray)) ++ E) ++ (⟨#[34]⟩ : ByteArray))).size ≤ 117093590311632896 + (k + 1) * 1125899906842624 from by
                intro O1 h1 h2 h3
                constructor
                · rw [apD, apD, apD, apD, HEN.out, h1, HED.out]
                  unfold valD attD
                  dsimp only
                  conv => rhs; rw [h2]
                  simp
                · simp only [ByteArray.size_append]
                  have q2 : (ByteArray.mk #[61, 34]).size = 2 := rfl
                  have q3 : (ByteArray.mk #[34]).size = 1 := rfl
                  omega)
              clear hPC hEC hPD hED
              cases b2
              · cases b1
                · obtain ⟨O2, hO2⟩ : ∃ O2 : ByteArray, O2 = (O ++ (⟨#[32]⟩ : ByteArray)) ++ (((⟨#[110]⟩ : ByteArray) ++ P) ++ (⟨#[58]⟩ : ByteArray)) := ⟨_, rfl⟩
                  have HQ' : qualD k (n1, n2, n3) = (pfxD k ++ [58]) ++ n2.data.toList := HQ.out
                  have htk : (qualD k (n1, n2, n3)).take ((qualD k (n1, n2, n3)).length - n2.data.toList.length) = pfxD k ++ [58] := by rw [HQ', List.length_append, Nat.add_sub_cancel]; exact List.take_left
                  have hos2 : O2.size ≤ 117093590311632896 + k * 1125899906842624 + 31 := by
                    rw [hO2]
                    simp only [ByteArray.size_append]
                    have h1 : (ByteArray.mk #[32]).size = 1 := rfl
                    have h2 : (ByteArray.mk #[110]).size = 1 := rfl
                    have h3 : (ByteArray.mk #[58]).size = 1 := rfl
                    omega
                  have HF := Lib.hid (HSUF.out O2 (by rw [htk, hO2, apD, apD, apD, apD, HO.out, HPD.out]; simp [pfxD]) (by rw [htk]; exact HQ') hos2)
                  clear HQ' htk
                  go_wp2_with fail
                  refine (HPC.out _).mono ?_
                  rintro e w3 ⟨rfl, rfl⟩
                  go_wp2_with fail
                  rw [← hO2]
                  clear hO2
                  go_quiet ((go_at_call 46; exact Calls.quiet_of_same (HEC.out _)))
                  go_wp2_with fail
                  go_roundw
                  case rel => exact ⟨k + 1, _, by omega, by go_num, rfl, Lib.hid HF.out.1, HF.out.2, by first | exact HBA.out | exact HBA.out.drew | exact Go.below_drewN HBA.out _⟩
                  case measure => simp [intOf]; omega
                · have HQ' : qualD k (n1, n2, n3) = [] ++ n2.data.toList := HQ.out
                  have htk : (qualD k (n1, n2, n3)).take ((qualD k (n1, n2, n3)).length - n2.data.toList.length) = [] := by rw [HQ', List.nil_append, Nat.sub_self]; rfl
                  obtain ⟨O2, hO2⟩ : ∃ O2 : ByteArray, O2 = O ++ (⟨#[32]⟩ : ByteArray) := ⟨_, rfl⟩
                  have hos2 : O2.size ≤ 117093590311632896 + k * 1125899906842624 + 31 := by
                    rw [hO2, ByteArray.size_append]
                    have h1 : (ByteArray.mk #[32]).size = 1 := rfl
                    omega
                  have HF := Lib.hid (HSUF.out O2 (by rw [htk, hO2, apD, HO.out]; simp) (by rw [htk]; exact HQ') hos2)
                  clear HQ' htk
                  have hO2' := hO2.symm
                  clear hO2
                  go_wp2_with fail
                  go_quiet ((go_at_call 46; exact Calls.quiet_of_same (HEC.out _)))
                  go_wp2_with fail
                  go_roundw
                  case rel => exact ⟨k + 1, _, by omega, by go_num, rfl, Lib.hid HF.out.1, HF.out.2, by first | exact HBA.out | exact HBA.out.drew | exact Go.below_drewN HBA.out _⟩
                  case measure => simp [intOf]; omega
              · have hb1 : b1 = false := by cases b1; rfl; exact (HX12.out rfl rfl).elim
                subst hb1
                have HQ' : qualD k (n1, n2, n3) = [120, 109, 108, 58] ++ n2.data.toList := HQ.out
                have htk : (qualD k (n1, n2, n3)).take ((qualD k (n1, n2, n3)).length - n2.data.toList.length) = [120, 109, 108, 58] := by rw [HQ', List.length_append, Nat.add_sub_cancel]; exact List.take_left
                obtain ⟨O2, hO2⟩ : ∃ O2 : ByteArray, O2 = (O ++ (⟨#[32]⟩ : ByteArray)) ++ (⟨#[120, 109, 108, 58]⟩ : ByteArray) := ⟨_, rfl⟩
                have hos2 : O2.size ≤ 117093590311632896 + k * 1125899906842624 + 31 := by
                  rw [hO2]
                  simp only [ByteArray.size_append]
                  have h1 : (ByteArray.mk #[32]).size = 1 := rfl
                  have h2 : (ByteArray.mk #[120, 109, 108, 58]).size = 4 := rfl
                  omega
                have HF := Lib.hid (HSUF.out O2 (by rw [htk, hO2, apD, apD, HO.out]) (by rw [htk]; exact HQ') hos2)
                clear HQ' htk
                have hO2' := hO2.symm
                clear hO2
                go_wp2_with fail
                go_quiet ((go_at_call 46; exact Calls.quiet_of_same (HEC.out _)))
                go_wp2_with fail
                go_roundw
                case rel => exact ⟨k + 1, _, by omega, by go_num, rfl, Lib.hid HF.out.1, HF.out.2, by first | exact HBA.out | exact HBA.out.drew | exact Go.below_drewN HBA.out _⟩
                case measure => simp [intOf]; omega
            · skip
              have HBE := HBR
              obtain ⟨HD0, hHD0⟩ : ∃ HD0, HD0 = [60] ++ S2.data.toList ++ nsD S1 ar ++ enumK dclD t.attrs N ++ enumK valD t.attrs N := ⟨_, rfl⟩
              have HO3 := Lib.hid (show O.data.toList = HD0 from by rw [hHD0, HO.out, show k = N by omega])
              have hos3 : O.size ≤ 234187180623265792 := by omega
              clear hos
              cases b7
              · have HD2 := Lib.hid (show LD = _ from HD.out.trans (if_neg (by simp)))
                rw [← hHD0] at HD2
                go_wp2_with fail
                obtain ⟨OT, hOT⟩ : ∃ OT : ByteArray, OT = O ++ ((⟨#[62]⟩ : ByteArray) ++ E3) := ⟨_, rfl⟩
                have HOTD := Lib.hid (show OT.data.toList = HD0 ++ [62] ++ escF S3.data.toList from by rw [hOT, apD, apD, HO3.out, HE3D.out]; simp)
                have HOTS := Lib.hid (show OT.size ≤ 236439380127875072 from by
                  rw [hOT, ByteArray.size_append, ByteArray.size_append]
                  have : (ByteArray.mk #[62]).size = 1 := rfl
                  omega)
                go_wp2_with fail
                refine (HE3C.out _).mono ?_
                rintro e w7 ⟨rfl, rfl⟩
                go_wp2_with fail
                rw [← hOT]
                clear c0 c1 c2 c3 c4 cz hOT
                go_loopw [109, 5] (fun i o wr => ∃ (k : Nat) (O : ByteArray), k ≤ M ∧ i = .int .i64 k ∧ o = .string O ∧ Hid (RT O.data.toList (HD0 ++ [62] ++ escF S3.data.toList ++ (t.kids.take k).flatMap (fun x => docT D x S1))) ∧ O.size ≤ 288230376151777280 + d * 281474976710656 ∧ Below (w.alloc (.cells #[.string S1, .string S2, .slice pa N ca, .slice ka M kc, .string S3] 27)).heap.size (w.alloc (.cells #[.string S1, .string S2, .slice pa N ca, .slice ka M kc, .string S3] 27)) wr) (fun i _ _ => M - (intOf i).toNat)
                case atStart => exact ⟨0, OT, by omega, rfl, rfl, Lib.hid (by rw [HOTD.out]; simp; exact RT.refl _), by have := HOTS.out; omega, HBE.out⟩
                case round =>
                  obtain ⟨k, O, hk, rfl, rfl, HO, hos, hbr⟩ := hrel
                  have HBR := Lib.hid hbr
                  have HB0R := Lib.hid (H0Z.out.trans (hbr.mono H0Z.out.size))
                  obtain ⟨c0, c1, c2, c3, c4, cz⟩ := box5 hbr
                  have hlb : w.heap.size < wr.heap.size := by have := hbr.size; simp at this; omega
                  clear hbr
                  by_cases hlt : k < M
                  · obtain ⟨g, o, ha, hgl, -, hx⟩ := HROW.out (by rw [← HM.out]; omega)
                    have hkl : k < t.kids.length := by rw [← HM.out]; exact hlt
                    obtain ⟨av, kv, ⟨g0, g1, g2, g3, g4⟩, hpr, hkd⟩ := hx k hkl
                    subst ha
                    obtain ⟨ka2, kc2, hkv, -⟩ := hkd.form
                    obtain ⟨ra, rc, hrv, -⟩ := hpr.form
                    have HED := Lib.hid (show ElemD Any W0 D (.agg #[.string t.kids[k].space, .string t.kids[k].name, av, kv, .string t.kids[k].text]) t.kids[k] from ⟨av, kv, rfl, hpr, hkd⟩)
                    rw [hrv, hkv] at HED
                    rw [hkv] at g3
                    rw [hrv] at g2
                    have e0 := (HB0R.out.cell (p := ⟨g, o + k * 5, none⟩) hgl).trans g0
                    have e1 := (HB0R.out.cell (p := ⟨g, o + k * 5 + 1, none⟩) hgl).trans g1
                    have e2 := (HB0R.out.cell (p := ⟨g, o + k * 5 + 2, none⟩) hgl).trans g2
                    have e3 := (HB0R.out.cell (p := ⟨g, o + k * 5 + 3, none⟩) hgl).trans g3
                    have e4 := (HB0R.out.cell (p := ⟨g, o + k * 5 + 4, none⟩) hgl).trans g4
                    have HEN := Lib.hid (kids_next (fun x => docT D x S1) hkl)
                    have HSX := Lib.hid (HSK.out k hkl)
                    have HCX := Lib.hid (HCK.out k hkl)
                    have HSP := Lib.hid (kids_split (l := t.kids) k (fun x => docT D x S1))
                    generalize t.kids[k] = x at *
                    obtain ⟨sp, nm, at2, ki, tx⟩ := x
                    dsimp only [ET.space, ET.name, ET.text, ET.attrs, ET.kids] at e0 e1 e2 e3 e4 HED
                    generalize hkn : ki.length = kn at *
                    generalize hrn : at2.length = rn at *
                    have HBA := Lib.hid (HBR.out.trans ((box_belT wr (.cells #[.string sp, .string nm, .slice ra rn rc, .slice ka2 kn kc2, .string tx] 27)).mono HBR.out.size))
                    have HREC := Lib.hid (HIH.out (wr.alloc (.cells #[.string sp, .string nm, .slice ra rn rc, .slice ka2 kn kc2, .string tx] 27)) _ _ S1 d HED.out HSX.out HCX.out (by omega) (HB0R.out.trans ((box_belT wr _).mono HB0R.out.size)))
                    clear hx g0 g1 g2 g3 g4 hkd hpr hkv hrv hkn hrn hkl
                    by_cases hlong : 65536 < O.size
                    · have hql : decide ((65536 : Int) < (O.size : Int)) = true := decide_eq_true (by omega)
                      have HE := Lib.hid (show RT O.data.toList LD from by
                        have h1 := HO.out.stop (by rw [size_data]; exact hlong) ((t.kids.drop k).flatMap (fun x => docT D x S1) ++ [60, 47] ++ S2.data.toList ++ [62])
                        rw [HD2.out, HSP.out]
                        simpa only [List.append_assoc] using h1)
                      clear hlong
                      go_wp2_with fail
                      go_ret
                      exact ⟨⟨O, rfl, HE.out, by omega⟩, HWZ.out.trans (HBA.out.mono HWZ.out.size)⟩
                    have hql : decide ((65536 : Int) < (O.size : Int)) = false := decide_eq_false (by omega)
                    have hos2 : O.size ≤ 65536 := by omega
                    clear hlong hos
                    go_wp2_with fail
                    refine (HREC.out).mono ?_
                    rintro e w8 ⟨⟨X, rfl, hx1, hx2⟩, hb⟩
                    have HX1 := Lib.hid hx1
                    have HB8 := Lib.hid (HBA.out.trans (hb.mono HBA.out.size))
                    have HE := Lib.hid (show RT (O ++ X).data.toList (HD0 ++ [62] ++ escF S3.data.toList ++ (t.kids.take (k + 1)).flatMap (fun x => docT D x S1)) from by
                      rw [HEN.out, apD, ← List.append_assoc]
                      exact HO.out.app HX1.out)
                    have HES := Lib.hid (show (O ++ X).size ≤ 288230376151777280 + d * 281474976710656 from by rw [ByteArray.size_append]; omega)
                    clear hb hx1 e0 e1 e2 e3 e4
                    go_wp2_with fail
                    go_roundw
                    case rel => exact ⟨k + 1, O ++ X, by omega, by go_num, rfl, HE, HES.out, HB8.out⟩
                    case measure => simp [intOf]; omega
                  · have HTK := Lib.hid (show t.kids.take k = t.kids from List.take_of_length_le (by rw [← HM.out]; omega))
                    have HE := Lib.hid (show RT (((O ++ (⟨#[60, 47]⟩ : ByteArray)) ++ S2) ++ (⟨#[62]⟩ : ByteArray)).data.toList LD from by
                      rw [HD2.out, apD, apD, apD]
                      have h1 := HO.out
                      rw [HTK.out] at h1
                      exact ((h1.app (RT.refl [60, 47])).app (RT.refl S2.data.toList)).app (RT.refl [62]))
                    have HES := Lib.hid (show (((O ++ (⟨#[60, 47]⟩ : ByteArray)) ++ S2) ++ (⟨#[62]⟩ : ByteArray)).size ≤ 288230376151711744 + (d + 1) * 281474976710656 from by
                      rw [ByteArray.size_append, ByteArray.size_append, ByteArray.size_append]
                      have h1 : (ByteArray.mk #[62]).size = 1 := rfl
                      have h2 : (ByteArray.mk #[60, 47]).size = 2 := rfl
                      omega)
                    go_wp2_with fail
                    go_ret
                    exact ⟨⟨_, rfl, HE.out, HES.out⟩, HWZ.out.trans (HBR.out.mono HWZ.out.size)⟩
              · by_cases hm0 : M = 0
                · have HD2 := Lib.hid (show LD = _ from HD.out.trans (if_pos (by rw [Bool.true_and, List.isEmpty_iff]; exact List.eq_nil_of_length_eq_zero (by rw [← HM.out]; exact hm0))))
                  rw [← hHD0] at HD2
                  have hqm : ((M : Int) == 0) = true := by rw [beq_iff_eq]; omega
                  have HE := Lib.hid (show RT (O ++ (⟨#[47, 62]⟩ : ByteArray)).data.toList LD from by rw [HD2.out, apD, HO3.out]; exact RT.refl _)
                  have HES := Lib.hid (show (O ++ (⟨#[47, 62]⟩ : ByteArray)).size ≤ 288230376151711744 + (d + 1) * 281474976710656 from by
                    rw [ByteArray.size_append]
                    have h2 : (ByteArray.mk #[47, 62]).size = 2 := rfl
                    omega)
                  clear hm0
                  go_wp2_with fail
                  go_ret
                  exact ⟨⟨_, rfl, HE.out, HES.out⟩, HWZ.out.trans (HBE.out.mono HWZ.out.size)⟩
                · have HD2 := Lib.hid (show LD = _ from HD.out.trans (if_neg (by
                    rw [Bool.true_and, List.isEmpty_iff]
                    intro he
                    rw [he] at HM
                    exact hm0 HM.out)))
                  rw [← hHD0] at HD2
                  have hqm : ((M : Int) == 0) = false := by rw [beq_eq_false_iff_ne]; omega
                  clear hm0
                  go_wp2_with fail
                  obtain ⟨OT, hOT⟩ : ∃ OT : ByteArray, OT = O ++ ((⟨#[62]⟩ : ByteArray) ++ E3) := ⟨_, rfl⟩
                  have HOTD := Lib.hid (show OT.data.toList = HD0 ++ [62] ++ escF S3.data.toList from by rw [hOT, apD, apD, HO3.out, HE3D.out]; simp)
                  have HOTS := Lib.hid (show OT.size ≤ 236439380127875072 from by
                    rw [hOT, ByteArray.size_append, ByteArray.size_append]
                    have : (ByteArray.mk #[62]).size = 1 := rfl
                    omega)
                  go_wp2_with fail
                  refine (HE3C.out _).mono ?_
                  rintro e w7 ⟨rfl, rfl⟩
                  go_wp2_with fail
                  rw [← hOT]
                  clear c0 c1 c2 c3 c4 cz hOT
                  go_loopw [109, 5] (fun i o wr => ∃ (k : Nat) (O : ByteArray), k ≤ M ∧ i = .int .i64 k ∧ o = .string O ∧ Hid (RT O.data.toList (HD0 ++ [62] ++ escF S3.data.toList ++ (t.kids.take k).flatMap (fun x => docT D x S1))) ∧ O.size ≤ 288230376151777280 + d * 281474976710656 ∧ Below (w.alloc (.cells #[.string S1, .string S2, .slice pa N ca, .slice ka M kc, .string S3] 27)).heap.size (w.alloc (.cells #[.string S1, .string S2, .slice pa N ca, .slice ka M kc, .string S3] 27)) wr) (fun i _ _ => M - (intOf i).toNat)
                  case atStart => exact ⟨0, OT, by omega, rfl, rfl, Lib.hid (by rw [HOTD.out]; simp; exact RT.refl _), by have := HOTS.out; omega, HBE.out⟩
                  case round =>
                    obtain ⟨k, O, hk, rfl, rfl, HO, hos, hbr⟩ := hrel
                    have HBR := Lib.hid hbr
                    have HB0R := Lib.hid (H0Z.out.trans (hbr.mono H0Z.out.size))
                    obtain ⟨c0, c1, c2, c3, c4, cz⟩ := box5 hbr
                    have hlb : w.heap.size < wr.heap.size := by have := hbr.size; simp at this; omega
                    clear hbr
                    by_cases hlt : k < M
                    · obtain ⟨g, o, ha, hgl, -, hx⟩ := HROW.out (by rw [← HM.out]; omega)
                      have hkl : k < t.kids.length := by rw [← HM.out]; exact hlt
                      obtain ⟨av, kv, ⟨g0, g1, g2, g3, g4⟩, hpr, hkd⟩ := hx k hkl
                      subst ha
                      obtain ⟨ka2, kc2, hkv, -⟩ := hkd.form
                      obtain ⟨ra, rc, hrv, -⟩ := hpr.form
                      have HED := Lib.hid (show ElemD Any W0 D (.agg #[.string t.kids[k].space, .string t.kids[k].name, av, kv, .string t.kids[k].text]) t.kids[k] from ⟨av, kv, rfl, hpr, hkd⟩)
                      rw [hrv, hkv] at HED
                      rw [hkv] at g3
                      rw [hrv] at g2
                      have e0 := (HB0R.out.cell (p := ⟨g, o + k * 5, none⟩) hgl).trans g0
                      have e1 := (HB0R.out.cell (p := ⟨g, o + k * 5 + 1, none⟩) hgl).trans g1
                      have e2 := (HB0R.out.cell (p := ⟨g, o + k * 5 + 2, none⟩) hgl).trans g2
                      have e3 := (HB0R.out.cell (p := ⟨g, o + k * 5 + 3, none⟩) hgl).trans g3
                      have e4 := (HB0R.out.cell (p := ⟨g, o + k * 5 + 4, none⟩) hgl).trans g4
                      have HEN := Lib.hid (kids_next (fun x => docT D x S1) hkl)
                      have HSX := Lib.hid (HSK.out k hkl)
                      have HCX := Lib.hid (HCK.out k hkl)
                      have HSP := Lib.hid (kids_split (l := t.kids) k (fun x => docT D x S1))
                      generalize t.kids[k] = x at *
                      obtain ⟨sp, nm, at2, ki, tx⟩ := x
                      dsimp only [ET.space, ET.name, ET.text, ET.attrs, ET.kids] at e0 e1 e2 e3 e4 HED
                      generalize hkn : ki.length = kn at *
                      generalize hrn : at2.length = rn at *
                      have HBA := Lib.hid (HBR.out.trans ((box_belT wr (.cells #[.string sp, .string nm, .slice ra rn rc, .slice ka2 kn kc2, .string tx] 27)).mono HBR.out.size))
                      have HREC := Lib.hid (HIH.out (wr.alloc (.cells #[.string sp, .string nm, .slice ra rn rc, .slice ka2 kn kc2, .string tx] 27)) _ _ S1 d HED.out HSX.out HCX.out (by omega) (HB0R.out.trans ((box_belT wr _).mono HB0R.out.size)))
                      clear hx g0 g1 g2 g3 g4 hkd hpr hkv hrv hkn hrn hkl
                      by_cases hlong : 65536 < O.size
                      · have hql : decide ((65536 : Int) < (O.size : Int)) = true := decide_eq_true (by omega)
                        have HE := Lib.hid (show RT O.data.toList LD from by
                          have h1 := HO.out.stop (by rw [size_data]; exact hlong) ((t.kids.drop k).flatMap (fun x => docT D x S1) ++ [60, 47] ++ S2.data.toList ++ [62])
                          rw [HD2.out, HSP.out]
                          simpa only [List.append_assoc] using h1)
                        clear hlong
                        go_wp2_with fail
                        go_ret
                        exact ⟨⟨O, rfl, HE.out, by omega⟩, HWZ.out.trans (HBA.out.mono HWZ.out.size)⟩
                      have hql : decide ((65536 : Int) < (O.size : Int)) = false := decide_eq_false (by omega)
                      have hos2 : O.size ≤ 65536 := by omega
                      clear hlong hos
                      go_wp2_with fail
                      refine (HREC.out).mono ?_
                      rintro e w8 ⟨⟨X, rfl, hx1, hx2⟩, hb⟩
                      have HX1 := Lib.hid hx1
                      have HB8 := Lib.hid (HBA.out.trans (hb.mono HBA.out.size))
                      have HE := Lib.hid (show RT (O ++ X).data.toList (HD0 ++ [62] ++ escF S3.data.toList ++ (t.kids.take (k + 1)).flatMap (fun x => docT D x S1)) from by
                        rw [HEN.out, apD, ← List.append_assoc]
                        exact HO.out.app HX1.out)
                      have HES := Lib.hid (show (O ++ X).size ≤ 288230376151777280 + d * 281474976710656 from by rw [ByteArray.size_append]; omega)
                      clear hb hx1 e0 e1 e2 e3 e4
                      go_wp2_with fail
                      go_roundw
                      case rel => exact ⟨k + 1, O ++ X, by omega, by go_num, rfl, HE, HES.out, HB8.out⟩
                      case measure => simp [intOf]; omega
                    · have HTK := Lib.hid (show t.kids.take k = t.kids from List.take_of_length_le (by rw [← HM.out]; omega))
                      have HE := Lib.hid (show RT (((O ++ (⟨#[60, 47]⟩ : ByteArray)) ++ S2) ++ (⟨#[62]⟩ : ByteArray)).data.toList LD from by
                        rw [HD2.out, apD, apD, apD]
                        have h1 := HO.out
                        rw [HTK.out] at h1
                        exact ((h1.app (RT.refl [60, 47])).app (RT.refl S2.data.toList)).app (RT.refl [62]))
                      have HES := Lib.hid (show (((O ++ (⟨#[60, 47]⟩ : ByteArray)) ++ S2) ++ (⟨#[62]⟩ : ByteArray)).size ≤ 288230376151711744 + (d + 1) * 281474976710656 from by
                        rw [ByteArray.size_append, ByteArray.size_append, ByteArray.size_append]
                        have h1 : (ByteArray.mk #[62]).size = 1 := rfl
                        have h2 : (ByteArray.mk #[60, 47]).size = 2 := rfl
                        omega)
                      go_wp2_with fail
                      go_ret
                      exact ⟨⟨_, rfl, HE.out, HES.out⟩, HWZ.out.trans (HBR.out.mono HWZ.out.size)⟩
    · obtain ⟨O1, hO1⟩ : ∃ O1 : ByteArray, O1 = ((⟨#[60]⟩ : ByteArray) ++ S2) ++ (((⟨#[32, 120, 109, 108, 110, 115, 61, 34]⟩ : ByteArray) ++ E1) ++ (⟨#[34]⟩ : ByteArray)) := ⟨_, rfl⟩
      have HL1 := Lib.hid (show O1.data.toList = [60] ++ S2.data.toList ++ nsD S1 ar ++ enumK dclD t.attrs 0 from by rw [hO1, apD, apD, apD, apD, HE1D.out, HNS.out]; simp [enumK, attD])
      have hos0 : O1.size ≤ 1125899906842624 := by
        rw [hO1]
        simp only [ByteArray.size_append]
        have h1 : (ByteArray.mk #[60]).size = 1 := rfl
        have h2 : (ByteArray.mk #[32, 120, 109, 108, 110, 115, 61, 34]).size = 8 := rfl
        have h3 : (ByteArray.mk #[34]).size = 1 := rfl
        omega
      have hO1' := hO1.symm
      clear hO1
      go_wp2_with fail
      refine (HE1C.out _).mono ?_
      rintro e w2 ⟨rfl, rfl⟩
      have HBS := HB0
      go_wp2_with fail
      go_loopw [29, 5] (fun i o wr => ∃ (k : Nat) (O : ByteArray), k ≤ N ∧ i = .int .i64 k ∧ o = .string O ∧ Hid (O.data.toList = [60] ++ S2.data.toList ++ nsD S1 ar ++ enumK dclD t.attrs k) ∧ O.size ≤ 1125899906842624 + k * 1125899906842624 ∧ Below (w.alloc (.cells #[.string S1, .string S2, .slice pa N ca, .slice ka M kc, .string S3] 27)).heap.size (w.alloc (.cells #[.string S1, .string S2, .slice pa N ca, .slice ka M kc, .string S3] 27)) wr) (fun i _ _ => N - (intOf i).toNat)
      case atStart => exact ⟨0, _, by omega, rfl, rfl, HL1, by omega, HBS.out⟩
      case round =>
        obtain ⟨k, O, hk, rfl, rfl, HO, hos, hbr⟩ := hrel
        have HBR := Lib.hid hbr
        have HB0R := Lib.hid (H0Z.out.trans (hbr.mono H0Z.out.size))
        obtain ⟨c0, c1, c2, c3, c4, cz⟩ := box5 hbr
        have hlb : w.heap.size < wr.heap.size := by have := hbr.size; simp at this; omega
        clear hbr
        by_cases hlt : k < N
        · have hkl : k < t.attrs.length := by rw [← HN.out]; exact hlt
          obtain ⟨b, o, cc, hv2, hbl, -, g0, g1, g2⟩ := HPR.out.at' hkl
          rw [← HN.out] at hv2
          cases hv2
          have e0 := (HB0R.out.cell (p := ⟨b, o + k * 3, none⟩) hbl).trans g0
          have e1 := (HB0R.out.cell (p := ⟨b, o + k * 3 + 1, none⟩) hbl).trans g1
          have e2 := (HB0R.out.cell (p := ⟨b, o + k * 3 + 2, none⟩) hbl).trans g2
          have HEN := Lib.hid (enumK_next (f := dclD) hkl)
          have HSX := Lib.hid (HSA.out k hkl)
          generalize t.attrs[k] = x at *
          obtain ⟨n1, n2, n3⟩ := x
          dsimp only at e0 e1 e2
          clear g0 g1 g2 hkl
          have hki : k ≤ 1048576 := by omega
          have HBA := Lib.hid (HBR.out.trans ((box_belT wr (.cells #[.string n1, .string n2, .string n3] 58)).mono HBR.out.size))
          obtain ⟨b1, t1⟩ : ∃ b, n1.toList.isEmpty = b := ⟨_, rfl⟩
          obtain ⟨b2, t2⟩ : ∃ b, (n1.toList == [104, 116, 116, 112, 58, 47, 47, 119, 119, 119, 46, 119, 51, 46, 111, 114, 103, 47, 88, 77, 76, 47, 49, 57, 57, 56, 47, 110, 97, 109, 101, 115, 112, 97, 99, 101]) = b := ⟨_, rfl⟩
          have HQ := Lib.hid (show dclD k (n1, n2, n3) = if b1 = true then [] else if b2 = true then [] else attD ([120, 109, 108, 110, 115, 58] ++ pfxD k) n1.data.toList from by unfold dclD; rw [t1, t2])
          have HOSN := Lib.hid (show O.size ≤ 1125899906842624 + (k + 1) * 1125899906842624 from Nat.le_trans hos (Nat.add_le_add_left (Nat.mul_le_mul_right _ (Nat.le_succ k)) _))
          cases b1
          rotate_left
          · have HE := Lib.hid (show O.data.toList = [60] ++ S2.data.toList ++ nsD S1 ar ++ enumK dclD t.attrs (k + 1) from by rw [HEN.out, HQ.out, HO.out]; simp)
            go_wp2_with fail
            go_roundw
            case rel => exact ⟨k + 1, O, by omega, by go_num, rfl, HE, HOSN.out, HBA.out⟩
            case measure => simp [intOf]; omega
          cases b2
          rotate_left
          · have HE := Lib.hid (show O.data.toList = [60] ++ S2.data.toList ++ nsD S1 ar ++ enumK dclD t.attrs (k + 1) from by rw [HEN.out, HQ.out, HO.out]; simp)
            go_wp2_with fail
            go_roundw
            case rel => exact ⟨k + 1, O, by omega, by go_num, rfl, HE, HOSN.out, HBA.out⟩
            case measure => simp [intOf]; omega
          obtain ⟨P, hPD, hps, hPC⟩ := rtextS_c w k hki
          obtain ⟨E, hED, hes, hEC⟩ := rescS_c n1 HSX.out.1
          have HPC := Lib.hid hPC
          have HEC := Lib.hid hEC
          have HPD := Lib.hid hPD
          have HED := Lib.hid hED
          obtain ⟨O2, hO2⟩ : ∃ O2 : ByteArray, O2 = O ++ (((((⟨#[32, 120, 109, 108, 110, 115, 58, 110]⟩ : ByteArray) ++ P) ++ (⟨#[61, 34]⟩ : ByteArray)) ++ E) ++ (⟨#[34]⟩ : ByteArray)) := ⟨_, rfl⟩
          have HE := Lib.hid (show O2.data.toList = [60] ++ S2.data.toList ++ nsD S1 ar ++ enumK dclD t.attrs (k + 1) from by rw [hO2, apD, apD, apD, apD, apD, HEN.out, HQ.out, HO.out, HPD.out, HED.out]; simp [attD, pfxD])
          have HES := Lib.hid (show O2.size ≤ 1125899906842624 + (k + 1) * 1125899906842624 from by
            rw [hO2]
            simp only [ByteArray.size_append]
            have h1 : (ByteArray.mk #[32, 120, 109, 108, 110, 115, 58, 110]).size = 8 := rfl
            have h2 : (ByteArray.mk #[61, 34]).size = 2 := rfl
            have h3 : (ByteArray.mk #[34]).size = 1 := rfl
            omega)
          clear hPC hEC hPD hED
          go_wp2_with fail
          go_quiet (first | (go_at_call 47; exact Calls.quiet_of_same (HPC.out _)) | (go_at_call 46; exact Calls.quiet_of_same (HEC.out _)))
          go_wp2_with fail
          go_roundw
          case rel => exact ⟨k + 1, _, by omega, by go_num, rfl, by rw [← hO2]; exact HE, by rw [← hO2]; exact HES.out, by first | exact HBA.out | exact HBA.out.drew | exact Go.below_drewN HBA.out _⟩
          case measure => simp [intOf]; omega
        · have HL2 := Lib.hid (show O.data.toList = [60] ++ S2.data.toList ++ nsD S1 ar ++ enumK dclD t.attrs N ++ enumK valD t.attrs 0 from by rw [HO.out, show k = N by omega]; simp [enumK])
          have HOL2 := Lib.hid (show O.size ≤ 117093590311632896 + 0 * 1125899906842624 from by omega)
          go_wp2_with fail
          clear c0 c1 c2 c3 c4 cz hos
          go_loopw [57, 5] (fun i o wr => ∃ (k : Nat) (O : ByteArray), k ≤ N ∧ i = .int .i64 k ∧ o = .string O ∧ Hid (O.data.toList = [60] ++ S2.data.toList ++ nsD S1 ar ++ enumK dclD t.attrs N ++ enumK valD t.attrs k) ∧ O.size ≤ 117093590311632896 + k * 1125899906842624 ∧ Below (w.alloc (.cells #[.string S1, .string S2, .slice pa N ca, .slice ka M kc, .string S3] 27)).heap.size (w.alloc (.cells #[.string S1, .string S2, .slice pa N ca, .slice ka M kc, .string S3] 27)) wr) (fun i _ _ => N - (intOf i).toNat)
          case atStart => exact ⟨0, O, by omega, rfl, rfl, HL2, HOL2.out, HBR.out⟩
          case round =>
            obtain ⟨k, O, hk, rfl, rfl, HO, hos, hbr⟩ := hrel
            have HBR := Lib.hid hbr
            have HB0R := Lib.hid (H0Z.out.trans (hbr.mono H0Z.out.size))
            obtain ⟨c0, c1, c2, c3, c4, cz⟩ := box5 hbr
            have hlb : w.heap.size < wr.heap.size := by have := hbr.size; simp at this; omega
            clear hbr
            by_cases hlt : k < N
            · have hkl : k < t.attrs.length := by rw [← HN.out]; exact hlt
              obtain ⟨b, o, cc, hv2, hbl, -, g0, g1, g2⟩ := HPR.out.at' hkl
              rw [← HN.out] at hv2
              cases hv2
              have e0 := (HB0R.out.cell (p := ⟨b, o + k * 3, none⟩) hbl).trans g0
              have e1 := (HB0R.out.cell (p := ⟨b, o + k * 3 + 1, none⟩) hbl).trans g1
              have e2 := (HB0R.out.cell (p := ⟨b, o + k * 3 + 2, none⟩) hbl).trans g2
              have HEN := Lib.hid (enumK_next (f := valD) hkl)
              have HSX := Lib.hid (HSA.out k hkl)
              generalize t.attrs[k] = x at *
              obtain ⟨n1, n2, n3⟩ := x
              dsimp only at e0 e1 e2
              clear g0 g1 g2 hkl
              have hki : k ≤ 1048576 := by omega
              obtain ⟨s1, s2, s3⟩ := HSX.out
              dsimp only at s1 s2 s3
              have HBA := Lib.hid (HBR.out.trans ((box_belT wr (.cells #[.string n1, .string n2, .string n3] 58)).mono HBR.out.size))
              obtain ⟨b1, t1⟩ : ∃ b, n1.toList.isEmpty = b := ⟨_, rfl⟩
              obtain ⟨b2, t2⟩ : ∃ b, (n1.toList == [104, 116, 116, 112, 58, 47, 47, 119, 119, 119, 46, 119, 51, 46, 111, 114, 103, 47, 88, 77, 76, 47, 49, 57, 57, 56, 47, 110, 97, 109, 101, 115, 112, 97, 99, 101]) = b := ⟨_, rfl⟩
              have HQ := Lib.hid (show qualD k (n1, n2, n3) = if b1 = true then n2.data.toList else if b2 = true then [120, 109, 108, 58] ++ n2.data.toList else pfxD k ++ [58] ++ n2.data.toList from by unfold qualD; rw [t1, t2])
              have HX12 := Lib.hid (show b2 = true → b1 = true → False from by
                rw [← t1, ← t2]
                intro h1 h2
                rw [beq_iff_eq.1 h1] at h2
                cases h2)
              obtain ⟨P, hPD, hps, hPC⟩ := rtextS_c w k hki
              obtain ⟨E, hED, hes, hEC⟩ := rescS_c n3 s3
              have HPC := Lib.hid hPC
              have HEC := Lib.hid hEC
              have HPD := Lib.hid hPD
              have HED := Lib.hid hED
              have HSUF := Lib.hid (show ∀ (O1 : ByteArray), O1.data.toList = [60] ++ S2.data.toList ++ nsD S1 ar ++ enumK dclD t.attrs N ++ enumK valD t.attrs k ++ [32] ++ (qualD k (n1, n2, n3)).take ((qualD k (n1, n2, n3)).length - n2.data.toList.length) → (qualD k (n1, n2, n3)) = (qualD k (n1, n2, n3)).take ((qualD k (n1, n2, n3)).length - n2.data.toList.length) ++ n2.data.toList → O1.size ≤ 117093590311632896 + k * 1125899906842624 + 31 → (O1 ++ (((n2 ++ (⟨#[61, 34]⟩ : ByteArray)) ++ E) ++ (⟨#[34]⟩ : ByteArray))).data.toList = [60] ++ S2.data.toList ++ nsD S1 ar ++ enumK dclD t.attrs N ++ enumK valD t.attrs (k + 1) ∧ (O1 ++ (((n2 ++ (⟨#[61, 34]⟩ : ByteArray)) ++ E) ++ (⟨#[34]⟩ : ByteArray))).size ≤ 117093590311632896 + (k + 1) * 1125899906842624 from by
                intro O1 h1 h2 h3
                constructor
                · rw [apD, apD, apD, apD, HEN.out, h1, HED.out]
                  unfold valD attD
                  dsimp only
                  conv => rhs; rw [h2]
                  simp
                · simp only [ByteArray.size_append]
                  have q2 : (ByteArray.mk #[61, 34]).size = 2 := rfl
                  have q3 : (ByteArray.mk #[34]).size = 1 := rfl
                  omega)
              clear hPC hEC hPD hED
              cases b2
              · cases b1
                · obtain ⟨O2, hO2⟩ : ∃ O2 : ByteArray, O2 = (O ++ (⟨#[32]⟩ : ByteArray)) ++ (((⟨#[110]⟩ : ByteArray) ++ P) ++ (⟨#[58]⟩ : ByteArray)) := ⟨_, rfl⟩
                  have HQ' : qualD k (n1, n2, n3) = (pfxD k ++ [58]) ++ n2.data.toList := HQ.out
                  have htk : (qualD k (n1, n2, n3)).take ((qualD k (n1, n2, n3)).length - n2.data.toList.length) = pfxD k ++ [58] := by rw [HQ', List.length_append, Nat.add_sub_cancel]; exact List.take_left
                  have hos2 : O2.size ≤ 117093590311632896 + k * 1125899906842624 + 31 := by
                    rw [hO2]
                    simp only [ByteArray.size_append]
                    have h1 : (ByteArray.mk #[32]).size = 1 := rfl
                    have h2 : (ByteArray.mk #[110]).size = 1 := rfl
                    have h3 : (ByteArray.mk #[58]).size = 1 := rfl
                    omega
                  have HF := Lib.hid (HSUF.out O2 (by rw [htk, hO2, apD, apD, apD, apD, HO.out, HPD.out]; simp [pfxD]) (by rw [htk]; exact HQ') hos2)
                  clear HQ' htk
                  go_wp2_with fail
                  refine (HPC.out _).mono ?_
                  rintro e w3 ⟨rfl, rfl⟩
                  go_wp2_with fail
                  rw [← hO2]
                  clear hO2
                  go_quiet ((go_at_call 46; exact Calls.quiet_of_same (HEC.out _)))
                  go_wp2_with fail
                  go_roundw
                  case rel => exact ⟨k + 1, _, by omega, by go_num, rfl, Lib.hid HF.out.1, HF.out.2, by first | exact HBA.out | exact HBA.out.drew | exact Go.below_drewN HBA.out _⟩
                  case measure => simp [intOf]; omega
                · have HQ' : qualD k (n1, n2, n3) = [] ++ n2.data.toList := HQ.out
                  have htk : (qualD k (n1, n2, n3)).take ((qualD k (n1, n2, n3)).length - n2.data.toList.length) = [] := by rw [HQ', List.nil_append, Nat.sub_self]; rfl
                  obtain ⟨O2, hO2⟩ : ∃ O2 : ByteArray, O2 = O ++ (⟨#[32]⟩ : ByteArray) := ⟨_, rfl⟩
                  have hos2 : O2.size ≤ 117093590311632896 + k * 1125899906842624 + 31 := by
                    rw [hO2, ByteArray.size_append]
                    have h1 : (ByteArray.mk #[32]).size = 1 := rfl
                    omega
                  have HF := Lib.hid (HSUF.out O2 (by rw [htk, hO2, apD, HO.out]; simp) (by rw [htk]; exact HQ') hos2)
                  clear HQ' htk
                  have hO2' := hO2.symm
                  clear hO2
                  go_wp2_with fail
                  go_quiet ((go_at_call 46; exact Calls.quiet_of_same (HEC.out _)))
                  go_wp2_with fail
                  go_roundw
                  case rel => exact ⟨k + 1, _, by omega, by go_num, rfl, Lib.hid HF.out.1, HF.out.2, by first | exact HBA.out | exact HBA.out.drew | exact Go.below_drewN HBA.out _⟩
                  case measure => simp [intOf]; omega
              · have hb1 : b1 = false := by cases b1; rfl; exact (HX12.out rfl rfl).elim
                subst hb1
                have HQ' : qualD k (n1, n2, n3) = [120, 109, 108, 58] ++ n2.data.toList := HQ.out
                have htk : (qualD k (n1, n2, n3)).take ((qualD k (n1, n2, n3)).length - n2.data.toList.length) = [120, 109, 108, 58] := by rw [HQ', List.length_append, Nat.add_sub_cancel]; exact List.take_left
                obtain ⟨O2, hO2⟩ : ∃ O2 : ByteArray, O2 = (O ++ (⟨#[32]⟩ : ByteArray)) ++ (⟨#[120, 109, 108, 58]⟩ : ByteArray) := ⟨_, rfl⟩
                have hos2 : O2.size ≤ 117093590311632896 + k * 1125899906842624 + 31 := by
                  rw [hO2]
                  simp only [ByteArray.size_append]
                  have h1 : (ByteArray.mk #[32]).size = 1 := rfl
                  have h2 : (ByteArray.mk #[120, 109, 108, 58]).size = 4 := rfl
                  omega
                have HF := Lib.hid (HSUF.out O2 (by rw [htk, hO2, apD, apD, HO.out]) (by rw [htk]; exact HQ') hos2)
                clear HQ' htk
                have hO2' := hO2.symm
                clear hO2
                go_wp2_with fail
                go_quiet ((go_at_call 46; exact Calls.quiet_of_same (HEC.out _)))
                go_wp2_with fail
                go_roundw
                case rel => exact ⟨k + 1, _, by omega, by go_num, rfl, Lib.hid HF.out.1, HF.out.2, by first | exact HBA.out | exact HBA.out.drew | exact Go.below_drewN HBA.out _⟩
                case measure => simp [intOf]; omega
            · skip
              have HBE := HBR
              obtain ⟨HD0, hHD0⟩ : ∃ HD0, HD0 = [60] ++ S2.data.toList ++ nsD S1 ar ++ enumK dclD t.attrs N ++ enumK valD t.attrs N := ⟨_, rfl⟩
              have HO3 := Lib.hid (show O.data.toList = HD0 from by rw [hHD0, HO.out, show k = N by omega])
              have hos3 : O.size ≤ 234187180623265792 := by omega
              clear hos
              cases b7
              · have HD2 := Lib.hid (show LD = _ from HD.out.trans (if_neg (by simp)))
                rw [← hHD0] at HD2
                go_wp2_with fail
                obtain ⟨OT, hOT⟩ : ∃ OT : ByteArray, OT = O ++ ((⟨#[62]⟩ : ByteArray) ++ E3) := ⟨_, rfl⟩
                have HOTD := Lib.hid (show OT.data.toList = HD0 ++ [62] ++ escF S3.data.toList from by rw [hOT, apD, apD, HO3.out, HE3D.out]; simp)
                have HOTS := Lib.hid (show OT.size ≤ 236439380127875072 from by
                  rw [hOT, ByteArray.size_append, ByteArray.size_append]
                  have : (ByteArray.mk #[62]).size = 1 := rfl
                  omega)
                go_wp2_with fail
                refine (HE3C.out _).mono ?_
                rintro e w7 ⟨rfl, rfl⟩
                go_wp2_with fail
                rw [← hOT]
                clear c0 c1 c2 c3 c4 cz hOT
                go_loopw [109, 5] (fun i o wr => ∃ (k : Nat) (O : ByteArray), k ≤ M ∧ i = .int .i64 k ∧ o = .string O ∧ Hid (RT O.data.toList (HD0 ++ [62] ++ escF S3.data.toList ++ (t.kids.take k).flatMap (fun x => docT D x S1))) ∧ O.size ≤ 288230376151777280 + d * 281474976710656 ∧ Below (w.alloc (.cells #[.string S1, .string S2, .slice pa N ca, .slice ka M kc, .string S3] 27)).heap.size (w.alloc (.cells #[.string S1, .string S2, .slice pa N ca, .slice ka M kc, .string S3] 27)) wr) (fun i _ _ => M - (intOf i).toNat)
                case atStart => exact ⟨0, OT, by omega, rfl, rfl, Lib.hid (by rw [HOTD.out]; simp; exact RT.refl _), by have := HOTS.out; omega, HBE.out⟩
                case round =>
                  obtain ⟨k, O, hk, rfl, rfl, HO, hos, hbr⟩ := hrel
                  have HBR := Lib.hid hbr
                  have HB0R := Lib.hid (H0Z.out.trans (hbr.mono H0Z.out.size))
                  obtain ⟨c0, c1, c2, c3, c4, cz⟩ := box5 hbr
                  have hlb : w.heap.size < wr.heap.size := by have := hbr.size; simp at this; omega
                  clear hbr
                  by_cases hlt : k < M
                  · obtain ⟨g, o, ha, hgl, -, hx⟩ := HROW.out (by rw [← HM.out]; omega)
                    have hkl : k < t.kids.length := by rw [← HM.out]; exact hlt
                    obtain ⟨av, kv, ⟨g0, g1, g2, g3, g4⟩, hpr, hkd⟩ := hx k hkl
                    subst ha
                    obtain ⟨ka2, kc2, hkv, -⟩ := hkd.form
                    obtain ⟨ra, rc, hrv, -⟩ := hpr.form
                    have HED := Lib.hid (show ElemD Any W0 D (.agg #[.string t.kids[k].space, .string t.kids[k].name, av, kv, .string t.kids[k].text]) t.kids[k] from ⟨av, kv, rfl, hpr, hkd⟩)
                    rw [hrv, hkv] at HED
                    rw [hkv] at g3
                    rw [hrv] at g2
                    have e0 := (HB0R.out.cell (p := ⟨g, o + k * 5, none⟩) hgl).trans g0
                    have e1 := (HB0R.out.cell (p := ⟨g, o + k * 5 + 1, none⟩) hgl).trans g1
                    have e2 := (HB0R.out.cell (p := ⟨g, o + k * 5 + 2, none⟩) hgl).trans g2
                    have e3 := (HB0R.out.cell (p := ⟨g, o + k * 5 + 3, none⟩) hgl).trans g3
                    have e4 := (HB0R.out.cell (p := ⟨g, o + k * 5 + 4, none⟩) hgl).trans g4
                    have HEN := Lib.hid (kids_next (fun x => docT D x S1) hkl)
                    have HSX := Lib.hid (HSK.out k hkl)
                    have HCX := Lib.hid (HCK.out k hkl)
                    have HSP := Lib.hid (kids_split (l := t.kids) k (fun x => docT D x S1))
                    generalize t.kids[k] = x at *
                    obtain ⟨sp, nm, at2, ki, tx⟩ := x
                    dsimp only [ET.space, ET.name, ET.text, ET.attrs, ET.kids] at e0 e1 e2 e3 e4 HED
                    generalize hkn : ki.length = kn at *
                    generalize hrn : at2.length = rn at *
                    have HBA := Lib.hid (HBR.out.trans ((box_belT wr (.cells #[.string sp, .string nm, .slice ra rn rc, .slice ka2 kn kc2, .string tx] 27)).mono HBR.out.size))
                    have HREC := Lib.hid (HIH.out (wr.alloc (.cells #[.string sp, .string nm, .slice ra rn rc, .slice ka2 kn kc2, .string tx] 27)) _ _ S1 d HED.out HSX.out HCX.out (by omega) (HB0R.out.trans ((box_belT wr _).mono HB0R.out.size)))
                    clear hx g0 g1 g2 g3 g4 hkd hpr hkv hrv hkn hrn hkl
                    by_cases hlong : 65536 < O.size
                    · have hql : decide ((65536 : Int) < (O.size : Int)) = true := decide_eq_true (by omega)
                      have HE := Lib.hid (show RT O.data.toList LD from by
                        have h1 := HO.out.stop (by rw [size_data]; exact hlong) ((t.kids.drop k).flatMap (fun x => docT D x S1) ++ [60, 47] ++ S2.data.toList ++ [62])
                        rw [HD2.out, HSP.out]
                        simpa only [List.append_assoc] using h1)
                      clear hlong
                      go_wp2_with fail
                      go_ret
                      exact ⟨⟨O, rfl, HE.out, by omega⟩, HWZ.out.trans (HBA.out.mono HWZ.out.size)⟩
                    have hql : decide ((65536 : Int) < (O.size : Int)) = false := decide_eq_false (by omega)
                    have hos2 : O.size ≤ 65536 := by omega
                    clear hlong hos
                    go_wp2_with fail
                    refine (HREC.out).mono ?_
                    rintro e w8 ⟨⟨X, rfl, hx1, hx2⟩, hb⟩
                    have HX1 := Lib.hid hx1
                    have HB8 := Lib.hid (HBA.out.trans (hb.mono HBA.out.size))
                    have HE := Lib.hid (show RT (O ++ X).data.toList (HD0 ++ [62] ++ escF S3.data.toList ++ (t.kids.take (k + 1)).flatMap (fun x => docT D x S1)) from by
                      rw [HEN.out, apD, ← List.append_assoc]
                      exact HO.out.app HX1.out)
                    have HES := Lib.hid (show (O ++ X).size ≤ 288230376151777280 + d * 281474976710656 from by rw [ByteArray.size_append]; omega)
                    clear hb hx1 e0 e1 e2 e3 e4
                    go_wp2_with fail
                    go_roundw
                    case rel => exact ⟨k + 1, O ++ X, by omega, by go_num, rfl, HE, HES.out, HB8.out⟩
                    case measure => simp [intOf]; omega
                  · have HTK := Lib.hid (show t.kids.take k = t.kids from List.take_of_length_le (by rw [← HM.out]; omega))
                    have HE := Lib.hid (show RT (((O ++ (⟨#[60, 47]⟩ : ByteArray)) ++ S2) ++ (⟨#[62]⟩ : ByteArray)).data.toList LD from by
                      rw [HD2.out, apD, apD, apD]
                      have h1 := HO.out
                      rw [HTK.out] at h1
                      exact ((h1.app (RT.refl [60, 47])).app (RT.refl S2.data.toList)).app (RT.refl [62]))
                    have HES := Lib.hid (show (((O ++ (⟨#[60, 47]⟩ : ByteArray)) ++ S2) ++ (⟨#[62]⟩ : ByteArray)).size ≤ 288230376151711744 + (d + 1) * 281474976710656 from by
                      rw [ByteArray.size_append, ByteArray.size_append, ByteArray.size_append]
                      have h1 : (ByteArray.mk #[62]).size = 1 := rfl
                      have h2 : (ByteArray.mk #[60, 47]).size = 2 := rfl
                      omega)
                    go_wp2_with fail
                    go_ret
                    exact ⟨⟨_, rfl, HE.out, HES.out⟩, HWZ.out.trans (HBR.out.mono HWZ.out.size)⟩
              · by_cases hm0 : M = 0
                · have HD2 := Lib.hid (show LD = _ from HD.out.trans (if_pos (by rw [Bool.true_and, List.isEmpty_iff]; exact List.eq_nil_of_length_eq_zero (by rw [← HM.out]; exact hm0))))
                  rw [← hHD0] at HD2
                  have hqm : ((M : Int) == 0) = true := by rw [beq_iff_eq]; omega
                  have HE := Lib.hid (show RT (O ++ (⟨#[47, 62]⟩ : ByteArray)).data.toList LD from by rw [HD2.out, apD, HO3.out]; exact RT.refl _)
                  have HES := Lib.hid (show (O ++ (⟨#[47, 62]⟩ : ByteArray)).size ≤ 288230376151711744 + (d + 1) * 281474976710656 from by
                    rw [ByteArray.size_append]
                    have h2 : (ByteArray.mk #[47, 62]).size = 2 := rfl
                    omega)
                  clear hm0
                  go_wp2_with fail
                  go_ret
                  exact ⟨⟨_, rfl, HE.out, HES.out⟩, HWZ.out.trans (HBE.out.mono HWZ.out.size)⟩
                · have HD2 := Lib.hid (show LD = _ from HD.out.trans (if_neg (by
                    rw [Bool.true_and, List.isEmpty_iff]
                    intro he
                    rw [he] at HM
                    exact hm0 HM.out)))
                  rw [← hHD0] at HD2
                  have hqm : ((M : Int) == 0) = false := by rw [beq_eq_false_iff_ne]; omega
                  clear hm0
                  go_wp2_with fail
                  obtain ⟨OT, hOT⟩ : ∃ OT : ByteArray, OT = O ++ ((⟨#[62]⟩ : ByteArray) ++ E3) := ⟨_, rfl⟩
                  have HOTD := Lib.hid (show OT.data.toList = HD0 ++ [62] ++ escF S3.data.toList from by rw [hOT, apD, apD, HO3.out, HE3D.out]; simp)
                  have HOTS := Lib.hid (show OT.size ≤ 236439380127875072 from by
                    rw [hOT, ByteArray.size_append, ByteArray.size_append]
                    have : (ByteArray.mk #[62]).size = 1 := rfl
                    omega)
                  go_wp2_with fail
                  refine (HE3C.out _).mono ?_
                  rintro e w7 ⟨rfl, rfl⟩
                  go_wp2_with fail
                  rw [← hOT]
                  clear c0 c1 c2 c3 c4 cz hOT
                  go_loopw [109, 5] (fun i o wr => ∃ (k : Nat) (O : ByteArray), k ≤ M ∧ i = .int .i64 k ∧ o = .string O ∧ Hid (RT O.data.toList (HD0 ++ [62] ++ escF S3.data.toList ++ (t.kids.take k).flatMap (fun x => docT D x S1))) ∧ O.size ≤ 288230376151777280 + d * 281474976710656 ∧ Below (w.alloc (.cells #[.string S1, .string S2, .slice pa N ca, .slice ka M kc, .string S3] 27)).heap.size (w.alloc (.cells #[.string S1, .string S2, .slice pa N ca, .slice ka M kc, .string S3] 27)) wr) (fun i _ _ => M - (intOf i).toNat)
                  case atStart => exact ⟨0, OT, by omega, rfl, rfl, Lib.hid (by rw [HOTD.out]; simp; exact RT.refl _), by have := HOTS.out; omega, HBE.out⟩
                  case round =>
                    obtain ⟨k, O, hk, rfl, rfl, HO, hos, hbr⟩ := hrel
                    have HBR := Lib.hid hbr
                    have HB0R := Lib.hid (H0Z.out.trans (hbr.mono H0Z.out.size))
                    obtain ⟨c0, c1, c2, c3, c4, cz⟩ := box5 hbr
                    have hlb : w.heap.size < wr.heap.size := by have := hbr.size; simp at this; omega
                    clear hbr
                    by_cases hlt : k < M
                    · obtain ⟨g, o, ha, hgl, -, hx⟩ := HROW.out (by rw [← HM.out]; omega)
                      have hkl : k < t.kids.length := by rw [← HM.out]; exact hlt
                      obtain ⟨av, kv, ⟨g0, g1, g2, g3, g4⟩, hpr, hkd⟩ := hx k hkl
                      subst ha
                      obtain ⟨ka2, kc2, hkv, -⟩ := hkd.form
                      obtain ⟨ra, rc, hrv, -⟩ := hpr.form
                      have HED := Lib.hid (show ElemD Any W0 D (.agg #[.string t.kids[k].space, .string t.kids[k].name, av, kv, .string t.kids[k].text]) t.kids[k] from ⟨av, kv, rfl, hpr, hkd⟩)
                      rw [hrv, hkv] at HED
                      rw [hkv] at g3
                      rw [hrv] at g2
                      have e0 := (HB0R.out.cell (p := ⟨g, o + k * 5, none⟩) hgl).trans g0
                      have e1 := (HB0R.out.cell (p := ⟨g, o + k * 5 + 1, none⟩) hgl).trans g1
                      have e2 := (HB0R.out.cell (p := ⟨g, o + k * 5 + 2, none⟩) hgl).trans g2
                      have e3 := (HB0R.out.cell (p := ⟨g, o + k * 5 + 3, none⟩) hgl).trans g3
                      have e4 := (HB0R.out.cell (p := ⟨g, o + k * 5 + 4, none⟩) hgl).trans g4
                      have HEN := Lib.hid (kids_next (fun x => docT D x S1) hkl)
                      have HSX := Lib.hid (HSK.out k hkl)
                      have HCX := Lib.hid (HCK.out k hkl)
                      have HSP := Lib.hid (kids_split (l := t.kids) k (fun x => docT D x S1))
                      generalize t.kids[k] = x at *
                      obtain ⟨sp, nm, at2, ki, tx⟩ := x
                      dsimp only [ET.space, ET.name, ET.text, ET.attrs, ET.kids] at e0 e1 e2 e3 e4 HED
                      generalize hkn : ki.length = kn at *
                      generalize hrn : at2.length = rn at *
                      have HBA := Lib.hid (HBR.out.trans ((box_belT wr (.cells #[.string sp, .string nm, .slice ra rn rc, .slice ka2 kn kc2, .string tx] 27)).mono HBR.out.size))
                      have HREC := Lib.hid (HIH.out (wr.alloc (.cells #[.string sp, .string nm, .slice ra rn rc, .slice ka2 kn kc2, .string tx] 27)) _ _ S1 d HED.out HSX.out HCX.out (by omega) (HB0R.out.trans ((box_belT wr _).mono HB0R.out.size)))
                      clear hx g0 g1 g2 g3 g4 hkd hpr hkv hrv hkn hrn hkl
                      by_cases hlong : 65536 < O.size
                      · have hql : decide ((65536 : Int) < (O.size : Int)) = true := decide_eq_true (by omega)
                        have HE := Lib.hid (show RT O.data.toList LD from by
                          have h1 := HO.out.stop (by rw [size_data]; exact hlong) ((t.kids.drop k).flatMap (fun x => docT D x S1) ++ [60, 47] ++ S2.data.toList ++ [62])
                          rw [HD2.out, HSP.out]
                          simpa only [List.append_assoc] using h1)
                        clear hlong
                        go_wp2_with fail
                        go_ret
                        exact ⟨⟨O, rfl, HE.out, by omega⟩, HWZ.out.trans (HBA.out.mono HWZ.out.size)⟩
                      have hql : decide ((65536 : Int) < (O.size : Int)) = false := decide_eq_false (by omega)
                      have hos2 : O.size ≤ 65536 := by omega
                      clear hlong hos
                      go_wp2_with fail
                      refine (HREC.out).mono ?_
                      rintro e w8 ⟨⟨X, rfl, hx1, hx2⟩, hb⟩
                      have HX1 := Lib.hid hx1
                      have HB8 := Lib.hid (HBA.out.trans (hb.mono HBA.out.size))
                      have HE := Lib.hid (show RT (O ++ X).data.toList (HD0 ++ [62] ++ escF S3.data.toList ++ (t.kids.take (k + 1)).flatMap (fun x => docT D x S1)) from by
                        rw [HEN.out, apD, ← List.append_assoc]
                        exact HO.out.app HX1.out)
                      have HES := Lib.hid (show (O ++ X).size ≤ 288230376151777280 + d * 281474976710656 from by rw [ByteArray.size_append]; omega)
                      clear hb hx1 e0 e1 e2 e3 e4
                      go_wp2_with fail
                      go_roundw
                      case rel => exact ⟨k + 1, O ++ X, by omega, by go_num, rfl, HE, HES.out, HB8.out⟩
                      case measure => simp [intOf]; omega
                    · have HTK := Lib.hid (show t.kids.take k = t.kids from List.take_of_length_le (by rw [← HM.out]; omega))
                      have HE := Lib.hid (show RT (((O ++ (⟨#[60, 47]⟩ : ByteArray)) ++ S2) ++ (⟨#[62]⟩ : ByteArray)).data.toList LD from by
                        rw [HD2.out, apD, apD, apD]
                        have h1 := HO.out
                        rw [HTK.out] at h1
                        exact ((h1.app (RT.refl [60, 47])).app (RT.refl S2.data.toList)).app (RT.refl [62]))
                      have HES := Lib.hid (show (((O ++ (⟨#[60, 47]⟩ : ByteArray)) ++ S2) ++ (⟨#[62]⟩ : ByteArray)).size ≤ 288230376151711744 + (d + 1) * 281474976710656 from by
                        rw [ByteArray.size_append, ByteArray.size_append, ByteArray.size_append]
                        have h1 : (ByteArray.mk #[62]).size = 1 := rfl
                        have h2 : (ByteArray.mk #[60, 47]).size = 2 := rfl
                        omega)
                      go_wp2_with fail
                      go_ret
                      exact ⟨⟨_, rfl, HE.out, HES.out⟩, HWZ.out.trans (HBR.out.mono HWZ.out.size)⟩
end Go.Proofs.YtpcajjbdlfookaaGreatDoor
