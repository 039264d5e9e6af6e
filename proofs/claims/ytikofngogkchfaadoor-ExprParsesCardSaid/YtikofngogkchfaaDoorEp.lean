/- The program's parser: paths, counts, numbers of instances. -/
import Derived.Test.YtikofngogkchfaaDoorEd
namespace Go.Proofs.YtikofngogkchfaaDoor
open Go.RowKit
set_option linter.unusedVariables false

theorem catE (a b : ByteArray) : (a ++ b).data.toList = a.data.toList ++ b.data.toList := by simp [ByteArray.data_append, Array.toList_append]
theorem ofE (S : ByteArray) (l : List UInt8) (h : S.data.toList = l) : S = ⟨l.toArray⟩ := by
  apply ByteArray.ext
  rw [← h]
theorem pName_len {ws r : List Wd} {t : List UInt8} (ho : Oks ws) (h : pName ws = some (t, r)) : t.length ≤ 400 := by
  obtain ⟨x, rfl, hk, rfl, _⟩ := pName_some h
  exact (ho.next (by rintro rfl; simp [noW] at hk)).1.2
def lenAt (w : World) (pb : Nat) : Nat := match w.cell? ⟨pb, 0, none⟩ with | some (.slice _ n _) => n | _ => 0
theorem PS.lenAt {w : World} {pb wg : Nat} {ws : List Wd} (h : PS w pb wg ws) : lenAt w pb = ws.length := by
  obtain ⟨off, cap, h1, _⟩ := h.lies
  unfold Go.Proofs.YtikofngogkchfaaDoor.lenAt
  rw [(cells1 h1).1]
/-- The path so far, and the words left. -/
def DotsI (w : World) (pb wg : Nat) (R : Option (List UInt8 × List Wd)) (s : Value) (wr : World) : Prop :=
  ∃ (S : ByteArray) (ws : List Wd) (f : Nat), s = .string S ∧ PS wr pb wg ws ∧ Chg [pb] w wr ∧ pDots f S.data.toList ws = R ∧ ws.length ≤ f ∧ S.size + 401 * ws.length ≤ 161202

set_option maxRecDepth 100000 in
set_option maxHeartbeats 1000000 in
theorem path_c {w : World} {pb wg : Nat} {ws : List Wd} (h : PS w pb wg ws) : Calls Tryd.prog 62 #[.pointer (some ⟨pb, 0, none⟩)] w
    (Aft w pb wg (fun (t : List UInt8) _ v => v = .string ⟨t.toArray⟩) (pPath ws)) := by
  have hN := ename_c h
  have hl := h.len
  have hok := h.ok
  cases hp : pName ws with
  | none =>
    rw [hp] at hN
    have HN := Lib.hid hN
    have HP := Lib.hid (show pPath ws = none from by unfold pPath; rw [hp])
    clear h hN hp hok
    go_enter Tryd.func62, Tryd.ntmps62
    go_wp2_with (go_at_call 77; refine (HN.out).mono ?_; rintro e w1 ⟨rfl, hc⟩; have HC := Lib.hid hc; clear hc)
    rw [HP.out]
    exact ⟨rfl, rfl, HC.out⟩
  | some q =>
    obtain ⟨t, r⟩ := q
    rw [hp] at hN
    have HN := Lib.hid hN
    have htl := pName_len hok hp
    have hrl := (pName_lft hp).1
    have HP := Lib.hid (show pDots ws.length t r = pPath ws from by unfold pPath; rw [hp])
    have HL := Lib.hid (And.intro htl (And.intro hrl hl))
    clear h hN hp hok hl htl hrl
    obtain ⟨R, hR⟩ : ∃ R, R = pPath ws := ⟨_, rfl⟩
    rw [← hR] at HP ⊢
    obtain ⟨T, hT⟩ : ∃ T : ByteArray, T = ⟨t.toArray⟩ := ⟨_, rfl⟩
    have HT := Lib.hid hT
    clear hR hT
    go_enter Tryd.func62, Tryd.ntmps62
    go_wp2_with (go_at_call 77; refine (HN.out).mono ?_; rintro e w1 ⟨v, rfl, hv, hs1, hc1⟩; have hv' : v = .string T := (by rw [HT.out]; exact hv); subst hv'; clear hv; have HS1 := Lib.hid hs1; have HC1 := Lib.hid hc1; clear hs1 hc1)
    have HI0 := Lib.hid (show DotsI w pb wg R (.string T) w1 from ⟨T, r, ws.length, rfl, HS1.out, HC1.out, by rw [← HP.out, HT.out], by have := HL.out; omega, by
      have h1 : T.size = t.length := by rw [HT.out]; show t.toArray.size = _; exact List.size_toArray
      have := HL.out
      omega⟩)
    clear HS1 HC1 HL HP HT HN
    go_loopw [3] (fun s wr => DotsI w pb wg R s wr) (fun _ wr => lenAt wr pb)
    case atStart => exact HI0.out
    case round =>
      obtain ⟨S, qs, f, rfl, hps, hc, hd, hf, hsz⟩ := hrel
      have HPS := Lib.hid hps
      have HC := Lib.hid hc
      have hok := hps.ok
      have hmeas := Lib.hid hps.lenAt
      have hne := hok.ne
      obtain ⟨g, rfl⟩ : ∃ g, f = g + 1 := ⟨f - 1, by omega⟩
      by_cases hdot : isB [46] (nextW qs) = true
      · have HTK := Lib.hid (take_yes hps ⟨#[46]⟩ (by simp) hdot)
        have hstep : pDots (g + 1) S.data.toList qs = (match pName qs.tail with | none => none | some (t, r) => pDots g (S.data.toList ++ (46 :: t)) r) := by
          rw [pDots, if_pos hdot]
          rfl
        have hlt := tail_lft (by simp) hdot
        cases hp2 : pName qs.tail with
        | none =>
          rw [hstep, hp2] at hd
          have HR := Lib.hid hd
          clear hps hc hok hd hf hsz hdot hlt hne
          go_wp2_with (first
            | (go_at_call 58; refine (HTK.out).mono ?_; rintro e w2 ⟨rfl, hs2, hc2⟩; have HN2 := ename_c hs2; rw [hp2] at HN2; have HN2' := Lib.hid HN2; have HC2 := Lib.hid (HC.out.trans hc2); clear hs2 hc2 HN2)
            | (go_at_call 77; refine (HN2'.out).mono ?_; rintro e w3 ⟨rfl, hc3⟩; have HC3 := Lib.hid (HC2.out.trans hc3); clear hc3))
          rw [← HR.out]
          exact ⟨rfl, rfl, HC3.out⟩
        | some q =>
          obtain ⟨t2, r2⟩ := q
          rw [hstep, hp2] at hd
          have HR := Lib.hid hd
          have ht2 := pName_len (hlt.2 hok) hp2
          have hr2 := (pName_lft hp2).1
          have hS1 : S.size ≤ 161202 := by omega
          have HSZ := Lib.hid (And.intro hf (And.intro hsz (And.intro hlt.1 (And.intro ht2 hr2))))
          obtain ⟨T2, hT2⟩ : ∃ T2 : ByteArray, T2 = ⟨t2.toArray⟩ := ⟨_, rfl⟩
          have hT2s : T2.size = t2.length := by rw [hT2]; show t2.toArray.size = _; exact List.size_toArray
          have hT2l : T2.size ≤ 400 := by omega
          have hDT : ((⟨#[46]⟩ : ByteArray) ++ T2).size ≤ 401 := by rw [ByteArray.size_append]; have : (⟨#[46]⟩ : ByteArray).size = 1 := rfl; omega
          have HT2 := Lib.hid (And.intro hT2 hT2s)
          clear hps hc hok hd hf hsz hdot hlt hne ht2 hr2 hT2s hT2
          go_wp2_with (first
            | (go_at_call 58; refine (HTK.out).mono ?_; rintro e w2 ⟨rfl, hs2, hc2⟩; have HN2 := ename_c hs2; rw [hp2] at HN2; have HN2' := Lib.hid HN2; have HC2 := Lib.hid (HC.out.trans hc2); clear hs2 hc2 HN2)
            | (go_at_call 77; refine (HN2'.out).mono ?_; rintro e w3 ⟨v, rfl, hv, hs3, hc3⟩; have hv' : v = .string T2 := (by rw [HT2.out.1]; exact hv); subst hv'; clear hv; have HC3 := Lib.hid (HC2.out.trans hc3); have HS3 := Lib.hid hs3; clear hc3 hs3))
          go_roundw
          case rel =>
            refine ⟨_, r2, g, rfl, HS3.out, HC3.out, ?_, by have := HSZ.out; omega, ?_⟩
            · rw [← HR.out, catE, catE, HT2.out.1]; rfl
            · have := HSZ.out
              have h2 := HT2.out.2
              rw [ByteArray.size_append, ByteArray.size_append]
              have : (⟨#[46]⟩ : ByteArray).size = 1 := rfl
              omega
          case measure => rw [HS3.out.lenAt, hmeas.out]; have := HSZ.out; omega
      · rw [Bool.not_eq_true] at hdot
        have HTK := Lib.hid (take_no hps ⟨#[46]⟩ hdot)
        have HR := Lib.hid (show some (S.data.toList, qs) = R from by
          rw [← hd]
          rw [pDots, if_neg (by rw [hdot]; simp)])
        clear hps hc hok hd hf hsz hdot hne
        go_wp2_with (go_at_call 58; refine (HTK.out).mono ?_; rintro e w2 ⟨rfl, hs2, hc2⟩; have HS2 := Lib.hid hs2; have HC2 := Lib.hid (HC.out.trans hc2); clear hs2 hc2)
        go_ret
        rw [← HR.out]
        exact ⟨_, rfl, congrArg Value.string (ofE S _ rfl), HS2.out, HC2.out⟩
end Go.Proofs.YtikofngogkchfaaDoor
