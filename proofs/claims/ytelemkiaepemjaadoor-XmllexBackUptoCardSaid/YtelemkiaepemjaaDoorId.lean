/- xmllex: the law XmllexGoes. -/
import Derived.Test.YtelemkiaepemjaaDoorIc
namespace Go.Proofs.YtelemkiaepemjaaDoor
open Go.RowKit
set_option linter.unusedVariables false

set_option maxRecDepth 100000 in
set_option maxHeartbeats 2000000 in
theorem goes_w (v0 : Value) (x0 : List UInt8) (a1 : Int) (w : World) (hw : BW w) (r0 : Rd w v0 x0) (s0 : x0.length ≤ 1048576) : Calls Tryd.prog 4 #[v0, .int .i64 a1] w fun e w' => e = .returned (.bool true) ∧ Below w.heap.size w w' := by
  obtain ⟨p0, c0, rfl⟩ := rd_form r0
  have HNX := next_c hw r0 s0 a1
  obtain ⟨⟨t, k, z⟩, hR⟩ : ∃ R, R = nxt insP opnP cloP x0 a1 := ⟨_, rfl⟩
  rw [← hR] at HNX
  have HN := Lib.hid HNX
  have HW := Lib.hid hw
  obtain ⟨L, hL⟩ : ∃ L, L = x0.length := ⟨_, rfl⟩
  have HAW := Lib.hid (fun w' (hb : Below w.heap.size w w') => awake_c w' (hw.below hb))
  rw [← hL] at HN ⊢
  clear HNX hw r0 s0
  by_cases hz : z = 0
  · subst hz
    have hg := nxt_goes hR.symm
    have t0 : (((0 : Nat) : Int) != 0) = false := rfl
    have HG := Lib.hid hg
    rw [← hL] at HG
    obtain ⟨kd, hkd⟩ : ∃ kd, kd = t.kind := ⟨_, rfl⟩
    rw [← hkd] at HG
    have HKD := Lib.hid hkd
    clear hg hR hL hkd
    go_enter Tryd.func4, Tryd.ntmps4
    go_wp2_with fail
    refine HN.out.mono ?_
    rintro e w2 ⟨v, rfl, ⟨s, rfl, hat⟩, hb, hkl⟩
    have HKL := Lib.hid (show k ≤ L from hkl rfl)
    obtain ⟨p, c, hs, _⟩ := hat
    subst hs
    have HB := Lib.hid hb
    have HA2 := Lib.hid (fun o => HAW.out _ (hb.alloc hb.size o))
    have HX2 := Lib.hid (fun (o : Obj) => hb.alloc hb.size o)
    obtain ⟨S1, hS1⟩ : ∃ S1, S1 = (⟨t.name.toArray⟩ : ByteArray) := ⟨_, rfl⟩
    obtain ⟨S2, hS2⟩ : ∃ S2, S2 = (⟨t.text.toArray⟩ : ByteArray) := ⟨_, rfl⟩
    obtain ⟨N, hN⟩ : ∃ N, N = t.attrs.length := ⟨_, rfl⟩
    obtain ⟨em, hem⟩ : ∃ em, em = t.empty := ⟨_, rfl⟩
    rw [← hS1, ← hS2, ← hN, ← hem, ← HKD.out]
    clear hb hkl hS1 hS2 hN hem
    have t1 : decide ((k : Int) ≥ a1) = true := by have := HG.out; simp; omega
    have t1' : decide (a1 ≤ (k : Int)) = true := by have := HG.out; simp; omega
    have t2 : decide ((k : Int) ≤ (L : Int)) = true := by have := HKL.out; simp; omega
    have t2' : decide (k ≤ L) = true := by have := HKL.out; simp; omega
    rcases HG.out.2 with ⟨h1, h2⟩ | ⟨h1, h2⟩
    · have t3 : decide (a1 < (k : Int)) = true := by simpa using h1
      have t4 : ((kd : Int) != 0) = true := by simpa using h2
      clear h1 h2
      go_wp2_with fail
      refine (HA2.out _).mono ?_
      rintro e w3 ⟨rfl, hb3⟩
      have HB3 := Lib.hid hb3
      clear hb3
      go_wp2_with fail
      go_ret
      exact ⟨rfl, (HX2.out _).trans (HB3.out.mono (HX2.out _).size)⟩
    · have t4 : ((kd : Int) != 0) = false := by simp; omega
      have t5 : ((kd : Int) == 0) = true := by simp; omega
      have t6 : ((k : Int) == (L : Int)) = true := by have := HKL.out; simp; omega
      rcases ha : decide (a1 < (k : Int)) with _ | _
      · clear h1 h2
        go_wp2_with fail
        refine (HA2.out _).mono ?_
        rintro e w3 ⟨rfl, hb3⟩
        have HB3 := Lib.hid hb3
        clear hb3
        go_wp2_with fail
        go_ret
        exact ⟨rfl, (HX2.out _).trans (HB3.out.mono (HX2.out _).size)⟩
      · clear h1 h2
        go_wp2_with fail
        refine (HA2.out _).mono ?_
        rintro e w3 ⟨rfl, hb3⟩
        have HB3 := Lib.hid hb3
        clear hb3
        go_wp2_with fail
        go_ret
        exact ⟨rfl, (HX2.out _).trans (HB3.out.mono (HX2.out _).size)⟩
  · have t0 : ((z : Int) != 0) = true := by simpa using hz
    clear hR hL hz
    go_enter Tryd.func4, Tryd.ntmps4
    go_wp2_with fail
    refine HN.out.mono ?_
    rintro e w2 ⟨v, rfl, ⟨s, rfl, hat⟩, hb, hkl⟩
    obtain ⟨p, c, hs, _⟩ := hat
    subst hs
    have HA2 := Lib.hid (fun o => HAW.out _ (hb.alloc hb.size o))
    have HX2 := Lib.hid (fun (o : Obj) => hb.alloc hb.size o)
    obtain ⟨S1, hS1⟩ : ∃ S1, S1 = (⟨t.name.toArray⟩ : ByteArray) := ⟨_, rfl⟩
    obtain ⟨S2, hS2⟩ : ∃ S2, S2 = (⟨t.text.toArray⟩ : ByteArray) := ⟨_, rfl⟩
    obtain ⟨N, hN⟩ : ∃ N, N = t.attrs.length := ⟨_, rfl⟩
    obtain ⟨em, hem⟩ : ∃ em, em = t.empty := ⟨_, rfl⟩
    rw [← hS1, ← hS2, ← hN, ← hem]
    clear hb hkl hS1 hS2 hN hem
    go_wp2_with fail
    refine (HA2.out _).mono ?_
    rintro e w3 ⟨rfl, hb3⟩
    have HB3 := Lib.hid hb3
    clear hb3
    go_wp2_with fail
    go_ret
    exact ⟨rfl, (HX2.out _).trans (HB3.out.mono (HX2.out _).size)⟩
end Go.Proofs.YtelemkiaepemjaaDoor
