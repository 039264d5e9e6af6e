/- The program's parser: literals, counts, numbers of instances. -/
import Derived.Test.YtikofngogkchfaaDoorEp
import Derived.Test.YtikofngogkchfaaDoorEh
import Derived.Test.YtikofngogkchfaaDoorEt
namespace Go.Proofs.YtikofngogkchfaaDoor
open Go.RowKit
set_option linter.unusedVariables false

/-- A tree as the parser hands it over. -/
def TreeV (base : Nat) (n : Nd) (w : World) (v : Value) : Prop := ∃ s, v = n.val s ∧ KidsAt w (fun g => base ≤ g) n s

set_option maxRecDepth 100000 in
theorem eliteral_c {w : World} {pb wg : Nat} {x : Wd} {r : List Wd} (h : PS w pb wg (x :: r)) (hx : x ≠ noW) (vk vi : Int) (vb : Bool) (vt : ByteArray) :
    Calls Tryd.prog 53 #[.pointer (some ⟨pb, 0, none⟩), .agg #[.int .i64 vk, .int .i64 vi, .bool vb, .string vt]] w (Aft w pb wg (TreeV w.heap.size) (some (tLit vk vi vb vt.data.toList, r))) := by
  obtain ⟨y, q, off, cap, e, _, c1, h1, h2, hz, n1, n2, n3⟩ := h.first
  simp only [List.cons.injEq] at e
  obtain ⟨rfl, rfl⟩ := e
  have hr := (h.ok.next hx).2
  have hpl := h.lt.2
  have hwl := h.lt.1
  have HS := Lib.hid (h.step hr c1 (Below.refl _ _))
  have hp := hr.ne
  have hlt : 1 < cap := by omega
  have hlt' : 1 ≠ cap := by omega
  have hsl : (1 : Int) ≤ (r.length : Int) + 1 := by omega
  clear h hr hx
  go_enter Tryd.func53, Tryd.ntmps53
  go_wp2_with fail
  refine bodyPost_ret (v := .agg #[.int .i64 1, .int .i64 vk, .int .i64 vi, .bool vb, .string vt, .string ⟨#[]⟩, .int .i64 0, .slice none 0 0]) (by simp [results, Tryd.results53, go_sem]) rfl ?_
  refine ⟨_, rfl, ⟨.slice none 0 0, ?_, rfl⟩, (HS.out.1.alloc _).alloc _, (HS.out.2.alloc' _).alloc' _⟩
  rfl

set_option maxRecDepth 100000 in
set_option maxHeartbeats 1000000 in
theorem state_c {w : World} {pb wg : Nat} {ws : List Wd} (h : PS w pb wg ws) : Calls Tryd.prog 78 #[.pointer (some ⟨pb, 0, none⟩)] w (Aft w pb wg (fun (n : Nat) _ v => v = .int .i64 n) (pState ws)) := by
  have hN := ename_c h
  cases h1 : pName ws with
  | none =>
    rw [h1] at hN
    have HN := Lib.hid hN
    have HP := Lib.hid (show pState ws = none from by unfold pState; rw [h1])
    clear h hN h1
    go_enter Tryd.func78, Tryd.ntmps78
    go_wp2_with (go_at_call 77; refine (HN.out).mono ?_; rintro e w1 ⟨rfl, hc⟩; have HC := Lib.hid hc; clear hc)
    rw [HP.out]
    exact ⟨rfl, rfl, HC.out⟩
  | some q =>
    obtain ⟨t, r⟩ := q
    rw [h1] at hN
    have HN := Lib.hid hN
    have hPS : pState ws = if stF t = 0 then none else some (stF t, r) := by unfold pState; rw [h1]
    have HST := Lib.hid (fun (w : World) (hT : ETabs w) => xstate_c w hT ⟨t.toArray⟩)
    rw [show (⟨t.toArray⟩ : ByteArray).data.toList = t from rfl] at HST
    obtain ⟨T, hT⟩ : ∃ T : ByteArray, T = ⟨t.toArray⟩ := ⟨_, rfl⟩
    obtain ⟨n, hn⟩ : ∃ n, n = stF t := ⟨_, rfl⟩
    rw [← hT] at HST
    have HTT := Lib.hid hT
    rw [← hn] at HST hPS
    by_cases h0 : n = 0
    · rw [if_pos h0] at hPS
      have HP := Lib.hid hPS
      have H0 := Lib.hid (show (!(decide (n = 0))) = false from by rw [h0]; rfl)
      clear h hN h1 hT hn hPS h0
      go_enter Tryd.func78, Tryd.ntmps78
      go_wp2_with (first
        | (go_at_call 77; refine (HN.out).mono ?_; rintro e w1 ⟨v, rfl, hv, hs1, hc1⟩; have hv' : v = .string T := (by rw [HTT.out]; exact hv); subst hv'; clear hv; have HQ := HST.out _ hs1.tab; rw [H0.out] at HQ; have HQ' := Lib.hid HQ; have HC := Lib.hid hc1; clear hs1 hc1 HQ)
        | (go_at_call 9; refine (HQ'.out).mono ?_; rintro e w2 ⟨rfl, rfl⟩))
      rw [HP.out]
      exact ⟨rfl, rfl, HC.out⟩
    · rw [if_neg h0] at hPS
      have HP := Lib.hid hPS
      have H0 := Lib.hid (show (!(decide (n = 0))) = true from by simpa using h0)
      clear h hN h1 hT hn hPS h0
      go_enter Tryd.func78, Tryd.ntmps78
      go_wp2_with (first
        | (go_at_call 77; refine (HN.out).mono ?_; rintro e w1 ⟨v, rfl, hv, hs1, hc1⟩; have hv' : v = .string T := (by rw [HTT.out]; exact hv); subst hv'; clear hv; have HQ := HST.out _ hs1.tab; rw [H0.out] at HQ; have HQ' := Lib.hid HQ; have HC := Lib.hid (And.intro hs1 hc1); clear hs1 hc1 HQ)
        | (go_at_call 9; refine (HQ'.out).mono ?_; rintro e w2 ⟨rfl, rfl⟩))
      go_ret
      rw [HP.out]
      exact ⟨_, rfl, rfl, HC.out.1, HC.out.2⟩
end Go.Proofs.YtikofngogkchfaaDoor
