/- journal: awake. -/
import Derived.Test.YtfljpnfjndjhpaaJr
import Derived.Test.YtfljpnfjndjhpaaVw
namespace Go.Proofs.Ytfljpnfjndjhpaa
open Go.RowKit
set_option linter.unusedVariables false

def aS : DS := newS 100
def aS1 : DS := (aS.open0 [115]).2.2
def aJ1 : JS := (aS.open0 [115]).2.1
theorem a_poss : possB 100 = true := by decide +kernel
theorem a_disc : (aS.disc draN).1 = 0 := by decide +kernel
theorem a_fs : (aS.disc draN).2.fs.length ≤ 999999997 := by decide +kernel
theorem a_read : ((aS.disc draN).2.read curN).2 = 33 := by decide +kernel
theorem a_open : (aS.open0 [115]).1 = 0 := by decide +kernel
theorem a_fs1 : aS1.fs.length ≤ 999999999 := by decide +kernel
theorem a_app : (aJ1.app aS1 [97]).1 = 0 := by decide +kernel
theorem a_recs1 : aJ1.recs.length ≤ 4194304 := by decide +kernel
theorem a_recs : (aJ1.app aS1 [97]).2.1.recs = [[97]] := by decide +kernel
theorem a_snap : (aJ1.app aS1 [97]).2.1.snap = [115] := by decide +kernel

theorem rd_byte (w : World) (x : UInt8) (u : Int) (hu : u = (x.toNat : Int)) (T : TypeId) (fr : Nat × Nat) : Rd (w.alloc (.cells #[.int .u8 u] T fr)) (.slice (some ⟨w.heap.size, 0, none⟩) 1 1) [x] := by
  subst hu
  refine ⟨_, 1, rfl, by simp, by unfold maxLen; omega, by simp, fun _ => ⟨w.heap.size, 0, rfl, fun i hi => ?_⟩⟩
  have h0 : i = 0 := by simpa using hi
  subst h0
  have h := heap_alloc_new w (.cells #[.int .u8 (x.toNat : Int)] T fr)
  simp only [World.cell?, h]
  rfl

set_option maxRecDepth 100000 in
set_option maxHeartbeats 4000000 in
theorem jawake_c (w : World) : Calls Try.prog 14 #[] w fun e w' => e = .returned (.bool true) ∧ Below w.heap.size w w' := by
  have kc := fun (w : World) (C : Array Value) (n c : Nat) => Lib.run_convert_bytes_const (P := Try.prog) w 23 5 C n c Try.underlying23 Try.underlying5
  go_enter Try.func14, Try.ntmps14
  go_wp2_with fail
  refine (new_c w 100).mono ?_
  rintro e w1 h
  rw [if_pos a_poss] at h
  obtain ⟨foot1, rfl, hd1, hf1, hb1⟩ := h
  have HD1 := Lib.hid (show Disk w1 (some ⟨w.heap.size + 1, 0, none⟩) aS foot1 from hd1)
  have HF1 := Lib.hid (And.intro hf1 hb1)
  clear hd1 hf1 hb1
  go_wp2_with fail
  refine (open_new (HD1.out.below ((Below.refl _ _).alloc (Nat.le_refl _) _)) a_fs _ [115] (rd_byte w1 115 115 rfl _ _) (fun g hg => ⟨by simp only [Value.ownBlock, Option.some.injEq] at hg; simp; omega, fun hm => by have := HD1.out.lt g hm; simp only [Value.ownBlock, Option.some.injEq] at hg; omega⟩) a_disc a_read).mono ?_
  rintro e w2 hm
  unfold Made at hm
  rw [if_pos a_open] at hm
  obtain ⟨jb, foot2, sv, rv, vs, rfl, hd2, hj2, h2a, h2b, h2c, h2d⟩ := hm
  have HD2 := Lib.hid (show Disk w2 (some ⟨w.heap.size + 1, 0, none⟩) aS1 foot2 from hd2)
  have HJ2 := Lib.hid (show Jr w2 jb (some ⟨w.heap.size + 1, 0, none⟩) foot2 aJ1 sv rv vs from hj2)
  have HF2 := Lib.hid (And.intro h2a (And.intro h2b (And.intro h2c h2d)))
  clear hd2 hj2 h2a h2b h2c h2d
  go_wp2_with fail
  refine (japp_all (HJ2.out.below ((Below.refl _ _).alloc (Nat.le_refl _) _)) (HD2.out.below ((Below.refl _ _).alloc (Nat.le_refl _) _)) a_fs1 _ [97] (rd_byte w2 97 97 rfl _ _) (fun _ g hg hm => by have := HD2.out.lt g hm; simp only [Value.ownBlock, Option.some.injEq] at hg; omega) a_recs1).mono ?_
  rintro e w3 ⟨rfl, foot3, sv3, rv3, vs3, hd3, hj3, h3a, h3b, h3c⟩
  rw [a_app]
  have HJ3 := Lib.hid hj3
  have HF3 := Lib.hid (And.intro h3a h3c)
  clear hd3 hj3 h3a h3b h3c
  go_wp2_with fail
  refine (jrecs_one HJ3.out [97] a_recs (by simp)).mono ?_
  rintro e w4 ⟨p4, c4, rfl, hb4⟩
  have HB4 := Lib.hid hb4
  clear hb4
  go_wp2_with fail
  refine (jsnap_c (HJ3.out.below HB4.out) (by rw [a_snap]; simp)).mono ?_
  rintro e w5 ⟨v5, rfl, ho5, hb5⟩
  rw [a_snap] at ho5
  have hcv := (Rd.of_own ho5).conv (P := Try.prog) 23 5 9 Try.underlying23 Try.underlying5 Try.underlying9
  obtain ⟨a5, cp5, rfl, _, _, _⟩ := own_form ho5
  have hcv2 : (convert 23 9 (.slice a5 1 cp5)).run Try.prog w5 = .ok (.string ⟨#[115]⟩) w5 := hcv
  have HB5 := Lib.hid hb5
  clear hb5 ho5 hcv
  go_wp2_with fail
  go_ret
  have q2 : Below w.heap.size w w2 := (HF1.out.2.alloc HF1.out.2.size _).trans (HF2.out.2.2.2.below (by have := HF1.out.2.size; simp; omega) HF1.out.1)
  refine ⟨rfl, ?_⟩
  have q3 : Below w.heap.size w w3 := (q2.alloc q2.size _).trans (HF3.out.2.below (by have := q2.size; simp; omega) ?_)
  · exact q3.trans ((HB4.out.mono q3.size).trans (HB5.out.mono (by have := HB4.out.size; have := q3.size; omega)))
  · intro i hi
    have s1 := HF1.out.2.size
    simp only [List.mem_cons, List.mem_append, Option.mem_toList] at hi
    rcases hi with rfl | hi | hi
    · have := HF2.out.1; simp at this; omega
    · have := HF2.out.2.2.1 i hi; simp at this; omega
    · rcases HF2.out.2.1 i hi with h | h
      · exact HF1.out.1 i h
      · simp at h; omega
end Go.Proofs.Ytfljpnfjndjhpaa
