/- vdisk: calls of a law on a disk of its own; awake; bytes.HasPrefix. -/
import Derived.Test.YtcpldjaoacihlaaVk
import Derived.Test.YtcpldjaoacihlaaRows
import Derived.Lib.SlBytesConst
namespace Go.Proofs.Ytcpldjaoacihlaa
open Go.RowKit
set_option linter.unusedVariables false

/-- A disk that the call has made: w0 is the world when it began. -/
def At (w0 w : World) (p : Option Addr) (s : DS) : Prop := ∃ foot, Disk w p s foot ∧ (∀ i ∈ foot, w0.heap.size ≤ i) ∧ Below w0.heap.size w0 w

theorem At.step {w0 w w' : World} {p : Option Addr} {s' : DS} {foot : List Nat} (hf : ∀ i ∈ foot, w0.heap.size ≤ i) (hb : Below w0.heap.size w0 w) (h : After w p s' foot w') : At w0 w' p s' := by
  obtain ⟨foot', hd, hf', hc⟩ := h
  exact ⟨foot', hd, fun i hi => (hf' i hi).elim (hf i) fun h => Nat.le_trans hb.size h, hb.trans (hc.below hb.size hf)⟩
theorem At.below {w0 w : World} {p : Option Addr} {s : DS} (h : At w0 w p s) : Below w0.heap.size w0 w := by
  obtain ⟨_, _, _, h⟩ := h
  exact h
theorem At.keep {w0 w w' : World} {p : Option Addr} {s : DS} (h : At w0 w p s) (hb : Below w.heap.size w w') : At w0 w' p s := by
  obtain ⟨foot, hd, hf, hw⟩ := h
  exact ⟨foot, hd.below hb, hf, hw.trans (hb.mono hw.size)⟩
theorem At.alloc {w0 w : World} {p : Option Addr} {s : DS} (h : At w0 w p s) (o : Obj) : At w0 (w.alloc o) p s := h.keep ((Below.refl _ _).alloc (Nat.le_refl _) o)
theorem At.ok {w0 w : World} {p : Option Addr} {s : DS} (h : At w0 w p s) : s.Ok := by
  obtain ⟨_, h, _⟩ := h
  exact h.ok

section
variable {w0 w : World} {p : Option Addr} {s : DS}

theorem new_at (hw : Below w0.heap.size w0 w) (n : Int) (hn : possB n = true) :
    Calls Try.prog 8 #[.int .i64 n] w fun e w' => ∃ b, e = .returned (.tuple #[.pointer (some ⟨b, 0, none⟩), .int .i64 0]) ∧ At w0 w' (some ⟨b, 0, none⟩) (newS n) :=
  (new_c w n).mono fun e w' h => by
    rw [if_pos hn] at h
    obtain ⟨foot, rfl, hd, hf, hb⟩ := h
    exact ⟨_, rfl, foot, hd, fun i hi => Nat.le_trans hw.size (hf i hi), hw.trans (hb.mono hw.size)⟩
theorem append_at (h : At w0 w p s) (n : ByteArray) (hn : n.size ≤ 9223372036854775807) (hl : s.fs.length ≤ 1000000000) (v : Value) (b : List UInt8) (hv : Rd w0 v b) (hb : b.length ≤ 140737488355328) :
    Calls Try.prog 19 #[.pointer p, .string n, v] w fun e w' => e = .returned (.int .i64 (s.append n.data.toList b).1) ∧ At w0 w' p (s.append n.data.toList b).2 := by
  obtain ⟨foot, hd, hf, hw⟩ := h
  exact (append_c hd n hn hl v b (hv.below hw) (fun h0 g hg hm => by have := hf g hm; have := Rd.lt hv h0 g hg; omega) hb).mono fun e w' ⟨he, ha⟩ => ⟨he, At.step hf hw ha⟩
theorem sync_at (h : At w0 w p s) (n : ByteArray) (hn : n.size ≤ 9223372036854775807) (hl : s.fs.length ≤ 1000000000) :
    Calls Try.prog 20 #[.pointer p, .string n] w fun e w' => e = .returned (.int .i64 (s.sync n.data.toList).1) ∧ At w0 w' p (s.sync n.data.toList).2 := by
  obtain ⟨foot, hd, hf, hw⟩ := h
  exact (sync_c hd n hn hl).mono fun e w' ⟨he, ha⟩ => ⟨he, At.step hf hw ha⟩
theorem crash_at (h : At w0 w p s) (hl : s.fs.length ≤ 1000000000) (v : Value) (keeps : List Int) (hv : RdV w0 v (icells keeps)) (hb : keeps.length ≤ 140737488355328) :
    Calls Try.prog 21 #[.pointer p, v] w fun e w' => e = .returned (.int .i64 0) ∧ At w0 w' p (s.crash keeps) := by
  obtain ⟨foot, hd, hf, hw⟩ := h
  exact (crash_c hd hl v keeps (hv.below hw) (fun h0 g hg hm => by have := hf g hm; have := RdV.lt hv (by simpa [icells] using h0) g hg; omega) hb).mono fun e w' ⟨he, ha⟩ => ⟨he, At.step hf hw ha⟩
theorem read_at (h : At w0 w p s) (n : ByteArray) (hn : n.size ≤ 9223372036854775807) :
    Calls Try.prog 13 #[.pointer p, .string n] w fun e w' => ∃ v, e = .returned (.tuple #[v, .int .i64 (s.read n.data.toList).2]) ∧ Rd w' v (s.read n.data.toList).1 ∧ (∀ g, v.ownBlock = some g → w.heap.size ≤ g) ∧ At w0 w' p s := by
  have h' := h
  obtain ⟨foot, hd, hf, hw⟩ := h
  exact (read_c hd n hn).mono fun e w' ⟨v, he, ho, hb⟩ => ⟨v, he, Rd.of_own ho, fun g hg => (ho.lt g hg).1, h'.keep hb⟩
end

theorem rd_mark (w : World) (cs : Array Value) (T : TypeId) (fr : Nat × Nat) (xs : List UInt8) (h : cs.toList = bcells xs) (hm : xs.length ≤ maxLen) :
    Rd (w.alloc (.cells cs T fr)) (.slice (some ⟨w.heap.size, 0, none⟩) xs.length xs.length) xs := by
  refine ⟨_, _, rfl, Nat.le_refl _, hm, by simp, fun hp => ⟨w.heap.size, 0, rfl, fun i hi => ?_⟩⟩
  have hc : cs[i]? = some (.int .u8 (xs[i].toNat : Int)) := by
    rw [← Array.getElem?_toList, h]
    simp [bcells, hi]
  simp only [World.cell?, heap_alloc_new, Nat.zero_add]
  simp [hc]

theorem rdv_made (w : World) (cs : Array Value) (T : TypeId) (xs : List Value) (h : cs.toList = xs) (hm : xs.length ≤ maxLen) : RdV (w.alloc (.cells cs T)) (.slice (some ⟨w.heap.size, 0, none⟩) xs.length xs.length) xs := by
  subst h
  refine ⟨_, _, rfl, Nat.le_refl _, hm, by simp, fun hp => ⟨w.heap.size, 0, rfl, fun i hi => ?_⟩⟩
  simp only [World.cell?, heap_alloc_new, Nat.zero_add]
  rw [← Array.getElem?_toList, List.getElem?_eq_getElem hi]
  simp

theorem prefix_c (w : World) (v1 v2 : Value) (xs ys zs : List UInt8) (hz : zs = ys ++ xs) (h1 : Rd w v1 zs) (h2 : Rd w v2 ys) :
    Calls Try.prog 22 #[v1, v2] w fun e w' => e = .returned (.bool true) ∧ w = w' := by
  subst hz
  have H1 := Lib.hid h1
  have H2 := Lib.hid h2
  obtain ⟨p, c, rfl, l1, l2, l3, l4⟩ := h1
  obtain ⟨q, d, rfl, m1, m2, m3, m4⟩ := h2
  have hle : ys.length ≤ (ys ++ xs).length := by simp
  have HT := Lib.hid (show Rd w (.slice p ys.length c) ys from by have := H1.out.to ys.length hle; simpa using this)
  have hc : ys.length ≤ c := Nat.le_trans hle l1
  clear l3 l4 m3 m4 H1
  generalize hL : (ys ++ xs).length = L at *
  unfold maxLen at l2 m2
  clear hL
  go_enter Try.func22, Try.ntmps22
  go_wp2_with (go_at_call 15; refine (equal_c _ _ _ ys ys HT.out H2.out).mono ?_; rintro e w' ⟨rfl, rfl⟩; rw [beq_self_eq_true])
  go_ret
  exact ⟨rfl, rfl⟩

theorem awake_S : (newS 9).append [97] [97, 98, 99] = (0, ⟨9, -1, false, [([97], ⟨[97, 98, 99], 0⟩)]⟩) := by rfl
theorem awake_T : (⟨9, -1, false, [([97], ⟨[97, 98, 99], 0⟩)]⟩ : DS).crash [2] = ⟨9, -1, false, [([97], ⟨[97, 98], 2⟩)]⟩ := by rfl
theorem awake_U : (⟨9, -1, false, [([97], ⟨[97, 98], 2⟩)]⟩ : DS).read [97] = ([97, 98], 0) := by rfl

set_option maxRecDepth 100000 in
set_option maxHeartbeats 1000000 in
theorem awake_c (w : World) : Calls Try.prog 10 #[] w fun e w' => e = .returned (.bool true) ∧ Below w.heap.size w w' := by
  have kc := fun (w : World) (C : Array Value) (n c : Nat) => Lib.run_convert_bytes_const (P := Try.prog) w 31 5 C n c Try.underlying31 Try.underlying5
  go_enter Try.func10, Try.ntmps10
  go_wp2_with fail
  refine (new_at (w0 := w) (Below.refl _ _) 9 (by decide)).mono ?_
  rintro e w1 ⟨b, rfl, ha1⟩
  have HA := Lib.hid ha1
  clear ha1
  go_wp2_with fail
  have hrd : Rd (w1.alloc (.cells #[.int .u8 97, .int .u8 98, .int .u8 99] 5 (3, 4))) (.slice (some ⟨w1.heap.size, 0, none⟩) 3 3) [97, 98, 99] := rd_mark w1 _ _ _ [97, 98, 99] rfl (by unfold maxLen; simp)
  obtain ⟨foot, hd, hf, hw⟩ := HA.out
  go_fit (append_c (hd.below ((Below.refl _ _).alloc (Nat.le_refl _) _)) ⟨#[97]⟩ (by decide) (by simp [newS]) _ [97, 98, 99] hrd (fun _ g hg hm => by simp [Value.ownBlock] at hg; have := hd.lt g hm; omega) (by simp))
  rintro e w2 ⟨rfl, ha2⟩
  have HA2 := Lib.hid (At.step hf (hw.alloc hw.size _) ha2)
  rw [awake_S] at HA2 ⊢
  clear ha2 hrd hd hf hw HA
  go_wp2_with fail
  obtain ⟨foot2, hd, hf, hw⟩ := HA2.out
  have hrd : RdV (w2.alloc (.cells #[.int .i64 2] 3)) (.slice (some ⟨w2.heap.size, 0, none⟩) 1 1) (icells [2]) := rdv_made w2 _ _ (icells [2]) rfl (by unfold maxLen; simp [icells])
  refine (crash_c (hd.below ((Below.refl _ _).alloc (Nat.le_refl _) _)) (by simp) _ [2] hrd (fun _ g hg hm => by simp [Value.ownBlock] at hg; have := hd.lt g hm; omega) (by simp)).mono ?_
  rintro e w3 ⟨rfl, ha3⟩
  have HA3 := Lib.hid (At.step hf (hw.alloc hw.size _) ha3)
  rw [awake_T] at HA3
  clear ha3 hrd hd hf hw HA2
  go_wp2_with fail
  refine (read_at HA3.out ⟨#[97]⟩ (by decide)).mono ?_
  rw [awake_U]
  rintro e w4 ⟨v, rfl, hrd, hv, ha4⟩
  have HA4 := Lib.hid ha4
  have hcv := hrd.conv (P := Try.prog) 31 5 9 Try.underlying31 Try.underlying5 Try.underlying9
  obtain ⟨rp, rc, rfl, _⟩ := hrd
  have hcv2 : (convert 31 9 (.slice rp 2 rc)).run Try.prog w4 = .ok (.string ⟨#[97, 98]⟩) w4 := hcv
  clear hcv
  clear ha4 hv
  go_wp2_with fail
  go_ret
  exact ⟨rfl, HA4.out.below⟩
end Go.Proofs.Ytcpldjaoacihlaa
