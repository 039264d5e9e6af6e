/- vdisk: calls of a law on a disk of its own; awake; bytes.HasPrefix. -/
import Derived.Test.YtfljpnfjndjhpaaVk
import Derived.Test.YtfljpnfjndjhpaaRows
import Derived.Lib.SlBytesConst
namespace Go.Proofs.Ytfljpnfjndjhpaa
open Go.RowKit
set_option linter.unusedVariables false

/-- A disk that the call has made: w0 is the world when it began. -/
def At (w0 w : World) (p : Option Addr) (s : DS) : Prop := ∃ foot, Disk w p s foot ∧ (∀ i ∈ foot, w0.heap.size ≤ i) ∧ Below w0.heap.size w0 w

theorem At.step {w0 w w' : World} {p : Option Addr} {s' : DS} {foot : List Nat} (hf : ∀ i ∈ foot, w0.heap.size ≤ i) (hb : Below w0.heap.size w0 w) (h : After w p s' foot w') : At w0 w' p s' := by
  obtain ⟨foot', hd, hf', hc⟩ := h
  exact ⟨foot', hd, fun i hi => (hf' i hi).elim (hf i) fun h => Nat.le_trans hb.size h, hb.trans (hc.below hb.size hf)⟩
theorem At.below {w0 w : World} {p : Option Addr} {s : DS} (h : At w0 w p s) : Below w0.heap.size w0 w := by
  obtain ⟨_, _, _, h⟩ := h
  exact h
theorem At.keep {w0 w w' : World} {p : Option Addr} {s : DS} (h : At w0 w p s) (hb : Below w.heap.size w w') : At w0 w' p s := by
  obtain ⟨foot, hd, hf, hw⟩ := h
  exact ⟨foot, hd.below hb, hf, hw.trans (hb.mono hw.size)⟩
theorem At.alloc {w0 w : World} {p : Option Addr} {s : DS} (h : At w0 w p s) (o : Obj) : At w0 (w.alloc o) p s := h.keep ((Below.refl _ _).alloc (Nat.le_refl _) o)
theorem At.ok {w0 w : World} {p : Option Addr} {s : DS} (h : At w0 w p s) : s.Ok := by
  obtain ⟨_, h, _⟩ := h
  exact h.ok

section
variable {w0 w : World} {p : Option Addr} {s : DS}

theorem new_at (hw : Below w0.heap.size w0 w) (n : Int) (hn : possB n = true) :
    Calls Try.prog 4 #[.int .i64 n] w fun e w' => ∃ b, e = .returned (.tuple #[.pointer (some ⟨b, 0, none⟩), .int .i64 0]) ∧ At w0 w' (some ⟨b, 0, none⟩) (newS n) :=
  (new_c w n).mono fun e w' h => by
    rw [if_pos hn] at h
    obtain ⟨foot, rfl, hd, hf, hb⟩ := h
    exact ⟨_, rfl, foot, hd, fun i hi => Nat.le_trans hw.size (hf i hi), hw.trans (hb.mono hw.size)⟩
theorem append_at (h : At w0 w p s) (n : ByteArray) (hn : n.size ≤ 9223372036854775807) (hl : s.fs.length ≤ 1000000000) (v : Value) (b : List UInt8) (hv : Rd w0 v b) (hb : b.length ≤ 140737488355328) :
    Calls Try.prog 21 #[.pointer p, .string n, v] w fun e w' => e = .returned (.int .i64 (s.append n.data.toList b).1) ∧ At w0 w' p (s.append n.data.toList b).2 := by
  obtain ⟨foot, hd, hf, hw⟩ := h
  exact (append_c hd n hn hl v b (hv.below hw) (fun h0 g hg hm => by have := hf g hm; have := Rd.lt hv h0 g hg; omega) hb).mono fun e w' ⟨he, ha⟩ => ⟨he, At.step hf hw ha⟩
theorem sync_at (h : At w0 w p s) (n : ByteArray) (hn : n.size ≤ 9223372036854775807) (hl : s.fs.length ≤ 1000000000) :
    Calls Try.prog 23 #[.pointer p, .string n] w fun e w' => e = .returned (.int .i64 (s.sync n.data.toList).1) ∧ At w0 w' p (s.sync n.data.toList).2 := by
  obtain ⟨foot, hd, hf, hw⟩ := h
  exact (sync_c hd n hn hl).mono fun e w' ⟨he, ha⟩ => ⟨he, At.step hf hw ha⟩
theorem crash_at (h : At w0 w p s) (hl : s.fs.length ≤ 1000000000) (v : Value) (keeps : List Int) (hv : RdV w0 v (icells keeps)) (hb : keeps.length ≤ 140737488355328) :
    Calls Try.prog 11 #[.pointer p, v] w fun e w' => e = .returned (.int .i64 0) ∧ At w0 w' p (s.crash keeps) := by
  obtain ⟨foot, hd, hf, hw⟩ := h
  exact (crash_c hd hl v keeps (hv.below hw) (fun h0 g hg hm => by have := hf g hm; have := RdV.lt hv (by simpa [icells] using h0) g hg; omega) hb).mono fun e w' ⟨he, ha⟩ => ⟨he, At.step hf hw ha⟩
theorem read_at (h : At w0 w p s) (n : ByteArray) (hn : n.size ≤ 9223372036854775807) :
    Calls Try.prog 17 #[.pointer p, .string n] w fun e w' => ∃ v, e = .returned (.tuple #[v, .int .i64 (s.read n.data.toList).2]) ∧ Rd w' v (s.read n.data.toList).1 ∧ (∀ g, v.ownBlock = some g → w.heap.size ≤ g) ∧ At w0 w' p s := by
  have h' := h
  obtain ⟨foot, hd, hf, hw⟩ := h
  exact (read_c hd n hn).mono fun e w' ⟨v, he, ho, hb⟩ => ⟨v, he, Rd.of_own ho, fun g hg => (ho.lt g hg).1, h'.keep hb⟩
end

theorem rd_mark (w : World) (cs : Array Value) (T : TypeId) (fr : Nat × Nat) (xs : List UInt8) (h : cs.toList = bcells xs) (hm : xs.length ≤ maxLen) :
    Rd (w.alloc (.cells cs T fr)) (.slice (some ⟨w.heap.size, 0, none⟩) xs.length xs.length) xs := by
  refine ⟨_, _, rfl, Nat.le_refl _, hm, by simp, fun hp => ⟨w.heap.size, 0, rfl, fun i hi => ?_⟩⟩
  have hc : cs[i]? = some (.int .u8 (xs[i].toNat : Int)) := by
    rw [← Array.getElem?_toList, h]
    simp [bcells, hi]
  simp only [World.cell?, heap_alloc_new, Nat.zero_add]
  simp [hc]

theorem rdv_made (w : World) (cs : Array Value) (T : TypeId) (xs : List Value) (h : cs.toList = xs) (hm : xs.length ≤ maxLen) : RdV (w.alloc (.cells cs T)) (.slice (some ⟨w.heap.size, 0, none⟩) xs.length xs.length) xs := by
  subst h
  refine ⟨_, _, rfl, Nat.le_refl _, hm, by simp, fun hp => ⟨w.heap.size, 0, rfl, fun i hi => ?_⟩⟩
  simp only [World.cell?, heap_alloc_new, Nat.zero_add]
  rw [← Array.getElem?_toList, List.getElem?_eq_getElem hi]
  simp

theorem awake_S : (newS 9).append [97] [97, 98, 99] = (0, ⟨9, -1, false, [([97], ⟨[97, 98, 99], 0⟩)]⟩) := by rfl
theorem awake_T : (⟨9, -1, false, [([97], ⟨[97, 98, 99], 0⟩)]⟩ : DS).crash [2] = ⟨9, -1, false, [([97], ⟨[97, 98], 2⟩)]⟩ := by rfl
theorem awake_U : (⟨9, -1, false, [([97], ⟨[97, 98], 2⟩)]⟩ : DS).read [97] = ([97, 98], 0) := by rfl

end Go.Proofs.Ytfljpnfjndjhpaa
