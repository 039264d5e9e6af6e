/- both disks side by side. -/
import Derived.Test.YtcpldjaoacihlaaRap
import Derived.Test.YtcpldjaoacihlaaVw
namespace Go.Proofs.Ytcpldjaoacihlaa
open Go.RowKit
set_option linter.unusedVariables false

/-- Both disks, made by the call (w0: the world when it began): the program's at s, the reference's at r. -/
structure TwF (w0 w : World) (p q : Option Addr) (s r : DS) (foot m bb : List Nat) : Prop where
  d : Disk w p s foot
  r : RDisk w q r m bb
  ap : ∀ i ∈ foot, i ∉ m ∧ i ∉ bb
  nf : ∀ i ∈ foot, w0.heap.size ≤ i
  nm : ∀ i ∈ m, w0.heap.size ≤ i
  bel : Below w0.heap.size w0 w
def Tw (w0 w : World) (p q : Option Addr) (s r : DS) : Prop := ∃ foot m bb, TwF w0 w p q s r foot m bb

theorem RDisk.below {w w' : World} {q : Option Addr} {s : DS} {m bb : List Nat} (h : RDisk w q s m bb) (hb : Below w.heap.size w w') : RDisk w' q s m bb :=
  h.keep (fun i hi => hb.block i (h.lt.1 i hi)) (fun i hi => hb.block i (h.lt.2 i hi))
theorem RDisk.ok {w : World} {q : Option Addr} {s : DS} {m bb : List Nat} (h : RDisk w q s m bb) : s.Ok := by
  obtain ⟨qb, lv, G, rfl, hc, _⟩ := h
  exact hc.ok

section
variable {w0 w w' : World} {p q : Option Addr} {s s' r r' : DS} {foot m bb : List Nat}

theorem TwF.below (h : TwF w0 w p q s r foot m bb) (hb : Below w.heap.size w w') : TwF w0 w' p q s r foot m bb :=
  ⟨h.d.below hb, h.r.below hb, h.ap, h.nf, h.nm, h.bel.trans (hb.mono h.bel.size)⟩
theorem TwF.tw (h : TwF w0 w p q s r foot m bb) : Tw w0 w p q s r := ⟨_, _, _, h⟩
theorem Tw.below (h : Tw w0 w p q s r) (hb : Below w.heap.size w w') : Tw w0 w' p q s r := by
  obtain ⟨_, _, _, h⟩ := h
  exact (h.below hb).tw
theorem Tw.bel (h : Tw w0 w p q s r) : Below w0.heap.size w0 w := by
  obtain ⟨_, _, _, h⟩ := h
  exact h.bel
theorem Tw.ok (h : Tw w0 w p q s r) : s.Ok := by
  obtain ⟨_, _, _, h⟩ := h
  exact h.d.ok
/-- The program's disk has turned. -/
theorem TwF.stepD (h : TwF w0 w p q s r foot m bb) (ha : After w p s' foot w') : ∃ foot', TwF w0 w' p q s' r foot' m bb := by
  obtain ⟨foot', hd, hf, hc⟩ := ha
  have hlt := h.r.lt
  refine ⟨foot', hd, h.r.chg hc (fun i hi hf => (h.ap i hf).1 hi) (fun i hi hf => (h.ap i hf).2 hi), fun i hi => ?_, fun i hi => ?_, h.nm, h.bel.trans (hc.below h.bel.size h.nf)⟩
  · rcases hf i hi with h1 | h1
    · exact h.ap i h1
    · exact ⟨fun hm => by have := hlt.1 i hm; omega, fun hm => by have := hlt.2 i hm; omega⟩
  · exact (hf i hi).elim (h.nf i) fun h1 => Nat.le_trans h.bel.size h1
/-- The reference's disk has turned. -/
theorem TwF.stepR (h : TwF w0 w p q s r foot m bb) (ha : RAfter w q r' m bb w') : ∃ m' bb', TwF w0 w' p q s r' foot m' bb' := by
  obtain ⟨m', bb', hd, hm, hb, hc⟩ := ha
  have hlt := h.d.lt
  refine ⟨m', bb', h.d.chg hc (fun i hi => (h.ap i hi).1), hd, fun i hi => ⟨fun h1 => ?_, fun h1 => ?_⟩, h.nf, fun i hi => ?_, h.bel.trans (hc.below h.bel.size h.nm)⟩
  · rcases hm i h1 with h2 | h2
    · exact (h.ap i hi).1 h2
    · have := hlt i hi; omega
  · rcases hb i h1 with h2 | h2
    · exact (h.ap i hi).2 h2
    · have := hlt i hi; omega
  · exact (hm i hi).elim (h.nm i) fun h1 => Nat.le_trans h.bel.size h1
end
end Go.Proofs.Ytcpldjaoacihlaa
