/- journal: the object, its small methods. -/
import Derived.Test.YtfljpnfjndjhpaaJf
import Derived.Test.YtfljpnfjndjhpaaVk
namespace Go.Proofs.Ytfljpnfjndjhpaa
open Go.RowKit
set_option linter.unusedVariables false

/-- A journal: the snapshot, the records, whether it has stopped. -/
structure JS where
  snap : List UInt8
  recs : List (List UInt8)
  stop : Bool

def curB : ByteArray := ⟨#[106, 111, 117, 114, 110, 97, 108]⟩
def draB : ByteArray := ⟨#[106, 111, 117, 114, 110, 97, 108, 46, 110, 101, 119]⟩
def curN : List UInt8 := curB.data.toList
def draN : List UInt8 := draB.data.toList
def JS.rdy (j : JS) (valid : Bool) : Int := if valid then if j.stop then 70 else 0 else 1
def JS.fail (j : JS) (e : Int) : JS := if e = 71 then j else { j with stop := true }

/-- The journal in block jb: sv the snapshot's slice, rv the records' row, vs its elements. -/
structure Jr (w : World) (jb : Nat) (p : Option Addr) (foot : List Nat) (j : JS) (sv rv : Value) (vs : List Value) : Prop where
  blk : w.heap[jb]? = some (.cells #[.pointer p, sv, rv, .bool j.stop] 51 (0, 0))
  sn : Rd w sv j.snap
  row : w.ownsRow 0 23 1 rv vs.length vs
  len : vs.length = j.recs.length
  rs : ∀ (i : Nat) (v : Value) (r : List UInt8), vs[i]? = some v → j.recs[i]? = some r → Rd w v r
  jf : jb ∉ foot
  sf : ∀ g, sv.ownBlock = some g → g < w.heap.size ∧ g ∉ foot ∧ g ≠ jb ∧ rv.ownBlock ≠ some g
  rf : ∀ g, rv.ownBlock = some g → g < w.heap.size ∧ g ∉ foot ∧ g ≠ jb
  vf : ∀ v ∈ vs, ∀ g, v.ownBlock = some g → g < w.heap.size ∧ g ∉ foot ∧ g ≠ jb ∧ rv.ownBlock ≠ some g

def JS.app (j : JS) (s : DS) (b : List UInt8) : Int × JS × DS :=
  let r1 := s.append curN (frameB b)
  let r2 := if r1.1 = 0 then r1.2.sync curN else r1
  if j.rdy (decide (0 < b.length) && decide (b.length ≤ 4194304)) ≠ 0 then (j.rdy (decide (0 < b.length) && decide (b.length ≤ 4194304)), j, s)
  else if r2.1 ≠ 0 then (r2.1, j.fail r2.1, r2.2) else (0, { j with recs := j.recs ++ [b] }, r2.2)

theorem Jr.lt {w : World} {jb : Nat} {p : Option Addr} {foot : List Nat} {j : JS} {sv rv : Value} {vs : List Value} (h : Jr w jb p foot j sv rv vs) : jb < w.heap.size := lt_of_block h.blk

/-- The disk turned, the journal did not. -/
theorem Jr.chg {w w' : World} {jb : Nat} {p : Option Addr} {foot foot' : List Nat} {j : JS} {sv rv : Value} {vs : List Value} (h : Jr w jb p foot j sv rv vs) (hc : Chg foot w w') (hf : ∀ i ∈ foot', i ∈ foot ∨ w.heap.size ≤ i) : Jr w' jb p foot' j sv rv vs := by
  have hno : ∀ g, g < w.heap.size → g ∉ foot → g ∉ foot' := fun g h1 h2 h3 => (hf g h3).elim h2 (fun h => absurd h1 (by omega))
  have hlt : ∀ g, g < w.heap.size → g < w'.heap.size := fun g h1 => Nat.lt_of_lt_of_le h1 hc.size
  refine ⟨(hc.block jb h.lt h.jf).trans h.blk, h.sn.chg hc fun _ g hg => (h.sf g hg).2.1, ?_, h.len, fun i v r h1 h2 => (h.rs i v r h1 h2).chg hc fun _ g hg => (h.vf v (List.mem_of_getElem? h1) g hg).2.1, hno jb h.lt h.jf, ?_, ?_, ?_⟩
  · refine ⟨h.row.1, h.row.2.imp id ?_⟩
    rintro ⟨g, cap, cur, k1, k2, k3, k4⟩
    have := h.rf g (by rw [k1]; rfl)
    exact ⟨g, cap, cur, k1, k2, (hc.block g this.1 this.2.1).trans k3, k4⟩
  · intro g hg; have := h.sf g hg; exact ⟨hlt g this.1, hno g this.1 this.2.1, this.2.2⟩
  · intro g hg; have := h.rf g hg; exact ⟨hlt g this.1, hno g this.1 this.2.1, this.2.2⟩
  · intro v hv g hg; have := h.vf v hv g hg; exact ⟨hlt g this.1, hno g this.1 this.2.1, this.2.2⟩
theorem Jr.below {w w' : World} {jb : Nat} {p : Option Addr} {foot : List Nat} {j : JS} {sv rv : Value} {vs : List Value} (h : Jr w jb p foot j sv rv vs) (hb : Below w.heap.size w w') : Jr w' jb p foot j sv rv vs :=
  h.chg ⟨hb.os, hb.tape, hb.output, hb.size, fun i hi _ => hb.block i hi⟩ fun i hi => .inl hi

theorem cells4 {w : World} {b : Nat} {c0 c1 c2 c3 : Value} {T : TypeId} (h : w.heap[b]? = some (.cells #[c0, c1, c2, c3] T (0, 0))) :
    w.cell? ⟨b, 0, none⟩ = some c0 ∧ w.cell? ⟨b, 1, none⟩ = some c1 ∧ w.cell? ⟨b, 2, none⟩ = some c2 ∧ w.cell? ⟨b, 3, none⟩ = some c3 ∧ (∀ i, w.frozen? ⟨b, i, none⟩ = false) := by
  refine ⟨?_, ?_, ?_, ?_, fun i => ?_⟩ <;> simp [World.cell?, World.frozen?, h]

section
variable {w : World} {jb : Nat} {a : Addr} {foot : List Nat} {j : JS} {sv rv : Value} {vs : List Value}

theorem jmade_c (h : Jr w jb (some a) foot j sv rv vs) : Calls Try.prog 26 #[.pointer (some ⟨jb, 0, none⟩)] w fun e w' => e = .returned (.bool true) ∧ w = w' := by
  obtain ⟨c0, c1, c2, c3, cf⟩ := cells4 h.blk
  clear h c1 c2 c3 cf
  go_enter Try.func26, Try.ntmps26
  go_wp2
  go_ret
  exact ⟨rfl, rfl⟩

theorem jready_c (h : Jr w jb (some a) foot j sv rv vs) (v : Bool) : Calls Try.prog 20 #[.pointer (some ⟨jb, 0, none⟩), .bool v] w fun e w' => e = .returned (.int .i64 (j.rdy v)) ∧ w = w' := by
  obtain ⟨c0, c1, c2, c3, cf⟩ := cells4 h.blk
  have HC := Lib.hid h
  clear h c0 c1 c2 cf
  cases v with
  | false =>
    go_enter Try.func20, Try.ntmps20
    go_wp2_with (go_at_call 26; refine (jmade_c HC.out).mono ?_; rintro e w' ⟨rfl, rfl⟩)
    go_ret
    exact ⟨rfl, rfl⟩
  | true =>
    cases hd : j.stop with
    | false =>
      rw [hd] at c3
      go_enter Try.func20, Try.ntmps20
      go_wp2_with (go_at_call 26; refine (jmade_c HC.out).mono ?_; rintro e w' ⟨rfl, rfl⟩)
      go_ret
      exact ⟨by simp [JS.rdy, hd], rfl⟩
    | true =>
      rw [hd] at c3
      go_enter Try.func20, Try.ntmps20
      go_wp2_with (go_at_call 26; refine (jmade_c HC.out).mono ?_; rintro e w' ⟨rfl, rfl⟩)
      go_ret
      exact ⟨by simp [JS.rdy, hd], rfl⟩

/-- fail: the world with the mark set. -/
theorem jfail_c (h : Jr w jb (some a) foot j sv rv vs) (x : Int) : Calls Try.prog 24 #[.pointer (some ⟨jb, 0, none⟩), .int .i64 x] w fun e w' => e = .returned (.int .i64 x) ∧ w' = if x = 71 then w else w.setCell ⟨jb, 3, none⟩ (.bool true) := by
  obtain ⟨c0, c1, c2, c3, cf⟩ := cells4 h.blk
  have f3 := cf 3
  clear h c0 c1 c2 cf
  by_cases hx : x = 71
  · subst hx
    go_enter Try.func24, Try.ntmps24
    go_wp2
    go_ret
    exact ⟨rfl, by simp⟩
  · rw [if_neg hx]
    go_enter Try.func24, Try.ntmps24
    go_wp2
    go_ret
    exact ⟨rfl, rfl⟩
end
end Go.Proofs.Ytfljpnfjndjhpaa
