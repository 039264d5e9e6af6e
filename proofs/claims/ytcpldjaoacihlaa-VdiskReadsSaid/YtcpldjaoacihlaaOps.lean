/- Reading a law's arguments: slices of steps. -/
import Derived.Test.YtcpldjaoacihlaaOp
import Derived.Deep.Slices
import Derived.Deep.Fields
import Derived.ChangeSame
import Derived.SizedLaws
namespace Go.Proofs.Ytcpldjaoacihlaa
open Go.RowKit Go.ChangeShapes Go.WideShapes Go.Deep
set_option linter.unusedVariables false

/-- A step: its numbers, names, and its two slices with what they read as. -/
structure SV where
  op : Int
  n : Int
  nm : ByteArray
  tn : ByteArray
  bv : Value
  kv : Value
  b : List UInt8
  ks : List Int
def scells (x : SV) : List Value := [.int .i64 x.op, .int .i64 x.n, .string x.nm, .string x.tn, x.bv, x.kv]
structure SVok (w : World) (x : SV) : Prop where
  op : -9223372036854775808 ≤ x.op ∧ x.op ≤ 9223372036854775807
  n : -9223372036854775808 ≤ x.n ∧ x.n ≤ 9223372036854775807
  nm : x.nm.size ≤ 9223372036854775807
  tn : x.tn.size ≤ 9223372036854775807
  rb : Rd w x.bv x.b
  rk : RdV w x.kv (icells x.ks)
  lb : x.b.length ≤ 140737488351232
  lk : x.ks.length ≤ 140737488351232
/-- A slice of steps. -/
def StepsIs (w : World) (v : Value) (l : List SV) : Prop :=
  ∃ a c, v = .slice a l.length c ∧ l.length ≤ c ∧ c ≤ maxLen ∧ (0 < l.length → ∃ b o, a = some ⟨b, o, none⟩ ∧ ∀ k (h : k < l.length) j, j < 6 → w.cell? ⟨b, o + (k * 6 + j), none⟩ = (scells l[k])[j]?) ∧ ∀ x ∈ l, SVok w x

theorem weightsAll_in {H : Type} {P : Program} {e : TypeId} : ∀ {l : List (DataW H)} {d : DataW H}, d ∈ l → ∀ n ∈ d.weights P e, n ∈ DataW.weightsAll P e l
  | [], _, hd, _, _ => by cases hd
  | z :: r, d, hd, n, hn => by
    simp only [DataW.weightsAll, List.mem_append]
    rcases List.mem_cons.1 hd with rfl | h
    · exact .inl hn
    · exact .inr (weightsAll_in h n hn)

section
variable {H : Type} {enc : TypeId × Value → H} {w : World} {base : Nat} {held : Bool} {fuel : Nat}

theorem cells6_open {P : Program} {t : TypeId} {spare : Nat → Bool} {f0 f1 f2 f3 f4 f5 : Field} {c0 c1 c2 c3 c4 c5 : Value} {x : DataW H × List MemPlace} (hs : P.underlying t = some (.struct #[f0, f1, f2, f3, f4, f5])) (hone : oneCellFields P #[f0, f1, f2, f3, f4, f5] = true)
    (h : DataW.trod enc P w base spare held fuel t [c0, c1, c2, c3, c4, c5] = some x) :
    ∃ (y0 y1 y2 y3 y4 y5 : DataW H × List MemPlace) (n : Nat), x.1 = .agg [y0.1, y1.1, y2.1, y3.1, y4.1, y5.1] ∧
      DataW.trod enc P w base spare held n f0.type [c0] = some y0 ∧ DataW.trod enc P w base spare held n f1.type [c1] = some y1 ∧ DataW.trod enc P w base spare held n f2.type [c2] = some y2 ∧ DataW.trod enc P w base spare held n f3.type [c3] = some y3 ∧ DataW.trod enc P w base spare held n f4.type [c4] = some y4 ∧ DataW.trod enc P w base spare held n f5.type [c5] = some y5 := by
  obtain ⟨xs, n, _, hx, _, hlen, hg⟩ := DataW.trod_struct hs h
  obtain ⟨o0, k0⟩ := hone_of hone 0 f0 rfl
  obtain ⟨o1, k1⟩ := hone_of hone 1 f1 rfl
  obtain ⟨o2, k2⟩ := hone_of hone 2 f2 rfl
  obtain ⟨o3, k3⟩ := hone_of hone 3 f3 rfl
  obtain ⟨o4, k4⟩ := hone_of hone 4 f4 rfl
  obtain ⟨o5, k5⟩ := hone_of hone 5 f5 rfl
  match xs, hlen with
  | [y0, y1, y2, y3, y4, y5], _ =>
    exact ⟨y0, y1, y2, y3, y4, y5, n, by rw [hx]; rfl, by simpa [o0, k0] using hg 0 f0 rfl, by simpa [o1, k1] using hg 1 f1 rfl, by simpa [o2, k2] using hg 2 f2 rfl, by simpa [o3, k3] using hg 3 f3 rfl, by simpa [o4, k4] using hg 4 f4 rfl, by simpa [o5, k5] using hg 5 f5 rfl⟩

theorem wf64 {a : Int} (h : (Lit.int .i64 a).wf = true) : -9223372036854775808 ≤ a ∧ a ≤ 9223372036854775807 := by simpa [Lit.wf, IntKind.min, IntKind.max, IntKind.signed, IntKind.bits] using h

theorem bytes_read {c : Value} {x : DataW H × List MemPlace} (h : DataW.trod enc Try.prog w base (fun _ => true) held fuel 31 [c] = some x) (hz : ∀ n ∈ x.1.weights Try.prog 31, n ≤ reachBytes) :
    ∃ xs : List UInt8, Rd w c xs ∧ xs.length ≤ 140737488351232 := by
  have h1 : Try.prog.bytesOf 5 = 1 := by kernel_rfl
  rcases open_ints Try.underlying31 Try.underlying5 (by kernel_rfl) h with ⟨hcs, _⟩ | ⟨a, l, c, zs, hcs, _, hl, hm, hzl, rfl, hcell, hwz⟩
  · simp only [List.cons.injEq, and_true] at hcs
    subst hcs
    exact ⟨[], Rd.nil _, by simp⟩
  · simp only [List.cons.injEq, and_true] at hcs
    subst hcs
    have hz' : zs.length = c := by simpa using hzl
    have hb := hz (((lits IntKind.u8 (zs.take l) : List (DataW H)).length + (lits IntKind.u8 (zs.drop l) : List (DataW H)).length) * Try.prog.bytesOf 5) (by simp [DataW.weights, Try.underlying31])
    rw [h1] at hb
    simp only [lits, List.length_map, List.length_take, List.length_drop, reachBytes] at hb
    exact ⟨_, rd_of_row hl hm hz' hcell hwz, by simp only [List.length_map, List.length_take]; omega⟩

theorem ints_read {c : Value} {x : DataW H × List MemPlace} (h : DataW.trod enc Try.prog w base (fun _ => true) held fuel 32 [c] = some x) (hz : ∀ n ∈ x.1.weights Try.prog 32, n ≤ reachBytes) :
    ∃ xs : List Int, RdV w c (icells xs) ∧ xs.length ≤ 140737488351232 := by
  have h1 : Try.prog.bytesOf 3 = 8 := by kernel_rfl
  rcases open_ints Try.underlying32 Try.underlying3 (by kernel_rfl) h with ⟨hcs, _⟩ | ⟨a, l, c, zs, hcs, _, hl, hm, hzl, rfl, hcell, hwz⟩
  · simp only [List.cons.injEq, and_true] at hcs
    subst hcs
    exact ⟨[], RdV.nil _, by simp⟩
  · simp only [List.cons.injEq, and_true] at hcs
    subst hcs
    have hz' : zs.length = c := by simpa using hzl
    have hb := hz (((lits IntKind.i64 (zs.take l) : List (DataW H)).length + (lits IntKind.i64 (zs.drop l) : List (DataW H)).length) * Try.prog.bytesOf 3) (by simp [DataW.weights, Try.underlying32])
    rw [h1] at hb
    simp only [lits, List.length_map, List.length_take, List.length_drop, reachBytes] at hb
    exact ⟨_, rdv_of_row hl hm hz' hcell, by simp only [List.length_take]; omega⟩

theorem step_read {cs : List Value} {x : DataW H × List MemPlace} (hl6 : cs.length = 6) (h : DataW.trod enc Try.prog w base (fun _ => true) held fuel 34 cs = some x)
    (hz : ∀ n ∈ x.1.weights Try.prog 34, n ≤ reachBytes) : ∃ s : SV, cs = scells s ∧ SVok w s := by
  match cs, hl6 with
  | [c0, c1, c2, c3, c4, c5], _ =>
    obtain ⟨y0, y1, y2, y3, y4, y5, n, hx, t0, t1, t2, t3, t4, t5⟩ := cells6_open Try.underlying34 (by kernel_rfl) h
    rw [hx] at hz
    have hw : ∀ n, n ∈ DataW.weightsEach Try.prog [3, 3, 9, 9, 31, 32] [y0.1, y1.1, y2.1, y3.1, y4.1, y5.1] → n ≤ reachBytes := fun n hn => hz n (by
      simp only [DataW.weights, Try.underlying34]
      exact hn)
    obtain ⟨op, e0, _, w0⟩ := DataW.trod_int Try.underlying3 t0
    obtain ⟨nn, e1, _, w1⟩ := DataW.trod_int Try.underlying3 t1
    obtain ⟨nm, e2, _, w2⟩ := DataW.trod_string Try.underlying9 t2
    obtain ⟨tn, e3, _, w3⟩ := DataW.trod_string Try.underlying9 t3
    simp only [List.cons.injEq, and_true] at e0 e1 e2 e3
    subst e0 e1 e2 e3
    obtain ⟨b, rb, lb⟩ := bytes_read t4 (fun n hn => hw n (DataW.weights_mem_each (j := 4) rfl rfl n hn))
    obtain ⟨ks, rk, lk⟩ := ints_read t5 (fun n hn => hw n (DataW.weights_mem_each (j := 5) rfl rfl n hn))
    unfold maxLen at w2 w3
    exact ⟨⟨op, nn, nm, tn, c4, c5, b, ks⟩, rfl, wf64 w0, wf64 w1, by omega, by omega, rb, rk, lb, lk⟩

theorem list_of {α : Type} {P : Nat → α → Prop} : ∀ n, (∀ i, i < n → ∃ s, P i s) → ∃ l : List α, l.length = n ∧ ∀ i (h : i < l.length), P i l[i]
  | 0, _ => ⟨[], rfl, fun i h => by simp at h⟩
  | n + 1, h => by
    obtain ⟨l, hl, hp⟩ := list_of n fun i hi => h i (by omega)
    obtain ⟨s, hs⟩ := h n (by omega)
    refine ⟨l ++ [s], by simp [hl], fun i hi => ?_⟩
    by_cases hin : i < l.length
    · rw [List.getElem_append_left hin]; exact hp i hin
    · have : i = n := by simp at hi; omega
      subst this
      rw [List.getElem_append_right (by omega)]
      simp only [hl, Nat.sub_self, List.getElem_cons_zero]
      exact hs

theorem steps_open {cs : List Value} {x : DataW H × List MemPlace} (h : DataW.trod enc Try.prog w base (fun _ => true) held fuel 22 cs = some x)
    (hz : ∀ n ∈ x.1.weights Try.prog 22, n ≤ reachBytes) : ∃ v l, cs = [v] ∧ StepsIs w v l := by
  have h6 : Try.prog.cellsOf 34 = 6 := by kernel_rfl
  rcases open_slice Try.underlying22 h with ⟨rfl, _⟩ | ⟨a, len, cap, m, n, D, Pl, rfl, hb, hl, hm, hmm, rfl, hi⟩
  · exact ⟨_, [], rfl, none, 0, rfl, by simp, by simp, by simp, by simp⟩
  · have hmc : m = cap := by simpa using hmm
    have hi' : ∀ i, i < len → ∃ s : SV, w.cells? base (a.add (i * 6)) 6 = some (scells s) ∧ SVok w s := fun i hil => by
      obtain ⟨cs', hc, ht⟩ := hi i (by omega)
      rw [h6] at hc
      obtain ⟨_, hcl, _⟩ := World.cells?_some hc
      obtain ⟨s, rfl, hs⟩ := step_read hcl ht (fun k hk => hz k (by
        simp only [DataW.weights, Try.underlying22, List.mem_cons, List.mem_append]
        exact .inr (.inl (weightsAll_in (d := D i) (List.mem_map.2 ⟨i, by simpa using hil, rfl⟩) k hk))))
      exact ⟨s, hc, hs⟩
    obtain ⟨l, hll, hp⟩ := list_of len hi'
    subst hll
    refine ⟨_, l, rfl, some a, cap, rfl, hl, hm, fun h0 => ?_, fun x hx => ?_⟩
    · obtain ⟨b, off, spot⟩ := a
      have hat : ∀ i (hil : i < l.length) j, j < 6 → w.cell? ((⟨b, off, spot⟩ : Addr).add (i * 6 + j)) = (scells l[i])[j]? := fun i hil j hj => by
        obtain ⟨_, hcl, hat⟩ := World.cells?_some (hp i hil).1
        rw [← Go.Deep.add_add]
        exact hat j hj
      have hspot : spot = none := by
        have h00 := hat 0 h0 0 (by omega)
        simpa [Addr.add] using World.cell?_spot (show w.cell? ((⟨b, off, spot⟩ : Addr).add (0 * 6 + 0)) = some (.int .i64 l[0].op) from h00)
      subst hspot
      exact ⟨b, off, rfl, fun k hk j hj => by have := hat k hk j hj; rwa [Addr.add_lit] at this⟩
    · obtain ⟨i, hi2, rfl⟩ := List.getElem_of_mem hx
      exact (hp i hi2).2
end
end Go.Proofs.Ytcpldjaoacihlaa
