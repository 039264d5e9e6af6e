/- Items of a model in memory: an argument is read. Written by tools/gengb.py. -/
import Derived.Test.YtkapelpbepejfaaGa
import Derived.Test.YtkapelpbepejfaaRows
import Derived.Deep.Matrix
import Derived.Lib.SmallJoins
import Derived.Deep.Slices
import Derived.Deep.Fields
import Derived.ChangeSame
import Derived.SizedLaws
namespace Go.Proofs.Ytkapelpbepejfaa
open Go Go.RowKit Go.ChangeShapes Go.WideShapes Go.Deep
set_option linter.unusedVariables false

/-- Any block. -/
def AnyG : Nat → Prop := fun _ => True
section
variable {H : Type} {enc : TypeId × Value → H} {w : World} {base : Nat} {held : Bool} {fuel : Nat}
theorem rdn_of {α : Type} (f : α → List Value) (m : Nat) (hm : 0 < m) (l : List α) (hf : ∀ x ∈ l, (f x).length = m) (h1 : ∀ x ∈ l, ∀ u ∈ f x, u.oneCell' = true) {a : Addr} {cap : Nat} (hl : l.length ≤ cap) (hc : cap ≤ maxLen)
    (hp : ∀ i (h : i < l.length), w.cells? base (a.add (i * m)) m = some (f l[i])) : RdN AnyG w (.slice (some a) l.length cap) l.length m (l.flatMap f) := by
  refine ⟨flat_len hf, fun u hu => ?_, some a, cap, rfl, hl, hc, by simp, fun h0 => ?_⟩
  · obtain ⟨x, hx, hux⟩ := List.mem_flatMap.1 hu
    exact h1 x hx u hux
  · have hat : ∀ i (h : i < l.length) j, j < m → w.cell? (a.add (i * m + j)) = (f l[i])[j]? := fun i h j hj => by
      obtain ⟨_, hcl, hat⟩ := World.cells?_some (hp i h)
      rw [← Go.Deep.add_add]
      exact hat j hj
    have hl0 := hf l[0] (List.getElem_mem h0)
    have h00 := hat 0 h0 0 hm
    rw [List.getElem?_eq_getElem (by omega)] at h00
    obtain ⟨b, off, spot⟩ := a
    have hspot : spot = none := by simpa [Addr.add] using World.cell?_spot h00
    subst hspot
    refine ⟨b, off, rfl, trivial, by simpa [Addr.add] using World.block_lt_of_cell? w _ h00, fun j u hu => ?_⟩
    have hj : j < l.length * m := by
      have := (List.getElem?_eq_some_iff.1 hu).1
      rwa [flat_len hf] at this
    have hk : j / m < l.length := (Nat.div_lt_iff_lt_mul hm).2 hj
    have hr : j % m < m := Nat.mod_lt _ hm
    have e : j / m * m + j % m = j := Nat.div_add_mod' j m
    have k1 := hat (j / m) hk (j % m) hr
    have k2 := flat_at hf (j / m) hk (j % m) hr
    rw [e] at k1 k2
    rw [Addr.add_lit] at k1
    rw [k1, ← k2, hu]
theorem cells2_openG {P : Program} {t : TypeId} {spare : Nat → Bool} {f0 f1 : Field} {c0 c1 : Value} {x : DataW H × List MemPlace} (hs : P.underlying t = some (.struct #[f0, f1])) (hone : oneCellFields P #[f0, f1] = true)
    (h : DataW.trod enc P w base spare held fuel t [c0, c1] = some x) : ∃ (y0 y1 : DataW H × List MemPlace) (n : Nat), x.1 = .agg [y0.1, y1.1] ∧
      DataW.trod enc P w base spare held n f0.type [c0] = some y0 ∧ DataW.trod enc P w base spare held n f1.type [c1] = some y1 := by
  obtain ⟨xs, n, _, hx, _, hlen, hg⟩ := DataW.trod_struct hs h
  obtain ⟨o0, k0⟩ := hone_of hone 0 f0 rfl
  obtain ⟨o1, k1⟩ := hone_of hone 1 f1 rfl
  match xs, hlen with
  | [y0, y1], _ => exact ⟨y0, y1, n, by rw [hx]; rfl, by simpa [o0, k0] using hg 0 f0 rfl, by simpa [o1, k1] using hg 1 f1 rfl⟩
theorem cells3_openG {P : Program} {t : TypeId} {spare : Nat → Bool} {f0 f1 f2 : Field} {c0 c1 c2 : Value} {x : DataW H × List MemPlace} (hs : P.underlying t = some (.struct #[f0, f1, f2])) (hone : oneCellFields P #[f0, f1, f2] = true)
    (h : DataW.trod enc P w base spare held fuel t [c0, c1, c2] = some x) : ∃ (y0 y1 y2 : DataW H × List MemPlace) (n : Nat), x.1 = .agg [y0.1, y1.1, y2.1] ∧
      DataW.trod enc P w base spare held n f0.type [c0] = some y0 ∧ DataW.trod enc P w base spare held n f1.type [c1] = some y1 ∧ DataW.trod enc P w base spare held n f2.type [c2] = some y2 := by
  obtain ⟨xs, n, _, hx, _, hlen, hg⟩ := DataW.trod_struct hs h
  obtain ⟨o0, k0⟩ := hone_of hone 0 f0 rfl
  obtain ⟨o1, k1⟩ := hone_of hone 1 f1 rfl
  obtain ⟨o2, k2⟩ := hone_of hone 2 f2 rfl
  match xs, hlen with
  | [y0, y1, y2], _ => exact ⟨y0, y1, y2, n, by rw [hx]; rfl, by simpa [o0, k0] using hg 0 f0 rfl, by simpa [o1, k1] using hg 1 f1 rfl, by simpa [o2, k2] using hg 2 f2 rfl⟩
theorem cells14_open {P : Program} {t : TypeId} {spare : Nat → Bool} {f0 f1 f2 f3 f4 f5 f6 f7 f8 f9 f10 f11 f12 f13 : Field} {c0 c1 c2 c3 c4 c5 c6 c7 c8 c9 c10 c11 c12 c13 : Value} {x : DataW H × List MemPlace} (hs : P.underlying t = some (.struct #[f0, f1, f2, f3, f4, f5, f6, f7, f8, f9, f10, f11, f12, f13])) (hone : oneCellFields P #[f0, f1, f2, f3, f4, f5, f6, f7, f8, f9, f10, f11, f12, f13] = true)
    (h : DataW.trod enc P w base spare held fuel t [c0, c1, c2, c3, c4, c5, c6, c7, c8, c9, c10, c11, c12, c13] = some x) : ∃ (y0 y1 y2 y3 y4 y5 y6 y7 y8 y9 y10 y11 y12 y13 : DataW H × List MemPlace) (n : Nat), fuel = n + 1 ∧ x.1 = .agg [y0.1, y1.1, y2.1, y3.1, y4.1, y5.1, y6.1, y7.1, y8.1, y9.1, y10.1, y11.1, y12.1, y13.1] ∧
      DataW.trod enc P w base spare held n f0.type [c0] = some y0 ∧ DataW.trod enc P w base spare held n f1.type [c1] = some y1 ∧ DataW.trod enc P w base spare held n f2.type [c2] = some y2 ∧ DataW.trod enc P w base spare held n f3.type [c3] = some y3 ∧ DataW.trod enc P w base spare held n f4.type [c4] = some y4 ∧ DataW.trod enc P w base spare held n f5.type [c5] = some y5 ∧ DataW.trod enc P w base spare held n f6.type [c6] = some y6 ∧ DataW.trod enc P w base spare held n f7.type [c7] = some y7 ∧ DataW.trod enc P w base spare held n f8.type [c8] = some y8 ∧ DataW.trod enc P w base spare held n f9.type [c9] = some y9 ∧ DataW.trod enc P w base spare held n f10.type [c10] = some y10 ∧ DataW.trod enc P w base spare held n f11.type [c11] = some y11 ∧ DataW.trod enc P w base spare held n f12.type [c12] = some y12 ∧ DataW.trod enc P w base spare held n f13.type [c13] = some y13 := by
  obtain ⟨xs, n, hf, hx, _, hlen, hg⟩ := DataW.trod_struct hs h
  obtain ⟨o0, k0⟩ := hone_of hone 0 f0 rfl
  obtain ⟨o1, k1⟩ := hone_of hone 1 f1 rfl
  obtain ⟨o2, k2⟩ := hone_of hone 2 f2 rfl
  obtain ⟨o3, k3⟩ := hone_of hone 3 f3 rfl
  obtain ⟨o4, k4⟩ := hone_of hone 4 f4 rfl
  obtain ⟨o5, k5⟩ := hone_of hone 5 f5 rfl
  obtain ⟨o6, k6⟩ := hone_of hone 6 f6 rfl
  obtain ⟨o7, k7⟩ := hone_of hone 7 f7 rfl
  obtain ⟨o8, k8⟩ := hone_of hone 8 f8 rfl
  obtain ⟨o9, k9⟩ := hone_of hone 9 f9 rfl
  obtain ⟨o10, k10⟩ := hone_of hone 10 f10 rfl
  obtain ⟨o11, k11⟩ := hone_of hone 11 f11 rfl
  obtain ⟨o12, k12⟩ := hone_of hone 12 f12 rfl
  obtain ⟨o13, k13⟩ := hone_of hone 13 f13 rfl
  match xs, hlen with
  | [y0, y1, y2, y3, y4, y5, y6, y7, y8, y9, y10, y11, y12, y13], _ => exact ⟨y0, y1, y2, y3, y4, y5, y6, y7, y8, y9, y10, y11, y12, y13, n, hf, by rw [hx]; rfl, by simpa [o0, k0] using hg 0 f0 rfl, by simpa [o1, k1] using hg 1 f1 rfl, by simpa [o2, k2] using hg 2 f2 rfl, by simpa [o3, k3] using hg 3 f3 rfl, by simpa [o4, k4] using hg 4 f4 rfl, by simpa [o5, k5] using hg 5 f5 rfl, by simpa [o6, k6] using hg 6 f6 rfl, by simpa [o7, k7] using hg 7 f7 rfl, by simpa [o8, k8] using hg 8 f8 rfl, by simpa [o9, k9] using hg 9 f9 rfl, by simpa [o10, k10] using hg 10 f10 rfl, by simpa [o11, k11] using hg 11 f11 rfl, by simpa [o12, k12] using hg 12 f12 rfl, by simpa [o13, k13] using hg 13 f13 rfl⟩
theorem wfG {a : Int} (h : (Lit.int .i64 a).wf = true) : -9223372036854775808 ≤ a ∧ a ≤ 9223372036854775807 := by simpa [Lit.wf, IntKind.min, IntKind.max, IntKind.signed, IntKind.bits] using h
theorem flat_one (l : List ByteArray) : l.flatMap (fun s => [Value.string s]) = tcells l := by
  induction l with
  | nil => rfl
  | cons x t ih => rw [List.flatMap_cons, ih]; rfl
theorem textsG_read {c : Value} {x : DataW H × List MemPlace} (h : DataW.trod enc Try.prog w base (fun _ => true) held fuel 22 [c] = some x) (hz : ∀ n ∈ x.1.weights Try.prog 22, n ≤ reachBytes) :
    ∃ xs : List ByteArray, TextsD AnyG w c xs := by
  have h1 : Try.prog.cellsOf 9 = 1 := by kernel_rfl
  have h2 : Try.prog.bytesOf 9 = 16 := by kernel_rfl
  rcases open_slice Try.underlying22 h with ⟨hcs, _⟩ | ⟨a, len, cap, m, n, D, Pl, hcs, hb, hl, hm, hmm, rfl, hi⟩
  · simp only [List.cons.injEq, and_true] at hcs
    subst hcs
    exact ⟨[], TextsD.nil _ _⟩
  · simp only [List.cons.injEq, and_true] at hcs
    subst hcs
    have hmc : m = cap := by simpa using hmm
    have hi' : ∀ i, i < len → ∃ s : ByteArray, w.cells? base (a.add (i * 1)) 1 = some [Value.string s] := fun i hil => by
      obtain ⟨cs', hc, ht⟩ := hi i (by omega)
      rw [h1] at hc
      obtain ⟨_, hcl, hat⟩ := World.cells?_some hc
      match cs', hcl with
      | [c0], _ =>
        obtain ⟨s, e, _, _⟩ := DataW.trod_string Try.underlying9 ht
        simp only [List.cons.injEq, and_true] at e
        subst e
        exact ⟨s, hc⟩
    obtain ⟨l, hll, hp⟩ := list_of len hi'
    subst hll
    have hw := hz (((List.range l.length).map D).length * Try.prog.bytesOf 9 + ((List.range (m - l.length)).map fun j => D (l.length + j)).length * Try.prog.bytesOf 9) (by simp [DataW.weights, Try.underlying22, Nat.add_mul])
    rw [h2] at hw
    simp only [List.length_map, List.length_range, reachBytes] at hw
    have hr := rdn_of (fun s : ByteArray => [Value.string s]) 1 (by omega) l (by simp) (by simp [Value.oneCell']) hl hm hp
    rw [flat_one] at hr
    exact ⟨l, hr, by omega⟩
theorem ons_read {c : Value} {x : DataW H × List MemPlace} (h : DataW.trod enc Try.prog w base (fun _ => true) held fuel 66 [c] = some x) (hz : ∀ n ∈ x.1.weights Try.prog 66, n ≤ reachBytes) :
    ∃ l : List OT, OnsD AnyG w c l := by
  have h1 : Try.prog.cellsOf 71 = 3 := by kernel_rfl
  have h2 : Try.prog.bytesOf 71 = 40 := by kernel_rfl
  rcases open_slice Try.underlying66 h with ⟨hcs, _⟩ | ⟨a, len, cap, m, n, D, Pl, hcs, hb, hl, hm, hmm, rfl, hi⟩
  · simp only [List.cons.injEq, and_true] at hcs
    subst hcs
    exact ⟨[], RdN.nil _ _ 3, by simp⟩
  · simp only [List.cons.injEq, and_true] at hcs
    subst hcs
    have hmc : m = cap := by simpa using hmm
    have hi' : ∀ i, i < len → ∃ s : OT, w.cells? base (a.add (i * 3)) 3 = some [.string s.item, .string s.file, .int .i64 s.event] := fun i hil => by
      obtain ⟨cs', hc, ht⟩ := hi i (by omega)
      rw [h1] at hc
      obtain ⟨_, hcl, hat⟩ := World.cells?_some hc
      match cs', hcl with
      | [c0, c1, c2], _ =>
        obtain ⟨y0, y1, y2, n2, hx, t0, t1, t2⟩ := cells3_openG Try.underlying71 (by kernel_rfl) ht
        obtain ⟨a0, e0, _, _⟩ := DataW.trod_string Try.underlying9 t0
        obtain ⟨a1, e1, _, _⟩ := DataW.trod_string Try.underlying9 t1
        obtain ⟨a2, e2, _, _⟩ := DataW.trod_int Try.underlying3 t2
        simp only [List.cons.injEq, and_true] at e0 e1 e2
        subst e0 e1 e2
        exact ⟨⟨a0, a1, a2⟩, hc⟩
    obtain ⟨l, hll, hp⟩ := list_of len hi'
    subst hll
    have hw := hz (((List.range l.length).map D).length * Try.prog.bytesOf 71 + ((List.range (m - l.length)).map fun j => D (l.length + j)).length * Try.prog.bytesOf 71) (by simp [DataW.weights, Try.underlying66, Nat.add_mul])
    rw [h2] at hw
    simp only [List.length_map, List.length_range, reachBytes] at hw
    exact ⟨l, rdn_of (fun o : OT => [.string o.item, .string o.file, .int .i64 o.event]) 3 (by omega) l (by simp) (by simp [Value.oneCell']) hl hm hp, by omega⟩
theorem sents_read {c : Value} {x : DataW H × List MemPlace} (h : DataW.trod enc Try.prog w base (fun _ => true) held fuel 24 [c] = some x) (hz : ∀ n ∈ x.1.weights Try.prog 24, n ≤ reachBytes) :
    ∃ l : List ST, SentsD AnyG w c l := by
  have h1 : Try.prog.cellsOf 68 = 2 := by kernel_rfl
  have h2 : Try.prog.bytesOf 68 = 40 := by kernel_rfl
  rcases open_slice Try.underlying24 h with ⟨hcs, _⟩ | ⟨a, len, cap, m, n, D, Pl, hcs, hb, hl, hm, hmm, rfl, hi⟩
  · simp only [List.cons.injEq, and_true] at hcs
    subst hcs
    exact ⟨[], SentsD.nil _ _⟩
  · simp only [List.cons.injEq, and_true] at hcs
    subst hcs
    have hmc : m = cap := by simpa using hmm
    have hi' : ∀ i, i < len → ∃ s : Value × ST, w.cells? base (a.add (i * 2)) 2 = some [s.1, .string s.2.cond] ∧ OnsD AnyG w s.1 s.2.on ∧ s.1.oneCell' = true := fun i hil => by
      obtain ⟨cs', hc, ht⟩ := hi i (by omega)
      rw [h1] at hc
      obtain ⟨_, hcl, hat⟩ := World.cells?_some hc
      match cs', hcl with
      | [c0, c1], _ =>
        obtain ⟨y0, y1, n2, hx, t0, t1⟩ := cells2_openG Try.underlying68 (by kernel_rfl) ht
        have hzz : ∀ k ∈ (D i).weights Try.prog 68, k ≤ reachBytes := fun k hk => hz k (by
          simp only [DataW.weights, Try.underlying24, List.mem_cons, List.mem_append]
          exact .inr (.inl (weightsAll_in (d := D i) (List.mem_map.2 ⟨i, by simpa using hil, rfl⟩) k hk)))
        simp only at hx
        rw [hx] at hzz
        have hw : ∀ n, n ∈ DataW.weightsEach Try.prog [66, 9] [y0.1, y1.1] → n ≤ reachBytes := fun n hn => hzz n (by
          simp only [DataW.weights, Try.underlying68]
          exact hn)
        obtain ⟨on, ho⟩ := ons_read t0 (fun n hn => hw n (DataW.weights_mem_each (j := 0) rfl rfl n hn))
        obtain ⟨a1, e1, _, _⟩ := DataW.trod_string Try.underlying9 t1
        simp only [List.cons.injEq, and_true] at e1
        subst e1
        obtain ⟨p, q, hv, _⟩ := ho.1.form
        exact ⟨⟨c0, on, a1⟩, hc, ho, by rw [hv]; rfl⟩
    obtain ⟨l, hll, hp⟩ := list_of len hi'
    subst hll
    have hw := hz (((List.range l.length).map D).length * Try.prog.bytesOf 68 + ((List.range (m - l.length)).map fun j => D (l.length + j)).length * Try.prog.bytesOf 68) (by simp [DataW.weights, Try.underlying24, Nat.add_mul])
    rw [h2] at hw
    simp only [List.length_map, List.length_range, reachBytes] at hw
    have hin : ∀ s ∈ l, OnsD AnyG w s.1 s.2.on ∧ s.1.oneCell' = true := fun s hs => by
      obtain ⟨i, hi2, rfl⟩ := List.getElem_of_mem hs
      exact (hp i hi2).2
    refine ⟨l.map (·.2), l, rfl, rdn_of (fun p : Value × ST => [p.1, .string p.2.cond]) 2 (by omega) l (by simp) (fun p hp2 u hu => ?_) hl hm (fun i h => (hp i h).1), by omega, fun p hp2 => (hin p hp2).1⟩
    simp only [List.mem_cons, List.not_mem_nil, or_false] at hu
    rcases hu with rfl | rfl
    · exact (hin p hp2).2
    · rfl
theorem item_read (fuel : Nat) (ih : ∀ m, m < fuel → ∀ {c : Value} {x : DataW H × List MemPlace}, DataW.trod enc Try.prog w base (fun _ => true) held m 25 [c] = some x → (∀ n ∈ x.1.weights Try.prog 25, n ≤ reachBytes) → ∃ l, ItemsD AnyG w (m + 1) c l)
    {cs : List Value} {x : DataW H × List MemPlace} (hl14 : cs.length = 14) (h : DataW.trod enc Try.prog w base (fun _ => true) held fuel 27 cs = some x) (hz : ∀ n ∈ x.1.weights Try.prog 27, n ≤ reachBytes) : ∃ s : IT, ItemV AnyG w fuel cs s := by
  match cs, hl14 with
  | [c0, c1, c2, c3, c4, c5, c6, c7, c8, c9, c10, c11, c12, c13], _ =>
    obtain ⟨y0, y1, y2, y3, y4, y5, y6, y7, y8, y9, y10, y11, y12, y13, n, hf, hx, t0, t1, t2, t3, t4, t5, t6, t7, t8, t9, t10, t11, t12, t13⟩ := cells14_open Try.underlying27 (by kernel_rfl) h
    rw [hx] at hz
    have hw : ∀ n, n ∈ DataW.weightsEach Try.prog [9, 9, 3, 24, 24, 9, 9, 9, 4, 4, 3, 22, 25, 25] [y0.1, y1.1, y2.1, y3.1, y4.1, y5.1, y6.1, y7.1, y8.1, y9.1, y10.1, y11.1, y12.1, y13.1] → n ≤ reachBytes := fun n hn => hz n (by
      simp only [DataW.weights, Try.underlying27]
      exact hn)
    obtain ⟨a0, e0, _, w0⟩ := DataW.trod_string Try.underlying9 t0
    obtain ⟨a1, e1, _, w1⟩ := DataW.trod_string Try.underlying9 t1
    obtain ⟨a2, e2, _, w2⟩ := DataW.trod_int Try.underlying3 t2
    obtain ⟨a5, e5, _, w5⟩ := DataW.trod_string Try.underlying9 t5
    obtain ⟨a6, e6, _, w6⟩ := DataW.trod_string Try.underlying9 t6
    obtain ⟨a7, e7, _, w7⟩ := DataW.trod_string Try.underlying9 t7
    obtain ⟨a8, e8, _⟩ := DataW.trod_bool Try.underlying4 t8
    obtain ⟨a9, e9, _⟩ := DataW.trod_bool Try.underlying4 t9
    obtain ⟨a10, e10, _, w10⟩ := DataW.trod_int Try.underlying3 t10
    simp only [List.cons.injEq, and_true] at e0 e1 e2 e5 e6 e7 e8 e9 e10
    subst e0 e1 e2 e5 e6 e7 e8 e9 e10
    obtain ⟨en, h3⟩ := sents_read t3 (fun n hn => hw n (DataW.weights_mem_each (j := 3) rfl rfl n hn))
    obtain ⟨ex, h4⟩ := sents_read t4 (fun n hn => hw n (DataW.weights_mem_each (j := 4) rfl rfl n hn))
    obtain ⟨ro, h11⟩ := textsG_read t11 (fun n hn => hw n (DataW.weights_mem_each (j := 11) rfl rfl n hn))
    obtain ⟨ki, h12⟩ := ih n (by omega) t12 (fun n hn => hw n (DataW.weights_mem_each (j := 12) rfl rfl n hn))
    obtain ⟨ta, h13⟩ := ih n (by omega) t13 (fun n hn => hw n (DataW.weights_mem_each (j := 13) rfl rfl n hn))
    unfold maxLen at w0 w1 w5 w6 w7
    subst hf
    refine ⟨.mk a0 a1 a2 en ex a5 a6 a7 a8 a9 a10 ro ki ta, ⟨?_, ?_, wfG w2, ?_, ?_, ?_, wfG w10⟩, c3, c4, c11, c12, c13, rfl, h3, h4, h11, h12, h13⟩
    · show a0.size ≤ _; omega
    · show a1.size ≤ _; omega
    · show a5.size ≤ _; omega
    · show a6.size ≤ _; omega
    · show a7.size ≤ _; omega
theorem items_open : ∀ (fuel : Nat) {c : Value} {x : DataW H × List MemPlace}, DataW.trod enc Try.prog w base (fun _ => true) held fuel 25 [c] = some x → (∀ n ∈ x.1.weights Try.prog 25, n ≤ reachBytes) → ∃ l, ItemsD AnyG w (fuel + 1) c l := by
  intro fuel
  induction fuel using Nat.strongRecOn with
  | _ fuel ih =>
    intro c x h hz
    have h1 : Try.prog.cellsOf 27 = 14 := by kernel_rfl
    have h2 : Try.prog.bytesOf 27 = 224 := by kernel_rfl
    rcases DataW.trod_slice Try.underlying25 h with ⟨hcs, _⟩ | ⟨a, len, cap, elems, rest, n, hf, hcs, rfl, hb, hl, hm, hlen, hel, hsp, hns⟩
    · simp only [List.cons.injEq, and_true] at hcs
      subst hcs
      exact ⟨[], ItemsD.nil _ _ _⟩
    · simp only [List.cons.injEq, and_true] at hcs
      subst hcs
      have hi' : ∀ i, i < len → ∃ s : List Value × IT, w.cells? base (a.add (i * 14)) 14 = some s.1 ∧ ItemV AnyG w fuel s.1 s.2 := fun i hil => by
        have key := hel i hil
        have hie : i < elems.length := by omega
        rw [List.getElem?_eq_getElem hie] at key
        obtain ⟨cs', hc, ht⟩ := Option.bind_eq_some_iff.1 key
        rw [h1] at hc
        obtain ⟨_, hcl, hat⟩ := World.cells?_some hc
        have hzz : ∀ k ∈ (elems[i].1).weights Try.prog 27, k ≤ reachBytes := fun k hk => hz k (by
          simp only [DataW.weights, Try.underlying25, List.mem_cons, List.mem_append]
          exact .inr (.inl (weightsAll_in (d := elems[i].1) (List.mem_map.2 ⟨elems[i], List.getElem_mem _, rfl⟩) k hk)))
        obtain ⟨s, hs⟩ := item_read n (fun m hm2 {c} {x} hc2 hz2 => ih m (by omega) hc2 hz2) hcl ht hzz
        obtain ⟨ho, ev, xv, rv, kv, tv, e, k1, k2, k3, k4, k5⟩ := hs
        exact ⟨⟨cs', s⟩, hc, ho, ev, xv, rv, kv, tv, e, k1, k2, k3, k4.le (by omega), k5.le (by omega)⟩
      obtain ⟨l, hll, hp⟩ := list_of len hi'
      subst hll
      have hw := hz ((elems.map (·.1)).length * Try.prog.bytesOf 27 + (rest.map (·.1)).length * Try.prog.bytesOf 27) (by simp [DataW.weights, Try.underlying25, Nat.add_mul])
      rw [h2] at hw
      simp only [List.length_map, reachBytes] at hw
      have hin : ∀ s ∈ l, ItemV AnyG w fuel s.1 s.2 := fun s hs => by
        obtain ⟨i, hi2, rfl⟩ := List.getElem_of_mem hs
        exact (hp i hi2).2
      refine ⟨l.map (·.2), l, rfl, rdn_of (fun p : List Value × IT => p.1) 14 (by omega) l (fun p hp2 => ?_) (fun p hp2 u hu => ?_) hl hm (fun i h => (hp i h).1), by omega, fun p hp2 => hin p hp2⟩
      · obtain ⟨_, ev, xv, rv, kv, tv, e, _⟩ := hin p hp2
        rw [e]
        rfl
      · obtain ⟨_, ev, xv, rv, kv, tv, e, k1, k2, k3, k4, k5⟩ := hin p hp2
        obtain ⟨_, _, f1, _⟩ := k1.form
        obtain ⟨_, _, f2, _⟩ := k2.form
        obtain ⟨_, _, f3, _⟩ := k3.form
        obtain ⟨_, _, f4, _⟩ := k4.form
        obtain ⟨_, _, f5, _⟩ := k5.form
        subst f1 f2 f3 f4 f5
        rw [e] at hu
        simp only [item14, List.mem_cons, List.not_mem_nil, or_false] at hu
        rcases hu with rfl | rfl | rfl | rfl | rfl | rfl | rfl | rfl | rfl | rfl | rfl | rfl | rfl | rfl <;> rfl
theorem item_open {fuel : Nat} {cs : List Value} {x : DataW H × List MemPlace} (hl14 : cs.length = 14) (h : DataW.trod enc Try.prog w base (fun _ => true) held fuel 27 cs = some x) (hz : ∀ n ∈ x.1.weights Try.prog 27, n ≤ reachBytes) : ∃ s : IT, ItemV AnyG w fuel cs s :=
  item_read fuel (fun m _ {c} {x} hc hz2 => items_open m hc hz2) hl14 h hz
end
end Go.Proofs.Ytkapelpbepejfaa
