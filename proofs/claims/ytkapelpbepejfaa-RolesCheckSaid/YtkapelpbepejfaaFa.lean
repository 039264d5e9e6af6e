/- Reading a law's arguments: definitions of a case file ([]api.FileItem: a list of trees). -/
import Derived.Test.YtkapelpbepejfaaBy
import Derived.Test.YtkapelpbepejfaaProg
import Derived.Deep.Fields
import Derived.Deep.Slices
import Derived.ShutString
import Derived.ChangeOld
namespace Go.Proofs.Ytkapelpbepejfaa
open Go Go.RowKit Go.ChangeShapes Go.WideShapes Go.Deep
set_option linter.unusedVariables false

/-- A definition: its name, its numbers, the definitions below it, the names that it refers to. -/
inductive FT where
  | mk (name : ByteArray) (kind multi : Int) (kids : List FT) (refs : List ByteArray)
def FT.name : FT → ByteArray | .mk n _ _ _ _ => n
def FT.kind : FT → Int | .mk _ k _ _ _ => k
def FT.multi : FT → Int | .mk _ _ m _ _ => m
def FT.kids : FT → List FT | .mk _ _ _ l _ => l
def FT.refs : FT → List ByteArray | .mk _ _ _ _ r => r

/-- A slice whose cells read so. -/
def RdF (w : World) (v : Value) (cs : List Value) : Prop :=
  ∃ a c, v = .slice a cs.length c ∧ cs.length ≤ c ∧ c ≤ maxLen ∧ (a = none → c = 0) ∧ (0 < cs.length → ∃ b o, a = some ⟨b, o, none⟩ ∧ ∀ i, i < cs.length → w.cell? ⟨b, o + i, none⟩ = cs[i]?)
def tcellsF (xs : List ByteArray) : List Value := xs.map Value.string
theorem RdF.below {w w' : World} {v : Value} {cs : List Value} (h : RdF w v cs) (hb : Below w.heap.size w w') : RdF w' v cs := by
  obtain ⟨a, c, e, h1, h2, h3, h4⟩ := h
  refine ⟨a, c, e, h1, h2, h3, fun hp => ?_⟩
  obtain ⟨b, o, ha, hx⟩ := h4 hp
  refine ⟨b, o, ha, fun i hi => ?_⟩
  have hc := hx i hi
  rw [List.getElem?_eq_getElem hi] at hc ⊢
  exact (hb.cell (p := ⟨b, o + i, none⟩) (World.block_lt_of_cell? w _ hc)).trans hc

/-- A list of definitions, so many levels deep at most. -/
def FilesD (w : World) : Nat → Value → List FT → Prop
  | 0, _, _ => False
  | d + 1, v, l => ∃ a c, v = .slice a l.length c ∧ l.length ≤ c ∧ c ≤ maxLen ∧ (a = none → c = 0) ∧ (0 < l.length → ∃ b o, a = some ⟨b, o, none⟩ ∧ b < w.heap.size ∧
      ∀ k (h : k < l.length), ∃ kv rv, (w.cell? ⟨b, o + k * 5, none⟩ = some (.string l[k].name) ∧ w.cell? ⟨b, o + k * 5 + 1, none⟩ = some (.int .i64 l[k].kind) ∧ w.cell? ⟨b, o + k * 5 + 2, none⟩ = some (.int .i64 l[k].multi) ∧ w.cell? ⟨b, o + k * 5 + 3, none⟩ = some kv ∧ w.cell? ⟨b, o + k * 5 + 4, none⟩ = some rv) ∧
        FilesD w d kv l[k].kids ∧ RdF w rv (tcellsF l[k].refs) ∧ l[k].name.size ≤ 9223372036854775807 ∧ (-9223372036854775808 ≤ l[k].kind ∧ l[k].kind ≤ 9223372036854775807) ∧ (-9223372036854775808 ≤ l[k].multi ∧ l[k].multi ≤ 9223372036854775807))
theorem FilesD.nil (w : World) (d : Nat) : FilesD w (d + 1) (.slice none 0 0) [] := ⟨none, 0, rfl, by simp, by unfold maxLen; omega, by simp, by simp⟩
theorem FilesD.below {w w' : World} (hb : Below w.heap.size w w') : ∀ {d : Nat} {v : Value} {l : List FT}, FilesD w d v l → FilesD w' d v l
  | 0, _, _, h => h
  | d + 1, v, l, h => by
    obtain ⟨a, c, e, h1, h2, h3, h4⟩ := h
    refine ⟨a, c, e, h1, h2, h3, fun hp => ?_⟩
    obtain ⟨b, o, ha, hlt, hx⟩ := h4 hp
    refine ⟨b, o, ha, Nat.lt_of_lt_of_le hlt hb.size, fun k hk => ?_⟩
    obtain ⟨kv, rv, ⟨c0, c1, c2, c3, c4⟩, hk1, hr, hn⟩ := hx k hk
    exact ⟨kv, rv, ⟨(hb.cell hlt).trans c0, (hb.cell hlt).trans c1, (hb.cell hlt).trans c2, (hb.cell hlt).trans c3, (hb.cell hlt).trans c4⟩, FilesD.below hb hk1, hr.below hb, hn⟩

section
variable {H : Type} {enc : TypeId × Value → H} {w : World} {base : Nat} {held : Bool}
theorem oneF {P : Program} {fs : Array Field} (h : oneCellFields P fs = true) (j : Nat) (f : Field) (hf : fs[j]? = some f) : f.offset = j ∧ P.cellsOf f.type = 1 := hone_of h j f hf
theorem cells5_openF {P : Program} {t : TypeId} {spare : Nat → Bool} {fuel : Nat} {f0 f1 f2 f3 f4 : Field} {c0 c1 c2 c3 c4 : Value} {x : DataW H × List MemPlace} (hs : P.underlying t = some (.struct #[f0, f1, f2, f3, f4])) (hone : oneCellFields P #[f0, f1, f2, f3, f4] = true)
    (h : DataW.trod enc P w base spare held fuel t [c0, c1, c2, c3, c4] = some x) :
    ∃ (y0 y1 y2 y3 y4 : DataW H × List MemPlace) (n : Nat), fuel = n + 1 ∧
      DataW.trod enc P w base spare held n f0.type [c0] = some y0 ∧ DataW.trod enc P w base spare held n f1.type [c1] = some y1 ∧ DataW.trod enc P w base spare held n f2.type [c2] = some y2 ∧ DataW.trod enc P w base spare held n f3.type [c3] = some y3 ∧ DataW.trod enc P w base spare held n f4.type [c4] = some y4 := by
  obtain ⟨xs, n, hf, hx, _, hlen, hg⟩ := DataW.trod_struct hs h
  obtain ⟨o0, k0⟩ := oneF hone 0 f0 rfl
  obtain ⟨o1, k1⟩ := oneF hone 1 f1 rfl
  obtain ⟨o2, k2⟩ := oneF hone 2 f2 rfl
  obtain ⟨o3, k3⟩ := oneF hone 3 f3 rfl
  obtain ⟨o4, k4⟩ := oneF hone 4 f4 rfl
  match xs, hlen with
  | [y0, y1, y2, y3, y4], _ =>
    exact ⟨y0, y1, y2, y3, y4, n, hf, by simpa [o0, k0] using hg 0 f0 rfl, by simpa [o1, k1] using hg 1 f1 rfl, by simpa [o2, k2] using hg 2 f2 rfl, by simpa [o3, k3] using hg 3 f3 rfl, by simpa [o4, k4] using hg 4 f4 rfl⟩
theorem list_ofF {α : Type} {P : Nat → α → Prop} : ∀ n, (∀ i, i < n → ∃ s, P i s) → ∃ l : List α, l.length = n ∧ ∀ i (h : i < l.length), P i l[i]
  | 0, _ => ⟨[], rfl, fun i h => by simp at h⟩
  | n + 1, h => by
    obtain ⟨l, hl, hp⟩ := list_ofF n fun i hi => h i (by omega)
    obtain ⟨s, hs⟩ := h n (by omega)
    refine ⟨l ++ [s], by simp [hl], fun i hi => ?_⟩
    by_cases hin : i < l.length
    · rw [List.getElem_append_left hin]; exact hp i hin
    · have : i = n := by simp at hi; omega
      subst this
      rw [List.getElem_append_right (by omega)]
      simp only [hl, Nat.sub_self, List.getElem_cons_zero]
      exact hs
theorem wfF {a : Int} (h : (Lit.int .i64 a).wf = true) : -9223372036854775808 ≤ a ∧ a ≤ 9223372036854775807 := by simpa [Lit.wf, IntKind.min, IntKind.max, IntKind.signed, IntKind.bits] using h
theorem texts_readF {fuel : Nat} {c : Value} {x : DataW H × List MemPlace} (h : DataW.trod enc Try.prog w base (fun _ => true) held fuel 22 [c] = some x) :
    ∃ xs : List ByteArray, RdF w c (tcellsF xs) := by
  have h1 : Try.prog.cellsOf 9 = 1 := by kernel_rfl
  rcases open_slice Try.underlying22 h with ⟨hcs, _⟩ | ⟨a, len, cap, m, n, D, Pl, hcs, hb, hl, hm, hmm, rfl, hi⟩
  · simp only [List.cons.injEq, and_true] at hcs
    subst hcs
    exact ⟨[], none, 0, rfl, by simp [tcellsF], by unfold maxLen; omega, by simp, by simp [tcellsF]⟩
  · simp only [List.cons.injEq, and_true] at hcs
    subst hcs
    have hmc : m = cap := by simpa using hmm
    have hi' : ∀ i, i < len → ∃ s : ByteArray, w.cell? (a.add i) = some (.string s) := fun i hil => by
      obtain ⟨cs', hc, ht⟩ := hi i (by omega)
      rw [h1, Nat.mul_one] at hc
      obtain ⟨_, hcl, hat⟩ := World.cells?_some hc
      obtain ⟨s, e, _, _⟩ := DataW.trod_string Try.underlying9 ht
      subst e
      exact ⟨s, by simpa [Addr.add] using hat 0 (by omega)⟩
    obtain ⟨l, hll, hp⟩ := list_ofF len hi'
    subst hll
    have hlen : (tcellsF l).length = l.length := by simp [tcellsF]
    refine ⟨l, some a, cap, by rw [hlen], by rw [hlen]; omega, hm, by simp, fun h0 => ?_⟩
    rw [hlen] at h0
    obtain ⟨b, off, spot⟩ := a
    have hspot : spot = none := by simpa [Addr.add] using World.cell?_spot (hp 0 h0)
    subst hspot
    refine ⟨b, off, rfl, fun i hi2 => ?_⟩
    rw [hlen] at hi2
    have := hp i hi2
    rw [Addr.add_lit] at this
    rw [this]
    simp [tcellsF, List.getElem?_eq_getElem hi2]

/-- Definitions given as an argument. -/
theorem files_open : ∀ (fuel : Nat) {c : Value} {x : DataW H × List MemPlace}, DataW.trod enc Try.prog w base (fun _ => true) held fuel 23 [c] = some x → ∃ l, FilesD w (fuel + 1) c l := by
  intro fuel
  induction fuel using Nat.strongRecOn with
  | _ fuel ih =>
    intro c x h
    have h5 : Try.prog.cellsOf 58 = 5 := by kernel_rfl
    rcases DataW.trod_slice Try.underlying23 h with ⟨hcs, _⟩ | ⟨a, len, cap, elems, rest, n, hf, hcs, rfl, hb, hl, hm, hlen, hel, hsp, hns⟩
    · simp only [List.cons.injEq, and_true] at hcs
      subst hcs
      exact ⟨[], FilesD.nil w fuel⟩
    · simp only [List.cons.injEq, and_true] at hcs
      subst hcs
      have hi' : ∀ i, i < len → ∃ s : FT, ∃ kv rv, (w.cell? (a.add (i * 5)) = some (.string s.name) ∧ w.cell? (a.add (i * 5 + 1)) = some (.int .i64 s.kind) ∧ w.cell? (a.add (i * 5 + 2)) = some (.int .i64 s.multi) ∧ w.cell? (a.add (i * 5 + 3)) = some kv ∧ w.cell? (a.add (i * 5 + 4)) = some rv) ∧
          FilesD w fuel kv s.kids ∧ RdF w rv (tcellsF s.refs) ∧ s.name.size ≤ 9223372036854775807 ∧ (-9223372036854775808 ≤ s.kind ∧ s.kind ≤ 9223372036854775807) ∧ (-9223372036854775808 ≤ s.multi ∧ s.multi ≤ 9223372036854775807) := fun i hil => by
        have key := hel i hil
        rw [List.getElem?_eq_getElem (by omega)] at key
        obtain ⟨cs', hc, ht⟩ := Option.bind_eq_some_iff.1 key
        rw [h5] at hc
        obtain ⟨_, hcl, hat⟩ := World.cells?_some hc
        match cs', hcl with
        | [c0, c1, c2, c3, c4], _ =>
          obtain ⟨y0, y1, y2, y3, y4, n2, hf2, t0, t1, t2, t3, t4⟩ := cells5_openF Try.underlying58 (by kernel_rfl) ht
          obtain ⟨nm, e0, _, w0⟩ := DataW.trod_string Try.underlying9 t0
          obtain ⟨kd, e1, _, w1⟩ := DataW.trod_int Try.underlying3 t1
          obtain ⟨mu, e2, _, w2⟩ := DataW.trod_int Try.underlying3 t2
          simp only [List.cons.injEq, and_true] at e0 e1 e2
          subst e0 e1 e2
          obtain ⟨kids, hk⟩ := ih n2 (by omega) t3
          obtain ⟨refs, hr⟩ := texts_readF t4
          have hd : FilesD w fuel c3 kids := by
            have : ∀ d v l, FilesD w d v l → FilesD w (d + 1) v l := by
              intro d
              induction d with
              | zero => intro v l h; exact h.elim
              | succ d ihd =>
                intro v l h
                obtain ⟨a, c, e, h1, h2, h3, h4⟩ := h
                refine ⟨a, c, e, h1, h2, h3, fun hp => ?_⟩
                obtain ⟨b, o, ha, hlt, hx⟩ := h4 hp
                refine ⟨b, o, ha, hlt, fun k hk => ?_⟩
                obtain ⟨kv, rv, hc, hk1, hr⟩ := hx k hk
                exact ⟨kv, rv, hc, ihd _ _ hk1, hr⟩
            have hup : ∀ m d v l, FilesD w d v l → FilesD w (d + m) v l := by
              intro m
              induction m with
              | zero => intro d v l h; exact h
              | succ m ihm => intro d v l h; exact this _ _ _ (ihm d v l h)
            have := hup (fuel - (n2 + 1)) _ _ _ hk
            rwa [show n2 + 1 + (fuel - (n2 + 1)) = fuel by omega] at this
          unfold maxLen at w0
          refine ⟨.mk nm kd mu kids refs, c3, c4, ⟨by have := hat 0 (by omega); rw [Go.Deep.add_add, Nat.add_zero] at this; exact this, ?_, ?_, ?_, ?_⟩, hd, hr, by show nm.size ≤ _; omega, wfF w1, wfF w2⟩
          · rw [← Go.Deep.add_add]; exact hat 1 (by omega)
          · rw [← Go.Deep.add_add]; exact hat 2 (by omega)
          · rw [← Go.Deep.add_add]; exact hat 3 (by omega)
          · rw [← Go.Deep.add_add]; exact hat 4 (by omega)
      obtain ⟨l, hll, hp⟩ := list_ofF len hi'
      subst hll
      refine ⟨l, some a, cap, rfl, hl, hm, by simp, fun h0 => ?_⟩
      obtain ⟨b, off, spot⟩ := a
      obtain ⟨kv, rv, ⟨q0, _⟩, _⟩ := hp 0 h0
      have hspot : spot = none := by simpa [Addr.add] using World.cell?_spot q0
      subst hspot
      refine ⟨b, off, rfl, ?_, fun k hk => ?_⟩
      · have := World.block_lt_of_cell? w _ q0
        simpa [Addr.add] using this
      · obtain ⟨kv, rv, ⟨q0, q1, q2, q3, q4⟩, hr⟩ := hp k hk
        rw [Addr.add_lit] at q0 q1 q2 q3 q4
        exact ⟨kv, rv, ⟨q0, q1, q2, q3, q4⟩, hr⟩
end
end Go.Proofs.Ytkapelpbepejfaa
