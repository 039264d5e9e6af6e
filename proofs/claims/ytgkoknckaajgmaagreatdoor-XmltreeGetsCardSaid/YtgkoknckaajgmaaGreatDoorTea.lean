/- xmltree: elements as they lie in memory; reading a law's argument. -/
import Derived.Test.YtgkoknckaajgmaaGreatDoorBy
import Derived.Test.YtgkoknckaajgmaaGreatDoorProg
import Derived.Deep.Fields
import Derived.Deep.Slices
import Derived.ShutString
import Derived.ChangeOld
import Derived.Test.YtgkoknckaajgmaaGreatDoorChg
import Derived.Test.YtgkoknckaajgmaaGreatDoorChecked
import Derived.OpenShut
import Derived.Outline
import Derived.WalkLawsBesides
import Derived.WalkSpells
import Derived.Laws.StructEq
import Derived.Deep.QuietTactic
import Derived.BigQuiet
import Derived.Deep.RegionWith
import Derived.Deep.Cut
import Derived.BigRegion
import Derived.RegionTactic
import Derived.Deep.DeepFit
import Derived.Test.YtgkoknckaajgmaaGreatDoorRow
namespace Go.Proofs.YtgkoknckaajgmaaGreatDoor
open Go Go.RowKit Go.ChangeShapes Go.WideShapes Go.Deep
set_option linter.unusedVariables false

/-- An attribute with its namespace: space, name, value. -/
abbrev PT := ByteArray × ByteArray × ByteArray
/-- An element. -/
inductive ET where
  | mk (space name : ByteArray) (attrs : List PT) (kids : List ET) (text : ByteArray)
def ET.space : ET → ByteArray | .mk s _ _ _ _ => s
def ET.name : ET → ByteArray | .mk _ n _ _ _ => n
def ET.attrs : ET → List PT | .mk _ _ l _ _ => l
def ET.kids : ET → List ET | .mk _ _ _ l _ => l
def ET.text : ET → ByteArray | .mk _ _ _ _ t => t

/-- Attributes that lie in blocks that may be. -/
def PairsR (ok : Nat → Prop) (w : World) (v : Value) (l : List PT) : Prop :=
  ∃ a c, v = .slice a l.length c ∧ l.length ≤ c ∧ c ≤ maxLen ∧ (a = none → c = 0) ∧ (0 < l.length → ∃ b o, a = some ⟨b, o, none⟩ ∧ b < w.heap.size ∧ ok b ∧
    ∀ k (h : k < l.length), w.cell? ⟨b, o + k * 3, none⟩ = some (.string l[k].1) ∧ w.cell? ⟨b, o + k * 3 + 1, none⟩ = some (.string l[k].2.1) ∧ w.cell? ⟨b, o + k * 3 + 2, none⟩ = some (.string l[k].2.2))
/-- Elements, so many levels deep at most, that lie in blocks that may be. -/
def KidsD (ok : Nat → Prop) (w : World) : Nat → Value → List ET → Prop
  | 0, _, _ => False
  | d + 1, v, l => ∃ a c, v = .slice a l.length c ∧ l.length ≤ c ∧ c ≤ maxLen ∧ (a = none → c = 0) ∧ (0 < l.length → ∃ b o, a = some ⟨b, o, none⟩ ∧ b < w.heap.size ∧ ok b ∧
      ∀ k (h : k < l.length), ∃ av kv, (w.cell? ⟨b, o + k * 5, none⟩ = some (.string l[k].space) ∧ w.cell? ⟨b, o + k * 5 + 1, none⟩ = some (.string l[k].name) ∧ w.cell? ⟨b, o + k * 5 + 2, none⟩ = some av ∧ w.cell? ⟨b, o + k * 5 + 3, none⟩ = some kv ∧ w.cell? ⟨b, o + k * 5 + 4, none⟩ = some (.string l[k].text)) ∧
        PairsR ok w av l[k].attrs ∧ KidsD ok w d kv l[k].kids)
/-- An element by value. -/
def ElemD (ok : Nat → Prop) (w : World) (d : Nat) (v : Value) (t : ET) : Prop :=
  ∃ av kv, v = .agg #[.string t.space, .string t.name, av, kv, .string t.text] ∧ PairsR ok w av t.attrs ∧ KidsD ok w d kv t.kids

theorem PairsR.nil (ok : Nat → Prop) (w : World) : PairsR ok w (.slice none 0 0) [] := ⟨none, 0, rfl, by simp, by unfold maxLen; omega, by simp, by simp⟩
theorem KidsD.nil (ok : Nat → Prop) (w : World) (d : Nat) : KidsD ok w (d + 1) (.slice none 0 0) [] := ⟨none, 0, rfl, by simp, by unfold maxLen; omega, by simp, by simp⟩
/-- What lies in blocks that stay, stays. -/
theorem PairsR.keep {ok ok' : Nat → Prop} {w w' : World} {v : Value} {l : List PT} (h : PairsR ok w v l) (hs : w.heap.size ≤ w'.heap.size) (hk : ∀ b, ok b → b < w.heap.size → w'.heap[b]? = w.heap[b]? ∧ ok' b) : PairsR ok' w' v l := by
  obtain ⟨a, c, e, h1, h2, h3, h4⟩ := h
  refine ⟨a, c, e, h1, h2, h3, fun hp => ?_⟩
  obtain ⟨b, o, ha, hlt, ho, hx⟩ := h4 hp
  obtain ⟨hb, ho'⟩ := hk b ho hlt
  have hc : ∀ j, w'.cell? ⟨b, j, none⟩ = w.cell? ⟨b, j, none⟩ := fun j => World.cell?_of_block hb
  refine ⟨b, o, ha, Nat.lt_of_lt_of_le hlt hs, ho', fun k hk => ?_⟩
  obtain ⟨c0, c1, c2⟩ := hx k hk
  exact ⟨(hc _).trans c0, (hc _).trans c1, (hc _).trans c2⟩
theorem KidsD.keep {ok ok' : Nat → Prop} {w w' : World} (hs : w.heap.size ≤ w'.heap.size) (hk : ∀ b, ok b → b < w.heap.size → w'.heap[b]? = w.heap[b]? ∧ ok' b) : ∀ {d : Nat} {v : Value} {l : List ET}, KidsD ok w d v l → KidsD ok' w' d v l
  | 0, _, _, h => h
  | d + 1, v, l, h => by
    obtain ⟨a, c, e, h1, h2, h3, h4⟩ := h
    refine ⟨a, c, e, h1, h2, h3, fun hp => ?_⟩
    obtain ⟨b, o, ha, hlt, ho, hx⟩ := h4 hp
    obtain ⟨hb, ho'⟩ := hk b ho hlt
    have hc : ∀ j, w'.cell? ⟨b, j, none⟩ = w.cell? ⟨b, j, none⟩ := fun j => World.cell?_of_block hb
    refine ⟨b, o, ha, Nat.lt_of_lt_of_le hlt hs, ho', fun k hk2 => ?_⟩
    obtain ⟨av, kv, ⟨c0, c1, c2, c3, c4⟩, hp1, hk1⟩ := hx k hk2
    exact ⟨av, kv, ⟨(hc _).trans c0, (hc _).trans c1, (hc _).trans c2, (hc _).trans c3, (hc _).trans c4⟩, hp1.keep hs hk, KidsD.keep hs hk hk1⟩
theorem PairsR.below {ok : Nat → Prop} {w w' : World} {v : Value} {l : List PT} (h : PairsR ok w v l) (hb : Below w.heap.size w w') : PairsR ok w' v l := h.keep hb.size fun b ho hl => ⟨hb.block b hl, ho⟩
theorem KidsD.below {ok : Nat → Prop} {w w' : World} {d : Nat} {v : Value} {l : List ET} (h : KidsD ok w d v l) (hb : Below w.heap.size w w') : KidsD ok w' d v l := h.keep hb.size fun b ho hl => ⟨hb.block b hl, ho⟩
theorem PairsR.mono {ok ok' : Nat → Prop} {w : World} {v : Value} {l : List PT} (h : PairsR ok w v l) (hm : ∀ b, ok b → b < w.heap.size → ok' b) : PairsR ok' w v l := h.keep (Nat.le_refl _) fun b ho hl => ⟨rfl, hm b ho hl⟩
theorem KidsD.mono {ok ok' : Nat → Prop} {w : World} {d : Nat} {v : Value} {l : List ET} (h : KidsD ok w d v l) (hm : ∀ b, ok b → b < w.heap.size → ok' b) : KidsD ok' w d v l := h.keep (Nat.le_refl _) fun b ho hl => ⟨rfl, hm b ho hl⟩
theorem ElemD.below {ok : Nat → Prop} {w w' : World} {d : Nat} {v : Value} {t : ET} (h : ElemD ok w d v t) (hb : Below w.heap.size w w') : ElemD ok w' d v t := by
  obtain ⟨av, kv, e, h1, h2⟩ := h
  exact ⟨av, kv, e, h1.below hb, h2.below hb⟩
theorem ElemD.mono {ok ok' : Nat → Prop} {w : World} {d : Nat} {v : Value} {t : ET} (h : ElemD ok w d v t) (hm : ∀ b, ok b → b < w.heap.size → ok' b) : ElemD ok' w d v t := by
  obtain ⟨av, kv, e, h1, h2⟩ := h
  exact ⟨av, kv, e, h1.mono hm, h2.mono hm⟩
theorem PairsR.form {ok : Nat → Prop} {w : World} {v : Value} {l : List PT} (h : PairsR ok w v l) : ∃ a c, v = .slice a l.length c ∧ l.length ≤ c ∧ c ≤ maxLen := by
  obtain ⟨a, c, e, h1, h2, -⟩ := h
  exact ⟨a, c, e, h1, h2⟩
theorem KidsD.form {ok : Nat → Prop} {w : World} : ∀ {d : Nat} {v : Value} {l : List ET}, KidsD ok w d v l → ∃ a c, v = .slice a l.length c ∧ l.length ≤ c ∧ c ≤ maxLen
  | 0, _, _, h => h.elim
  | d + 1, v, l, h => by
    obtain ⟨a, c, e, h1, h2, -⟩ := h
    exact ⟨a, c, e, h1, h2⟩
theorem KidsD.up {ok : Nat → Prop} {w : World} : ∀ {d : Nat} {v : Value} {l : List ET}, KidsD ok w d v l → KidsD ok w (d + 1) v l
  | 0, _, _, h => h.elim
  | d + 1, v, l, h => by
    obtain ⟨a, c, e, h1, h2, h3, h4⟩ := h
    refine ⟨a, c, e, h1, h2, h3, fun hp => ?_⟩
    obtain ⟨b, o, ha, hlt, ho, hx⟩ := h4 hp
    refine ⟨b, o, ha, hlt, ho, fun k hk => ?_⟩
    obtain ⟨av, kv, hc, hp1, hk1⟩ := hx k hk
    exact ⟨av, kv, hc, hp1, hk1.up⟩
theorem KidsD.ups {ok : Nat → Prop} {w : World} {v : Value} {l : List ET} (m : Nat) : ∀ {d : Nat}, KidsD ok w d v l → KidsD ok w (d + m) v l := by
  induction m with
  | zero => intro d h; exact h
  | succ m ih => intro d h; exact (ih h).up

section
variable {H : Type} {enc : TypeId × Value → H} {w : World} {base : Nat} {held : Bool}
theorem oneT {P : Program} {fs : Array Field} (h : oneCellFields P fs = true) (j : Nat) (f : Field) (hf : fs[j]? = some f) : f.offset = j ∧ P.cellsOf f.type = 1 := hone_of h j f hf
theorem cells5_openT {P : Program} {t : TypeId} {spare : Nat → Bool} {fuel : Nat} {f0 f1 f2 f3 f4 : Field} {c0 c1 c2 c3 c4 : Value} {x : DataW H × List MemPlace} (hs : P.underlying t = some (.struct #[f0, f1, f2, f3, f4])) (hone : oneCellFields P #[f0, f1, f2, f3, f4] = true)
    (h : DataW.trod enc P w base spare held fuel t [c0, c1, c2, c3, c4] = some x) :
    ∃ (y0 y1 y2 y3 y4 : DataW H × List MemPlace) (n : Nat), fuel = n + 1 ∧
      DataW.trod enc P w base spare held n f0.type [c0] = some y0 ∧ DataW.trod enc P w base spare held n f1.type [c1] = some y1 ∧ DataW.trod enc P w base spare held n f2.type [c2] = some y2 ∧ DataW.trod enc P w base spare held n f3.type [c3] = some y3 ∧ DataW.trod enc P w base spare held n f4.type [c4] = some y4 := by
  obtain ⟨xs, n, hf, hx, _, hlen, hg⟩ := DataW.trod_struct hs h
  obtain ⟨o0, k0⟩ := oneT hone 0 f0 rfl
  obtain ⟨o1, k1⟩ := oneT hone 1 f1 rfl
  obtain ⟨o2, k2⟩ := oneT hone 2 f2 rfl
  obtain ⟨o3, k3⟩ := oneT hone 3 f3 rfl
  obtain ⟨o4, k4⟩ := oneT hone 4 f4 rfl
  match xs, hlen with
  | [y0, y1, y2, y3, y4], _ =>
    exact ⟨y0, y1, y2, y3, y4, n, hf, by simpa [o0, k0] using hg 0 f0 rfl, by simpa [o1, k1] using hg 1 f1 rfl, by simpa [o2, k2] using hg 2 f2 rfl, by simpa [o3, k3] using hg 3 f3 rfl, by simpa [o4, k4] using hg 4 f4 rfl⟩
theorem cells3_openT {P : Program} {t : TypeId} {spare : Nat → Bool} {fuel : Nat} {f0 f1 f2 : Field} {c0 c1 c2 : Value} {x : DataW H × List MemPlace} (hs : P.underlying t = some (.struct #[f0, f1, f2])) (hone : oneCellFields P #[f0, f1, f2] = true)
    (h : DataW.trod enc P w base spare held fuel t [c0, c1, c2] = some x) :
    ∃ (y0 y1 y2 : DataW H × List MemPlace) (n : Nat), fuel = n + 1 ∧
      DataW.trod enc P w base spare held n f0.type [c0] = some y0 ∧ DataW.trod enc P w base spare held n f1.type [c1] = some y1 ∧ DataW.trod enc P w base spare held n f2.type [c2] = some y2 := by
  obtain ⟨xs, n, hf, hx, _, hlen, hg⟩ := DataW.trod_struct hs h
  obtain ⟨o0, k0⟩ := oneT hone 0 f0 rfl
  obtain ⟨o1, k1⟩ := oneT hone 1 f1 rfl
  obtain ⟨o2, k2⟩ := oneT hone 2 f2 rfl
  match xs, hlen with
  | [y0, y1, y2], _ =>
    exact ⟨y0, y1, y2, n, hf, by simpa [o0, k0] using hg 0 f0 rfl, by simpa [o1, k1] using hg 1 f1 rfl, by simpa [o2, k2] using hg 2 f2 rfl⟩
theorem list_ofT {α : Type} {P : Nat → α → Prop} : ∀ n, (∀ i, i < n → ∃ s, P i s) → ∃ l : List α, l.length = n ∧ ∀ i (h : i < l.length), P i l[i]
  | 0, _ => ⟨[], rfl, fun i h => by simp at h⟩
  | n + 1, h => by
    obtain ⟨l, hl, hp⟩ := list_ofT n fun i hi => h i (by omega)
    obtain ⟨s, hs⟩ := h n (by omega)
    refine ⟨l ++ [s], by simp [hl], fun i hi => ?_⟩
    by_cases hin : i < l.length
    · rw [List.getElem_append_left hin]; exact hp i hin
    · have : i = n := by simp at hi; omega
      subst this
      rw [List.getElem_append_right (by omega)]
      simp only [hl, Nat.sub_self, List.getElem_cons_zero]
      exact hs
abbrev Any : Nat → Prop := fun _ => True
/-- Attributes given as an argument. -/
theorem pairs_open {fuel : Nat} {c : Value} {x : DataW H × List MemPlace} (h : DataW.trod enc Tryz.prog w base (fun _ => true) held fuel 24 [c] = some x) : ∃ l, PairsR Any w c l := by
  have h3 : Tryz.prog.cellsOf 63 = 3 := by kernel_rfl
  rcases DataW.trod_slice Tryz.underlying24 h with ⟨hcs, _⟩ | ⟨a, len, cap, elems, rest, n, hf, hcs, rfl, hb, hl, hm, hlen, hel, hsp, hns⟩
  · simp only [List.cons.injEq, and_true] at hcs
    subst hcs
    exact ⟨[], PairsR.nil _ w⟩
  · simp only [List.cons.injEq, and_true] at hcs
    subst hcs
    have hi' : ∀ i, i < len → ∃ s : PT, w.cell? (a.add (i * 3)) = some (.string s.1) ∧ w.cell? (a.add (i * 3 + 1)) = some (.string s.2.1) ∧ w.cell? (a.add (i * 3 + 2)) = some (.string s.2.2) := fun i hil => by
      have key := hel i hil
      rw [List.getElem?_eq_getElem (by omega)] at key
      obtain ⟨cs', hc, ht⟩ := Option.bind_eq_some_iff.1 key
      rw [h3] at hc
      obtain ⟨_, hcl, hat⟩ := World.cells?_some hc
      match cs', hcl with
      | [c0, c1, c2], _ =>
        obtain ⟨y0, y1, y2, n2, hf2, t0, t1, t2⟩ := cells3_openT Tryz.underlying63 (by kernel_rfl) ht
        obtain ⟨s0, e0, _, w0⟩ := DataW.trod_string Tryz.underlying9 t0
        obtain ⟨s1, e1, _, w1⟩ := DataW.trod_string Tryz.underlying9 t1
        obtain ⟨s2, e2, _, w2⟩ := DataW.trod_string Tryz.underlying9 t2
        simp only [List.cons.injEq, and_true] at e0 e1 e2
        subst e0 e1 e2
        refine ⟨(s0, s1, s2), by have := hat 0 (by omega); rw [Go.Deep.add_add, Nat.add_zero] at this; exact this, ?_, ?_⟩
        · rw [← Go.Deep.add_add]; exact hat 1 (by omega)
        · rw [← Go.Deep.add_add]; exact hat 2 (by omega)
    obtain ⟨l, hll, hp⟩ := list_ofT len hi'
    subst hll
    refine ⟨l, some a, cap, rfl, hl, hm, by simp, fun h0 => ?_⟩
    obtain ⟨b, off, spot⟩ := a
    obtain ⟨q0, _⟩ := hp 0 h0
    have hspot : spot = none := by simpa [Addr.add] using World.cell?_spot q0
    subst hspot
    refine ⟨b, off, rfl, ?_, trivial, fun k hk => ?_⟩
    · have := World.block_lt_of_cell? w _ q0
      simpa [Addr.add] using this
    · obtain ⟨q0, q1, q2⟩ := hp k hk
      rw [Addr.add_lit] at q0 q1 q2
      exact ⟨q0, q1, q2⟩
/-- Elements given as an argument. -/
theorem kids_open : ∀ (fuel : Nat) {c : Value} {x : DataW H × List MemPlace}, DataW.trod enc Tryz.prog w base (fun _ => true) held fuel 25 [c] = some x → ∃ l, KidsD Any w (fuel + 1) c l := by
  intro fuel
  induction fuel using Nat.strongRecOn with
  | _ fuel ih =>
    intro c x h
    have h5 : Tryz.prog.cellsOf 27 = 5 := by kernel_rfl
    rcases DataW.trod_slice Tryz.underlying25 h with ⟨hcs, _⟩ | ⟨a, len, cap, elems, rest, n, hf, hcs, rfl, hb, hl, hm, hlen, hel, hsp, hns⟩
    · simp only [List.cons.injEq, and_true] at hcs
      subst hcs
      exact ⟨[], KidsD.nil _ w fuel⟩
    · simp only [List.cons.injEq, and_true] at hcs
      subst hcs
      have hi' : ∀ i, i < len → ∃ s : ET, ∃ av kv, (w.cell? (a.add (i * 5)) = some (.string s.space) ∧ w.cell? (a.add (i * 5 + 1)) = some (.string s.name) ∧ w.cell? (a.add (i * 5 + 2)) = some av ∧ w.cell? (a.add (i * 5 + 3)) = some kv ∧ w.cell? (a.add (i * 5 + 4)) = some (.string s.text)) ∧
          PairsR Any w av s.attrs ∧ KidsD Any w fuel kv s.kids := fun i hil => by
        have key := hel i hil
        rw [List.getElem?_eq_getElem (by omega)] at key
        obtain ⟨cs', hc, ht⟩ := Option.bind_eq_some_iff.1 key
        rw [h5] at hc
        obtain ⟨_, hcl, hat⟩ := World.cells?_some hc
        match cs', hcl with
        | [c0, c1, c2, c3, c4], _ =>
          obtain ⟨y0, y1, y2, y3, y4, n2, hf2, t0, t1, t2, t3, t4⟩ := cells5_openT Tryz.underlying27 (by kernel_rfl) ht
          obtain ⟨s0, e0, _, w0⟩ := DataW.trod_string Tryz.underlying9 t0
          obtain ⟨s1, e1, _, w1⟩ := DataW.trod_string Tryz.underlying9 t1
          obtain ⟨s4, e4, _, w4⟩ := DataW.trod_string Tryz.underlying9 t4
          simp only [List.cons.injEq, and_true] at e0 e1 e4
          subst e0 e1 e4
          obtain ⟨attrs, hp⟩ := pairs_open t2
          obtain ⟨kids, hk⟩ := ih n2 (by omega) t3
          have hd : KidsD Any w fuel c3 kids := by
            have := hk.ups (fuel - (n2 + 1))
            rwa [show n2 + 1 + (fuel - (n2 + 1)) = fuel by omega] at this
          refine ⟨.mk s0 s1 attrs kids s4, c2, c3, ⟨by have := hat 0 (by omega); rw [Go.Deep.add_add, Nat.add_zero] at this; exact this, ?_, ?_, ?_, ?_⟩, hp, hd⟩
          · rw [← Go.Deep.add_add]; exact hat 1 (by omega)
          · rw [← Go.Deep.add_add]; exact hat 2 (by omega)
          · rw [← Go.Deep.add_add]; exact hat 3 (by omega)
          · rw [← Go.Deep.add_add]; exact hat 4 (by omega)
      obtain ⟨l, hll, hp⟩ := list_ofT len hi'
      subst hll
      refine ⟨l, some a, cap, rfl, hl, hm, by simp, fun h0 => ?_⟩
      obtain ⟨b, off, spot⟩ := a
      obtain ⟨av, kv, ⟨q0, _⟩, _⟩ := hp 0 h0
      have hspot : spot = none := by simpa [Addr.add] using World.cell?_spot q0
      subst hspot
      refine ⟨b, off, rfl, ?_, trivial, fun k hk => ?_⟩
      · have := World.block_lt_of_cell? w _ q0
        simpa [Addr.add] using this
      · obtain ⟨av, kv, ⟨q0, q1, q2, q3, q4⟩, hr⟩ := hp k hk
        rw [Addr.add_lit] at q0 q1 q2 q3 q4
        exact ⟨av, kv, ⟨q0, q1, q2, q3, q4⟩, hr⟩
end
end Go.Proofs.YtgkoknckaajgmaaGreatDoor

/- xmltree: whether an element is not great (dossierplain.Element): it answers, and what was there stays. -/
namespace Go.Proofs.YtgkoknckaajgmaaGreatDoor
open Go Go.RowKit Go.Deep
set_option linter.unusedVariables false
set_option linter.unusedSimpArgs false

theorem box_belT (w : World) (o : Obj) : Below w.heap.size w (w.alloc o) := (Below.refl _ _).alloc (Nat.le_refl _) _
theorem one_cellT {w : World} {b : Nat} {c0 : Value} {T : TypeId} (h : w.heap[b]? = some (.cells #[c0] T (0, 0))) : w.cell? ⟨b, 0, none⟩ = some c0 ∧ (∀ o, w.frozen? ⟨b, o, none⟩ = false) := by
  refine ⟨?_, fun o => ?_⟩ <;> simp [World.cell?, World.frozen?, h]
theorem set_cellT {w : World} {b : Nat} {c0 c1 : Value} {T : TypeId} (h : w.heap[b]? = some (.cells #[c0] T (0, 0))) : (w.setCell ⟨b, 0, none⟩ c1).heap[b]? = some (.cells #[c1] T (0, 0)) := by
  simp [World.setCell, Array.getElem?_modify, h]
/-- No list in it has more than 110 elements. -/
def okK : Nat → List ET → Prop
  | 0, _ => False
  | d + 1, l => l.length ≤ 110 ∧ ∀ k (h : k < l.length), l[k].attrs.length ≤ 110 ∧ okK d l[k].kids
def okE (d : Nat) (t : ET) : Prop := t.attrs.length ≤ 110 ∧ okK d t.kids
/-- It answers; if so, it is not great. -/
def AnsE (d : Nat) (t : ET) (e : Ending) : Prop := ∃ q : Bool, e = .returned (.bool q) ∧ (q = true → okE d t)

set_option maxRecDepth 100000 in
set_option maxHeartbeats 2000000 in
theorem element_c (W0 : World) : ∀ (d : Nat) (w : World) (v : Value) (t : ET) (dep b : Nat) (u : Int), ElemD Any W0 d v t → Below W0.heap.size W0 w → W0.heap.size ≤ b → w.heap[b]? = some (.cells #[.int .i64 u] 3 (0, 0)) → dep ≤ 41 →
    Calls Tryz.prog 29 #[v, .int .i64 dep, .pointer (some ⟨b, 0, none⟩)] w fun e w' => AnsE d t e ∧ (∃ u', w'.heap[b]? = some (.cells #[.int .i64 u'] 3 (0, 0))) ∧ Below W0.heap.size W0 w' := by
  intro d
  induction d with
  | zero => rintro w v t dep b u ⟨av, kv, _, _, h⟩; exact h.elim
  | succ d ih =>
    intro w v t dep b u h hb0 hbb hbx hdep
    have HIH := Lib.hid ih
    have HB0 := Lib.hid hb0
    have HBB := Lib.hid hbb
    obtain ⟨av, kv, rfl, hpr, hkd⟩ := h
    obtain ⟨pa, ca, hav, _, hcm0⟩ := hpr.form
    obtain ⟨N, hN⟩ : ∃ N, N = t.attrs.length := ⟨_, rfl⟩
    rw [← hN] at hav
    subst hav
    obtain ⟨a, c, hv, hlc, hcm, hnone, hrows⟩ := hkd
    obtain ⟨M, hM⟩ : ∃ M, M = t.kids.length := ⟨_, rfl⟩
    rw [← hM] at hv hlc
    subst hv
    have HROW := Lib.hid hrows
    have HN := Lib.hid hN
    have HM := Lib.hid hM
    have hn : M ≤ 9223372036854775807 := by unfold maxLen at hcm; omega
    have hnN : N ≤ 9223372036854775807 := by
      obtain ⟨_, c', e, q1, q2⟩ := hpr.form
      unfold maxLen at q2
      omega
    have hw1 : IntKind.i64.wrap ((dep : Int) + 1) = (dep : Int) + 1 := by rw [IntKind.wrap_i64]; omega
    obtain ⟨S1, hS1⟩ : ∃ S, S = t.space := ⟨_, rfl⟩
    obtain ⟨S2, hS2⟩ : ∃ S, S = t.name := ⟨_, rfl⟩
    obtain ⟨S3, hS3⟩ : ∃ S, S = t.text := ⟨_, rfl⟩
    rw [← hS1, ← hS2, ← hS3]
    obtain ⟨u1, hu1⟩ : ∃ u1, IntKind.i64.wrap (u - 1) = u1 := ⟨_, rfl⟩
    obtain ⟨b0, bz⟩ := one_cellT hbx
    have hltb : b < w.heap.size := (Array.getElem?_eq_some_iff.1 hbx).1
    have HX3 := Lib.hid (show ((w.setCell ⟨b, 0, none⟩ (.int .i64 u1)).alloc (.cells #[.string S1, .string S2, .slice pa N ca, .slice a M c, .string S3] 27)).heap[b]? = some (.cells #[.int .i64 u1] 3 (0, 0)) from (Below.heap_alloc _ _ b (by simpa [World.size_setCell] using hltb)).trans (set_cellT hbx))
    have HB3 := Lib.hid (show Below W0.heap.size W0 ((w.setCell ⟨b, 0, none⟩ (.int .i64 u1)).alloc (.cells #[.string S1, .string S2, .slice pa N ca, .slice a M c, .string S3] 27)) from (hb0.setCell (p := ⟨b, 0, none⟩) hbb _).alloc (by have := hb0.size; simpa [World.size_setCell] using this) _)
    clear ih hb0 hbb hlc hcm hnone hrows hpr hN hM hS1 hS2 hS3 hbx hcm0
    by_cases hd4 : 40 < dep
    · have hq : decide ((40 : Int) < (dep : Int)) = true := decide_eq_true (by omega)
      go_enter Tryz.func29, Tryz.ntmps29
      go_wp2_with fail
      go_ret
      exact ⟨⟨_, rfl, by simp⟩, ⟨_, HX3.out⟩, HB3.out⟩
    have hq : decide ((40 : Int) < (dep : Int)) = false := decide_eq_false (by omega)
    by_cases hneg : u1 < 0
    · have hqn : decide (u1 < 0) = true := decide_eq_true hneg
      go_enter Tryz.func29, Tryz.ntmps29
      go_wp2_with fail
      go_ret
      exact ⟨⟨_, rfl, by simp⟩, ⟨_, HX3.out⟩, HB3.out⟩
    have hqn : decide (u1 < 0) = false := decide_eq_false hneg
    by_cases hbA : 110 < N
    · have hqa : decide ((110 : Int) < (N : Int)) = true := decide_eq_true (by omega)
      go_enter Tryz.func29, Tryz.ntmps29
      go_wp2_with fail
      go_ret
      exact ⟨⟨_, rfl, by simp⟩, ⟨_, HX3.out⟩, HB3.out⟩
    have hqa : decide ((110 : Int) < (N : Int)) = false := decide_eq_false (by omega)
    by_cases hbK : 110 < M
    · have hqk : decide ((110 : Int) < (M : Int)) = true := decide_eq_true (by omega)
      go_enter Tryz.func29, Tryz.ntmps29
      go_wp2_with fail
      go_ret
      exact ⟨⟨_, rfl, by simp⟩, ⟨_, HX3.out⟩, HB3.out⟩
    have hqk : decide ((110 : Int) < (M : Int)) = false := decide_eq_false (by omega)
    go_enter Tryz.func29, Tryz.ntmps29
    go_wp2_with fail
    go_loopw [37] (fun i wr => ∃ (k : Nat) (u : Int), k ≤ M ∧ i = .int .i64 k ∧ wr.heap[b]? = some (.cells #[.int .i64 u] 3 (0, 0)) ∧ Below W0.heap.size W0 wr ∧ (∀ j (h : j < t.kids.length), j < k → t.kids[j].attrs.length ≤ 110 ∧ okK d t.kids[j].kids)) (fun i _ => M - (intOf i).toNat)
    case atStart => exact ⟨0, u1, by omega, rfl, HX3.out, HB3.out, fun j _ h => absurd h (by omega)⟩
    case round =>
      obtain ⟨k, u, hk, rfl, hbx, hbr, hall⟩ := hrel
      have HQ := Lib.hid hbx
      have HBR := Lib.hid hbr
      have HALL := Lib.hid hall
      clear hbx hbr hall
      by_cases hlt : k < M
      · obtain ⟨g, o, ha, hgl, -, hx⟩ := HROW.out (by rw [← HM.out]; omega)
        have hkl : k < t.kids.length := by rw [← HM.out]; exact hlt
        obtain ⟨av, kv, ⟨c0, c1, c2, c3, c4⟩, hpr, hkd⟩ := hx k hkl
        subst ha
        obtain ⟨ka, kc, hkv, -⟩ := hkd.form
        obtain ⟨ra, rc, hrv, -⟩ := hpr.form
        have HED := Lib.hid (show ElemD Any W0 d (.agg #[.string t.kids[k].space, .string t.kids[k].name, av, kv, .string t.kids[k].text]) t.kids[k] from ⟨av, kv, rfl, hpr, hkd⟩)
        rw [hrv, hkv] at HED
        rw [hkv] at c3
        rw [hrv] at c2
        have e0 := (HBR.out.cell (p := ⟨g, o + k * 5, none⟩) hgl).trans c0
        have e1 := (HBR.out.cell (p := ⟨g, o + k * 5 + 1, none⟩) hgl).trans c1
        have e2 := (HBR.out.cell (p := ⟨g, o + k * 5 + 2, none⟩) hgl).trans c2
        have e3 := (HBR.out.cell (p := ⟨g, o + k * 5 + 3, none⟩) hgl).trans c3
        have e4 := (HBR.out.cell (p := ⟨g, o + k * 5 + 4, none⟩) hgl).trans c4
        have HNX := Lib.hid (fun (hok : okE d t.kids[k]) => show ∀ j (h : j < t.kids.length), j < k + 1 → t.kids[j].attrs.length ≤ 110 ∧ okK d t.kids[j].kids from fun j hj hjk => by
          by_cases hjk2 : j < k
          · exact HALL.out j hj hjk2
          · obtain rfl : j = k := by omega
            exact hok)
        generalize t.kids[k] = x at *
        obtain ⟨nm, sp, at2, ki, tx⟩ := x
        dsimp only [ET.space, ET.name, ET.text, ET.attrs, ET.kids] at e0 e1 e2 e3 e4 HED
        generalize hkn : ki.length = kn at *
        generalize hrn : at2.length = rn at *
        have HB4 := Lib.hid (show Below W0.heap.size W0 (wr.alloc (.cells #[.string nm, .string sp, .slice ra rn rc, .slice ka kn kc, .string tx] 27)) from HBR.out.alloc HBR.out.size _)
        have hltb2 : b < wr.heap.size := (Array.getElem?_eq_some_iff.1 HQ.out).1
        have HX4 := Lib.hid (show (wr.alloc (.cells #[.string nm, .string sp, .slice ra rn rc, .slice ka kn kc, .string tx] 27)).heap[b]? = some (.cells #[.int .i64 u] 3 (0, 0)) from (Below.heap_alloc _ _ b hltb2).trans HQ.out)
        have HREC := Lib.hid (HIH.out (wr.alloc (.cells #[.string nm, .string sp, .slice ra rn rc, .slice ka kn kc, .string tx] 27)) _ _ (dep + 1) b u HED.out HB4.out HBB.out HX4.out (by omega))
        rw [show (((dep + 1 : Nat) : Int)) = (dep : Int) + 1 by omega] at HREC
        clear hx c0 c1 c2 c3 c4 hkd hpr hkv hrv hkn hrn hkl b0 bz
        go_wp2_with fail
        refine (HREC.out).mono ?_
        rintro e w4 ⟨⟨q, rfl, hq2⟩, ⟨u4, hbx4⟩, hb4⟩
        have HX5 := Lib.hid hbx4
        have HB5 := Lib.hid hb4
        have HQ2 := Lib.hid hq2
        clear hbx4 hb4 e0 e1 e2 e3 e4 hq2
        cases q
        · go_wp2_with fail
          go_ret
          exact ⟨⟨_, rfl, by simp⟩, ⟨_, HX5.out⟩, HB5.out⟩
        · go_wp2_with fail
          go_roundw
          case rel => exact ⟨k + 1, u4, by omega, by go_num, HX5.out, HB5.out, HNX.out (HQ2.out (by first | rfl | trivial))⟩
          case measure => simp [intOf]; omega
      · clear b0 bz
        go_wp2_with fail
        go_ret
        exact ⟨⟨_, rfl, fun _ => ⟨by rw [← HN.out]; omega, by rw [← HM.out]; omega, fun j hj => HALL.out j hj (by rw [← HM.out] at hj; omega)⟩⟩, ⟨_, HQ.out⟩, HBR.out⟩
theorem elementP_c (w : World) (d : Nat) (v : Value) (t : ET) (h : ElemD Any w d v t) : Calls Tryz.prog 12 #[v, .int .i64 0] w fun e w' => AnsE d t e ∧ Below w.heap.size w w' := by
  have h' := h
  obtain ⟨av, kv, rfl, hpr, hkd⟩ := h
  obtain ⟨pa, ca, hav, -⟩ := hpr.form
  obtain ⟨ka, kc, hkv, -⟩ := hkd.form
  subst hav hkv
  obtain ⟨N, hN⟩ : ∃ N, N = t.attrs.length := ⟨_, rfl⟩
  obtain ⟨M, hM⟩ : ∃ M, M = t.kids.length := ⟨_, rfl⟩
  obtain ⟨S1, hS1⟩ : ∃ S, S = t.space := ⟨_, rfl⟩
  obtain ⟨S2, hS2⟩ : ∃ S, S = t.name := ⟨_, rfl⟩
  obtain ⟨S3, hS3⟩ : ∃ S, S = t.text := ⟨_, rfl⟩
  rw [← hN, ← hM, ← hS1, ← hS2, ← hS3] at h' ⊢
  have HC := Lib.hid (element_c w d ((w.alloc (.cells #[.string S1, .string S2, .slice pa N ca, .slice ka M kc, .string S3] 27)).alloc (.cells #[.int .i64 400] 3)) _ t 0 (w.heap.size + 1) 400 h' ((box_belT w _).trans ((box_belT _ _).mono (by simp))) (by omega) (by have := heap_alloc_new (w.alloc (.cells #[.string S1, .string S2, .slice pa N ca, .slice ka M kc, .string S3] 27)) (.cells #[.int .i64 400] 3); rwa [World.size_alloc] at this) (by omega))
  clear h' hpr hkd hN hM hS1 hS2 hS3
  go_enter Tryz.func12, Tryz.ntmps12
  go_wp2_with fail
  refine (HC.out).mono ?_
  rintro e w4 ⟨⟨q, rfl, hq⟩, -, hb4⟩
  have HB4 := Lib.hid hb4
  have HQ := Lib.hid hq
  clear hb4 hq
  go_wp2_with fail
  go_ret
  exact ⟨⟨_, rfl, HQ.out⟩, HB4.out⟩
end Go.Proofs.YtgkoknckaajgmaaGreatDoor

/- xmltree: Get, both sides. -/
namespace Go.Proofs.YtgkoknckaajgmaaGreatDoor
open Go Go.RowKit Go.Deep
set_option linter.unusedVariables false
set_option linter.unusedSimpArgs false

/-- The attribute without a namespace. -/
def getM (name : ByteArray) : List PT → Option ByteArray
  | [] => none
  | a :: r => if a.1 = ⟨#[]⟩ ∧ a.2.1 = name then some a.2.2 else getM name r
theorem get_hit {name : ByteArray} {l : List PT} {k : Nat} (h : k < l.length) (h1 : l[k].1 = ⟨#[]⟩) (h2 : l[k].2.1 = name) : getM name (l.drop k) = some l[k].2.2 := by
  rw [List.drop_eq_getElem_cons h, getM, if_pos ⟨h1, h2⟩]
theorem get_miss {name : ByteArray} {l : List PT} {k : Nat} (h : k < l.length) (h1 : ¬ (l[k].1 = ⟨#[]⟩ ∧ l[k].2.1 = name)) : getM name (l.drop k) = getM name (l.drop (k + 1)) := by
  rw [List.drop_eq_getElem_cons h, getM, if_neg h1]
/-- How Get ends. -/
def GetEnd (R : Option ByteArray) (e : Ending) : Prop := match R with
  | some v => e = .returned (.tuple #[.string v, .bool true])
  | none => e = .returned (.tuple #[.string ⟨#[]⟩, .bool false])
theorem toList_inj {a b : ByteArray} (h : a.toList = b.toList) : a = b := by
  rw [ByteArray.toList_eq, ByteArray.toList_eq] at h
  exact ByteArray.ext (Array.toList_inj.1 h)
set_option maxRecDepth 100000 in
set_option maxHeartbeats 2000000 in
theorem get_c (w : World) (d : Nat) (v : Value) (t : ET) (name : ByteArray) (h : ElemD Any w d v t) : Calls Tryz.prog 17 #[v, .string name] w fun e w' => GetEnd (getM name t.attrs) e ∧ Below w.heap.size w w' := by
  obtain ⟨av, kv, rfl, hpr, hkd⟩ := h
  obtain ⟨ka, kc, hkv, -⟩ := hkd.form
  subst hkv
  obtain ⟨pa, ca, hav, hlc, hcm, hnone, hrows⟩ := hpr
  obtain ⟨N, hN⟩ : ∃ N, N = t.attrs.length := ⟨_, rfl⟩
  rw [← hN] at hav hlc
  subst hav
  obtain ⟨M, hM⟩ : ∃ M, M = t.kids.length := ⟨_, rfl⟩
  obtain ⟨S1, hS1⟩ : ∃ S, S = t.space := ⟨_, rfl⟩
  obtain ⟨S2, hS2⟩ : ∃ S, S = t.name := ⟨_, rfl⟩
  obtain ⟨S3, hS3⟩ : ∃ S, S = t.text := ⟨_, rfl⟩
  rw [← hM, ← hS1, ← hS2, ← hS3]
  have hn : N ≤ 9223372036854775807 := by unfold maxLen at hcm; omega
  obtain ⟨R, hR⟩ : ∃ R, R = getM name t.attrs := ⟨_, rfl⟩
  rw [← hR]
  have HI := Lib.hid (show getM name (t.attrs.drop 0) = R from hR.symm)
  have HN := Lib.hid hN
  have HROW := Lib.hid hrows
  have HB0 := Lib.hid (box_belT w (.cells #[.string S1, .string S2, .slice pa N ca, .slice ka M kc, .string S3] 27))
  clear hkd hlc hcm hnone hrows hN hM hS1 hS2 hS3 hR
  go_enter Tryz.func17, Tryz.ntmps17
  go_wp2_with fail
  go_loopw [11] (fun i wr => ∃ k : Nat, k ≤ N ∧ i = .int .i64 k ∧ Hid (getM name (t.attrs.drop k) = R) ∧ Below w.heap.size w wr) (fun i _ => N - (intOf i).toNat)
  case atStart => exact ⟨0, by omega, rfl, HI, HB0.out⟩
  case round =>
    obtain ⟨k, hk, rfl, hi, hbr⟩ := hrel
    have HBR := Lib.hid hbr
    clear hbr
    by_cases hlt : k < N
    · have hkl : k < t.attrs.length := by rw [← HN.out]; exact hlt
      obtain ⟨g, o, ha, hgl, -, hx⟩ := HROW.out (by rw [← HN.out]; omega)
      obtain ⟨c0, c1, c2⟩ := hx k hkl
      subst ha
      have e0 := (HBR.out.cell (p := ⟨g, o + k * 3, none⟩) hgl).trans c0
      have e1 := (HBR.out.cell (p := ⟨g, o + k * 3 + 1, none⟩) hgl).trans c1
      have e2 := (HBR.out.cell (p := ⟨g, o + k * 3 + 2, none⟩) hgl).trans c2
      have hit := fun h1 h2 => (hi.out.symm.trans (get_hit (name := name) hkl h1 h2))
      have mis := fun h1 => (get_miss (name := name) hkl h1).symm.trans hi.out
      generalize t.attrs[k] = x at *
      obtain ⟨s, n, u⟩ := x
      dsimp only at e0 e1 e2 hit mis
      have HB2 := Lib.hid (HBR.out.alloc HBR.out.size (.cells #[.string s, .string n, .string u] 63))
      clear hx c0 c1 c2 hi hkl
      by_cases hs : s = ⟨#[]⟩
      · by_cases hn2 : n = name
        · have HE := Lib.hid (hit hs hn2)
          clear hit mis
          subst hs hn2
          go_wp2_with fail
          go_ret2
          rw [HE.out]
          exact ⟨rfl, HB2.out⟩
        · have HE := Lib.hid (mis (fun q => hn2 q.2))
          have tn : (n.toList == name.toList) = false := beq_eq_false_iff_ne.2 fun q => hn2 (toList_inj q)
          clear hit mis hn2
          subst hs
          go_wp2_with fail
          go_roundw
          case rel => exact ⟨k + 1, by omega, by go_num, HE, HB2.out⟩
          case measure => simp [intOf]; omega
      · have HE := Lib.hid (mis (fun q => hs q.1))
        have ts : s.toList.isEmpty = false := by
          cases hq : s.toList with
          | nil => exact absurd (toList_inj (b := ⟨#[]⟩) (by rw [hq, ByteArray.toList_eq])) hs
          | cons a r => rfl
        have ts2 : (s.toList == []) = false := by
          rw [beq_eq_false_iff_ne]
          exact fun q => hs (toList_inj (b := ⟨#[]⟩) (by rw [q, ByteArray.toList_eq]))
        clear hit mis hs
        go_wp2_with fail
        go_roundw
        case rel => exact ⟨k + 1, by omega, by go_num, HE, HB2.out⟩
        case measure => simp [intOf]; omega
    · have HE := Lib.hid (show R = none from by
        rw [← hi.out, List.drop_eq_nil_of_le (by rw [← HN.out]; omega)]
        rfl)
      clear hi
      go_wp2_with fail
      go_ret2
      rw [HE.out]
      exact ⟨rfl, HBR.out⟩
set_option maxRecDepth 100000 in
set_option maxHeartbeats 2000000 in
theorem rget_c (w : World) (d : Nat) (v : Value) (t : ET) (name : ByteArray) (h : ElemD Any w d v t) : Calls Tryz.prog 18 #[v, .string name] w fun e w' => GetEnd (getM name t.attrs) e ∧ Below w.heap.size w w' := by
  obtain ⟨av, kv, rfl, hpr, hkd⟩ := h
  obtain ⟨ka, kc, hkv, -⟩ := hkd.form
  subst hkv
  obtain ⟨pa, ca, hav, hlc, hcm, hnone, hrows⟩ := hpr
  obtain ⟨N, hN⟩ : ∃ N, N = t.attrs.length := ⟨_, rfl⟩
  rw [← hN] at hav hlc
  subst hav
  obtain ⟨M, hM⟩ : ∃ M, M = t.kids.length := ⟨_, rfl⟩
  obtain ⟨S1, hS1⟩ : ∃ S, S = t.space := ⟨_, rfl⟩
  obtain ⟨S2, hS2⟩ : ∃ S, S = t.name := ⟨_, rfl⟩
  obtain ⟨S3, hS3⟩ : ∃ S, S = t.text := ⟨_, rfl⟩
  rw [← hM, ← hS1, ← hS2, ← hS3]
  have hn : N ≤ 9223372036854775807 := by unfold maxLen at hcm; omega
  obtain ⟨R, hR⟩ : ∃ R, R = getM name t.attrs := ⟨_, rfl⟩
  rw [← hR]
  have HI := Lib.hid (show getM name (t.attrs.drop 0) = R from hR.symm)
  have HN := Lib.hid hN
  have HROW := Lib.hid hrows
  have HB0 := Lib.hid (box_belT w (.cells #[.string S1, .string S2, .slice pa N ca, .slice ka M kc, .string S3] 27))
  clear hkd hlc hcm hnone hrows hN hM hS1 hS2 hS3 hR
  go_enter Tryz.func18, Tryz.ntmps18
  go_wp2_with fail
  go_loopw [11] (fun i wr => ∃ k : Nat, k ≤ N ∧ i = .int .i64 k ∧ Hid (getM name (t.attrs.drop k) = R) ∧ Below w.heap.size w wr) (fun i _ => N - (intOf i).toNat)
  case atStart => exact ⟨0, by omega, rfl, HI, HB0.out⟩
  case round =>
    obtain ⟨k, hk, rfl, hi, hbr⟩ := hrel
    have HBR := Lib.hid hbr
    clear hbr
    by_cases hlt : k < N
    · have hkl : k < t.attrs.length := by rw [← HN.out]; exact hlt
      obtain ⟨g, o, ha, hgl, -, hx⟩ := HROW.out (by rw [← HN.out]; omega)
      obtain ⟨c0, c1, c2⟩ := hx k hkl
      subst ha
      have e0 := (HBR.out.cell (p := ⟨g, o + k * 3, none⟩) hgl).trans c0
      have e1 := (HBR.out.cell (p := ⟨g, o + k * 3 + 1, none⟩) hgl).trans c1
      have e2 := (HBR.out.cell (p := ⟨g, o + k * 3 + 2, none⟩) hgl).trans c2
      have hit := fun h1 h2 => (hi.out.symm.trans (get_hit (name := name) hkl h1 h2))
      have mis := fun h1 => (get_miss (name := name) hkl h1).symm.trans hi.out
      generalize t.attrs[k] = x at *
      obtain ⟨s, n, u⟩ := x
      dsimp only at e0 e1 e2 hit mis
      have HB2 := Lib.hid (HBR.out.alloc HBR.out.size (.cells #[.string s, .string n, .string u] 63))
      clear hx c0 c1 c2 hi hkl
      by_cases hs : s = ⟨#[]⟩
      · by_cases hn2 : n = name
        · have HE := Lib.hid (hit hs hn2)
          clear hit mis
          subst hs hn2
          go_wp2_with fail
          go_ret2
          rw [HE.out]
          exact ⟨rfl, HB2.out⟩
        · have HE := Lib.hid (mis (fun q => hn2 q.2))
          have tn : (n.toList == name.toList) = false := beq_eq_false_iff_ne.2 fun q => hn2 (toList_inj q)
          clear hit mis hn2
          subst hs
          go_wp2_with fail
          go_roundw
          case rel => exact ⟨k + 1, by omega, by go_num, HE, HB2.out⟩
          case measure => simp [intOf]; omega
      · have HE := Lib.hid (mis (fun q => hs q.1))
        have ts : s.toList.isEmpty = false := by
          cases hq : s.toList with
          | nil => exact absurd (toList_inj (b := ⟨#[]⟩) (by rw [hq, ByteArray.toList_eq])) hs
          | cons a r => rfl
        have ts2 : (s.toList == []) = false := by
          rw [beq_eq_false_iff_ne]
          exact fun q => hs (toList_inj (b := ⟨#[]⟩) (by rw [q, ByteArray.toList_eq]))
        clear hit mis hs
        go_wp2_with fail
        go_roundw
        case rel => exact ⟨k + 1, by omega, by go_num, HE, HB2.out⟩
        case measure => simp [intOf]; omega
    · have HE := Lib.hid (show R = none from by
        rw [← hi.out, List.drop_eq_nil_of_le (by rw [← HN.out]; omega)]
        rfl)
      clear hi
      go_wp2_with fail
      go_ret2
      rw [HE.out]
      exact ⟨rfl, HBR.out⟩
end Go.Proofs.YtgkoknckaajgmaaGreatDoor

/- xmltree: the reference: Same, of elements that read alike. -/
namespace Go.Proofs.YtgkoknckaajgmaaGreatDoor
open Go Go.RowKit Go.Deep
set_option linter.unusedVariables false
set_option linter.unusedSimpArgs false

theorem fieldsP : (Tryz.prog.fieldsOf 63).toList.map (fun f => (f.name != "_", f.type, f.offset)) = [(true, 9, 0), (true, 9, 1), (true, 9, 2)] := by kernel_rfl
theorem structP : Tryz.prog.underlying 63 = some (.struct (Tryz.prog.fieldsOf 63)) := by kernel_rfl
theorem heldP : Tryz.prog.stoodInHeld 63 = false := by kernel_rfl
theorem run_neqP (w : World) (s t u : ByteArray) : (binOp .neq 63 (.agg #[.string s, .string t, .string u]) (.agg #[.string s, .string t, .string u])).run Tryz.prog w = .ok (.bool false) w := by
  rw [run_neq_struct, run_equalIn_agg _ _ _ _ _ structP heldP]
  have hf := fieldsP
  generalize (Tryz.prog.fieldsOf 63).toList = fs at hf
  rcases fs with _ | ⟨f0, _ | ⟨f1, _ | ⟨f2, _ | ⟨f3, r⟩⟩⟩⟩
  · simp at hf
  · simp at hf
  · simp at hf
  · simp only [List.map_cons, List.map_nil, List.cons.injEq, Prod.mk.injEq, and_true] at hf
    obtain ⟨⟨n0, t0, o0⟩, ⟨n1, t1, o1⟩, n2, t2, o2⟩ := hf
    simp only [Op.eqFields, t0, t1, t2, o0, o1, o2]
    simp only [bne_iff_ne] at n0 n1 n2
    rw [if_pos n0, if_pos n1, if_pos n2]
    simp [go_sem, part]
  · simp at hf
theorem PairsR.at {ok : Nat → Prop} {w : World} {p : Option Addr} {n c : Nat} {l : List PT} (h : PairsR ok w (.slice p n c) l) {k : Nat} (hk : k < l.length) : ∃ b o, p = some ⟨b, o, none⟩ ∧ w.cell? ⟨b, o + k * 3, none⟩ = some (.string l[k].1) ∧ w.cell? ⟨b, o + k * 3 + 1, none⟩ = some (.string l[k].2.1) ∧ w.cell? ⟨b, o + k * 3 + 2, none⟩ = some (.string l[k].2.2) := by
  obtain ⟨a, c', e, h1, h2, h3, h4⟩ := h
  cases e
  obtain ⟨b, o, ha, _, _, hx⟩ := h4 (by omega)
  exact ⟨b, o, ha, hx k hk⟩
/-- One kid: its cells, and that it reads as it should. -/
theorem KidsD.at {ok : Nat → Prop} {w : World} {d : Nat} {p : Option Addr} {n c : Nat} {l : List ET} (h : KidsD ok w (d + 1) (.slice p n c) l) {k : Nat} (hk : k < l.length) : ∃ b o pa ca pk ck, p = some ⟨b, o, none⟩ ∧ b < w.heap.size ∧ ok b ∧
    w.cell? ⟨b, o + k * 5, none⟩ = some (.string l[k].space) ∧ w.cell? ⟨b, o + k * 5 + 1, none⟩ = some (.string l[k].name) ∧ w.cell? ⟨b, o + k * 5 + 2, none⟩ = some (.slice pa l[k].attrs.length ca) ∧ w.cell? ⟨b, o + k * 5 + 3, none⟩ = some (.slice pk l[k].kids.length ck) ∧ w.cell? ⟨b, o + k * 5 + 4, none⟩ = some (.string l[k].text) ∧
    ElemD ok w d (.agg #[.string l[k].space, .string l[k].name, .slice pa l[k].attrs.length ca, .slice pk l[k].kids.length ck, .string l[k].text]) l[k] := by
  obtain ⟨a, c', e, h1, h2, h3, h4⟩ := h
  cases e
  obtain ⟨b, o, ha, hlt, ho, hx⟩ := h4 (by omega)
  obtain ⟨av, kv, ⟨c0, c1, c2, c3, c4⟩, hp, hk1⟩ := hx k hk
  obtain ⟨pa, ca, hav, -⟩ := hp.form
  obtain ⟨pk, ck, hkv, -⟩ := hk1.form
  subst hav hkv
  exact ⟨b, o, pa, ca, pk, ck, ha, hlt, ho, c0, c1, c2, c3, c4, _, _, rfl, hp, hk1⟩
theorem cellsE5 {w : World} {b : Nat} {c0 c1 c2 c3 c4 : Value} {T : TypeId} (h : w.heap[b]? = some (.cells #[c0, c1, c2, c3, c4] T (0, 0))) : w.cell? ⟨b, 0, none⟩ = some c0 ∧ w.cell? ⟨b, 1, none⟩ = some c1 ∧ w.cell? ⟨b, 2, none⟩ = some c2 ∧ w.cell? ⟨b, 3, none⟩ = some c3 ∧ w.cell? ⟨b, 4, none⟩ = some c4 ∧ (∀ o, w.frozen? ⟨b, o, none⟩ = false) := by
  refine ⟨?_, ?_, ?_, ?_, ?_, fun o => ?_⟩ <;> simp [World.cell?, World.frozen?, h]

set_option maxRecDepth 100000 in
set_option maxHeartbeats 4000000 in
theorem rsameE_c {ok ok' : Nat → Prop} : ∀ (d : Nat) (w : World) (v u : Value) (t : ET), ElemD ok w d v t → ElemD ok' w d u t → Calls Tryz.prog 9 #[v, u] w fun e w' => e = .returned (.bool true) ∧ Below w.heap.size w w' := by
  intro d
  induction d with
  | zero => rintro w v u t ⟨av, kv, _, _, h⟩; exact h.elim
  | succ d ih =>
    intro w v u t h1 h2
    have HIH := Lib.hid ih
    obtain ⟨av, kv, rfl, hp1, hk1⟩ := h1
    obtain ⟨av2, kv2, rfl, hp2, hk2⟩ := h2
    obtain ⟨pa, ca, hav, _, hma⟩ := hp1.form
    obtain ⟨pk, ck, hkv, _, hmk⟩ := hk1.form
    obtain ⟨pa2, ca2, hav2, -⟩ := hp2.form
    obtain ⟨pk2, ck2, hkv2, -⟩ := hk2.form
    subst hav hkv hav2 hkv2
    have hnN : t.attrs.length ≤ 9223372036854775807 := by unfold maxLen at hma; omega
    have hnM : t.kids.length ≤ 9223372036854775807 := by unfold maxLen at hmk; omega
    obtain ⟨S1, hS1⟩ : ∃ S, S = t.space := ⟨_, rfl⟩
    obtain ⟨S2, hS2⟩ : ∃ S, S = t.name := ⟨_, rfl⟩
    obtain ⟨S3, hS3⟩ : ∃ S, S = t.text := ⟨_, rfl⟩
    obtain ⟨lp, hlp⟩ : ∃ l, l = t.attrs := ⟨_, rfl⟩
    obtain ⟨lk, hlk⟩ : ∃ l, l = t.kids := ⟨_, rfl⟩
    rw [← hS1, ← hS2, ← hS3]
    rw [← hlp] at hp1 hp2 hnN
    rw [← hlk] at hk1 hk2 hnM
    rw [← hlp, ← hlk]
    obtain ⟨N, hN⟩ : ∃ N, N = lp.length := ⟨_, rfl⟩
    obtain ⟨M, hM⟩ : ∃ M, M = lk.length := ⟨_, rfl⟩
    rw [← hN] at hp1 hp2 hnN ⊢
    rw [← hM] at hk1 hk2 hnM ⊢
    have HP1 := Lib.hid hp1
    have HP2 := Lib.hid hp2
    have HK1 := Lib.hid hk1
    have HK2 := Lib.hid hk2
    have HN := Lib.hid hN
    have HM := Lib.hid hM
    have q1 : ((N : Int) != (N : Int)) = false := by simp
    have q2 : ((M : Int) != (M : Int)) = false := by simp
    have q3 : (S1.toList == S1.toList) = true := by simp
    have q4 : (S2.toList == S2.toList) = true := by simp
    have q5 : (S3.toList == S3.toList) = true := by simp
    have b1 := box_belT w (.cells #[.string S1, .string S2, .slice pa N ca, .slice pk M ck, .string S3] 27)
    have b2 := box_belT (w.alloc (.cells #[.string S1, .string S2, .slice pa N ca, .slice pk M ck, .string S3] 27)) (.cells #[.string S1, .string S2, .slice pa2 N ca2, .slice pk2 M ck2, .string S3] 27)
    have HB0 := Lib.hid (b1.trans (b2.mono (by simp)))
    have HX0 := Lib.hid ((b2.block w.heap.size (by simp)).trans (heap_alloc_new w (.cells #[.string S1, .string S2, .slice pa N ca, .slice pk M ck, .string S3] 27)))
    have HX1 := Lib.hid (show ((w.alloc (.cells #[.string S1, .string S2, .slice pa N ca, .slice pk M ck, .string S3] 27)).alloc (.cells #[.string S1, .string S2, .slice pa2 N ca2, .slice pk2 M ck2, .string S3] 27)).heap[w.heap.size + 1]? = some (.cells #[.string S1, .string S2, .slice pa2 N ca2, .slice pk2 M ck2, .string S3] 27 (0, 0)) from by
      have := heap_alloc_new (w.alloc (.cells #[.string S1, .string S2, .slice pa N ca, .slice pk M ck, .string S3] 27)) (.cells #[.string S1, .string S2, .slice pa2 N ca2, .slice pk2 M ck2, .string S3] 27)
      rwa [World.size_alloc] at this)
    clear ih hp1 hp2 hk1 hk2 hN hM hS1 hS2 hS3 hlp hlk hma hmk b1 b2
    go_enter Tryz.func9, Tryz.ntmps9
    go_wp2_with fail
    go_loopw [47] (fun s44 wr => ∃ k : Nat, k ≤ N ∧ s44 = .int .i64 k ∧ Below w.heap.size w wr ∧ wr.heap[w.heap.size]? = some (.cells #[.string S1, .string S2, .slice pa N ca, .slice pk M ck, .string S3] 27 (0, 0)) ∧ wr.heap[w.heap.size + 1]? = some (.cells #[.string S1, .string S2, .slice pa2 N ca2, .slice pk2 M ck2, .string S3] 27 (0, 0))) (fun s44 _ => N - (intOf s44).toNat)
    case atStart => exact ⟨0, by omega, rfl, HB0.out, HX0.out, HX1.out⟩
    case round =>
      obtain ⟨k, hk, rfl, hb, hx0, hx1⟩ := hrel
      have HB := Lib.hid hb
      have HY0 := Lib.hid hx0
      have HY1 := Lib.hid hx1
      obtain ⟨x0, x1, x2, x3, x4, xz⟩ := cellsE5 hx0
      obtain ⟨y0, y1, y2, y3, y4, yz⟩ := cellsE5 hx1
      by_cases hlt : k < N
      · have hd : decide ((k : Int) < (N : Int)) = true := decide_eq_true (by omega)
        have hkl : k < lp.length := by rw [← HN.out]; exact hlt
        obtain ⟨b, o, hp, d0, d1, d2⟩ := (HP1.out.below hb).at hkl
        obtain ⟨b', o', hp', e0, e1, e2⟩ := (HP2.out.below hb).at hkl
        subst hp hp'
        generalize lp[k] = x at *
        obtain ⟨s, n, u⟩ := x
        dsimp only at d0 d1 d2 e0 e1 e2
        have hneq := fun W => run_neqP W s n u
        clear hb hx0 hx1 hkl x0 x1 x3 x4 y0 y1 y3 y4
        go_wp2_with fail
        go_quiet (fail)
        go_wp2_with fail
        go_roundw
        case rel => exact ⟨k + 1, by omega, by go_num, below_drewN HB.out _, HY0.out, HY1.out⟩
        case measure => simp [intOf]; omega
      · have hd : decide ((k : Int) < (N : Int)) = false := decide_eq_false (by omega)
        clear hb hx0 hx1 x0 x1 x2 x4 y0 y1 y2 y4
        go_wp2_with fail
        go_loopw [65] (fun s44 wr => ∃ k : Nat, k ≤ M ∧ s44 = .int .i64 k ∧ Below w.heap.size w wr ∧ wr.heap[w.heap.size]? = some (.cells #[.string S1, .string S2, .slice pa N ca, .slice pk M ck, .string S3] 27 (0, 0)) ∧ wr.heap[w.heap.size + 1]? = some (.cells #[.string S1, .string S2, .slice pa2 N ca2, .slice pk2 M ck2, .string S3] 27 (0, 0))) (fun s44 _ => M - (intOf s44).toNat)
        case atStart => exact ⟨0, by omega, rfl, HB.out, HY0.out, HY1.out⟩
        case round =>
          obtain ⟨k, hk, rfl, hb, hx0, hx1⟩ := hrel
          have HB := Lib.hid hb
          have HY0 := Lib.hid hx0
          have HY1 := Lib.hid hx1
          obtain ⟨x0, x1, x2, x3, x4, xz⟩ := cellsE5 hx0
          obtain ⟨y0, y1, y2, y3, y4, yz⟩ := cellsE5 hx1
          by_cases hlt : k < M
          · have hd : decide ((k : Int) < (M : Int)) = true := decide_eq_true (by omega)
            have hkl : k < lk.length := by rw [← HM.out]; exact hlt
            obtain ⟨b, o, pa, ca, pk, ck, hp, _, _, d0, d1, d2, d3, d4, hE⟩ := (HK1.out.below hb).at hkl
            obtain ⟨b', o', pa', ca', pk', ck', hp', _, _, e0, e1, e2, e3, e4, hE'⟩ := (HK2.out.below hb).at hkl
            subst hp hp'
            have HREC := Lib.hid (fun q => HIH.out (wr.drewN q) _ _ _ (hE.below (below_drewN (Below.refl _ _) q)) (hE'.below (below_drewN (Below.refl _ _) q)))
            have HRE0 := Lib.hid (HIH.out wr _ _ _ hE hE')
            generalize lk[k] = x at *
            obtain ⟨s, n, l1, l2, u⟩ := x
            dsimp only [ET.space, ET.name, ET.text, ET.attrs, ET.kids] at d0 d1 d2 d3 d4 e0 e1 e2 e3 e4 HREC HRE0
            generalize l1.length = n1 at *
            generalize l2.length = n2 at *
            clear hb hx0 hx1 hkl x0 x1 x2 x4 y0 y1 y2 y4 hE hE'
            go_wp2_with fail
            go_region_with (go_at_call 9; refine ((HREC.out _)).mono ?_; rintro e w2 ⟨rfl, hb2⟩; have hbq := (below_drewN (Below.refl _ _) _).trans hb2; have HB2 := Lib.hid (HB.out.trans (hbq.mono HB.out.size)); have HZ0 := Lib.hid ((hbq.block _ (Array.getElem?_eq_some_iff.1 HY0.out).1).trans HY0.out); have HZ1 := Lib.hid ((hbq.block _ (Array.getElem?_eq_some_iff.1 HY1.out).1).trans HY1.out); clear hb2 hbq)
            all_goals
              go_wp2_with fail
              go_roundw
              case rel => exact ⟨k + 1, by omega, by go_num, HB2.out, HZ0.out, HZ1.out⟩
              case measure => simp [intOf]; omega
          · have hd : decide ((k : Int) < (M : Int)) = false := decide_eq_false (by omega)
            clear hb hx0 hx1 x0 x1 x2 x4 y0 y1 y2 y4
            go_wp2_with fail
            go_ret
            exact ⟨rfl, HB.out⟩
end Go.Proofs.YtgkoknckaajgmaaGreatDoor

/- xmltree: rows of attributes and of elements, cell for cell; slices.Clone. -/
namespace Go.Proofs.YtgkoknckaajgmaaGreatDoor
open Go Go.RowKit Go.Deep
set_option linter.unusedVariables false
set_option linter.unusedSimpArgs false

theorem flat_len {α β : Type} {f : α → List β} {s : Nat} (hs : ∀ x, (f x).length = s) (L : List α) : (L.flatMap f).length = L.length * s := by
  induction L with
  | nil => simp
  | cons x t ih => rw [List.flatMap_cons, List.length_append, hs, ih, List.length_cons, Nat.succ_mul]; omega
theorem flat_at {α β : Type} {f : α → List β} {s : Nat} (hs : ∀ x, (f x).length = s) : ∀ (L : List α) (k j : Nat) (hk : k < L.length), j < s → (L.flatMap f)[k * s + j]? = (f L[k])[j]?
  | [], k, j, hk, hj => by simp at hk
  | x :: t, 0, j, hk, hj => by
    rw [List.flatMap_cons, Nat.zero_mul, Nat.zero_add, List.getElem?_append_left (by rw [hs]; exact hj)]
    rfl
  | x :: t, k + 1, j, hk, hj => by
    rw [List.flatMap_cons, List.getElem?_append_right (by rw [hs, Nat.succ_mul]; omega), hs, show (k + 1) * s + j - s = k * s + j from by rw [Nat.succ_mul]; omega, flat_at hs t k j (by simpa using hk) hj]
    rfl
theorem flat_put {α β : Type} {f : α → List β} {s : Nat} (hs : ∀ x, (f x).length = s) (L : List α) (k j : Nat) (hk : k < L.length) (hj : j < s) {u : β} (hu : (L.flatMap f)[k * s + j]? = some u) : (f L[k])[j]? = some u := by rw [← flat_at hs L k j hk hj, hu]
theorem OwnS.belowT {w w' : World} {base : Nat} {e : TypeId} {size : Nat} {v : Value} {n : Nat} {xs : List Value} (h : OwnS w base e size v n xs) (hb : Below w.heap.size w w') : OwnS w' base e size v n xs :=
  h.keep fun g hg => hb.block g (h.lt g hg)
theorem OwnS.baseT {w : World} {base : Nat} {e : TypeId} {size : Nat} {v : Value} {n : Nat} {xs : List Value} (h : OwnS w base e size v n xs) : ∀ g, v.ownBlock = some g → base ≤ g := by
  intro k hk
  rcases h.2 with ⟨rfl, _⟩ | ⟨g, off, cap, cur, rfl, hb, _⟩
  · simp [Value.ownBlock] at hk
  · simp [Value.ownBlock] at hk
    omega
def pcell (a : PT) : List Value := [.string a.1, .string a.2.1, .string a.2.2]
def pcells (l : List PT) : List Value := l.flatMap pcell
theorem pcell_len (x : PT) : (pcell x).length = 3 := rfl
/-- An element as it lies in a row: with its slices. -/
abbrev EV := ET × Value × Value
def ecell (x : EV) : List Value := [.string x.1.space, .string x.1.name, x.2.1, x.2.2, .string x.1.text]
def ecells (L : List EV) : List Value := L.flatMap ecell
theorem ecell_len (x : EV) : (ecell x).length = 5 := rfl
/-- What lies below the elements of a row reads as it should. -/
def KidsV (ok : Nat → Prop) (w : World) (d : Nat) (L : List EV) : Prop := ∀ x ∈ L, PairsR ok w x.2.1 x.1.attrs ∧ KidsD ok w d x.2.2 x.1.kids
theorem KidsV.keep {ok ok' : Nat → Prop} {w w' : World} {d : Nat} {L : List EV} (h : KidsV ok w d L) (hs : w.heap.size ≤ w'.heap.size) (hk : ∀ b, ok b → b < w.heap.size → w'.heap[b]? = w.heap[b]? ∧ ok' b) : KidsV ok' w' d L := fun x hx => ⟨(h x hx).1.keep hs hk, (h x hx).2.keep hs hk⟩
theorem KidsV.below {ok : Nat → Prop} {w w' : World} {d : Nat} {L : List EV} (h : KidsV ok w d L) (hb : Below w.heap.size w w') : KidsV ok w' d L := h.keep hb.size fun b ho hl => ⟨hb.block b hl, ho⟩
theorem KidsV.mono {ok ok' : Nat → Prop} {w : World} {d : Nat} {L : List EV} (h : KidsV ok w d L) (hm : ∀ b, ok b → b < w.heap.size → ok' b) : KidsV ok' w d L := h.keep (Nat.le_refl _) fun b ho hl => ⟨rfl, hm b ho hl⟩
theorem KidsV.elem {ok : Nat → Prop} {w : World} {d : Nat} {L : List EV} (h : KidsV ok w d L) {k : Nat} (hk : k < L.length) : ElemD ok w d (.agg #[.string L[k].1.space, .string L[k].1.name, L[k].2.1, L[k].2.2, .string L[k].1.text]) L[k].1 := ⟨_, _, rfl, h _ (List.getElem_mem hk)⟩

/-- What an append takes from attributes. -/
theorem PairsR.src {ok : Nat → Prop} {w : World} {v : Value} {l : List PT} (h : PairsR ok w v l) : Src Tryz.prog 3 24 v l.length (pcells l) w := by
  obtain ⟨a, c, rfl, h1, h2, h3, h4⟩ := h
  have hlen : (pcells l).length = l.length * 3 := flat_len pcell_len l
  have hone : ∀ u ∈ pcells l, u.oneCell' = true := by
    intro u hu
    obtain ⟨x, _, hx⟩ := List.mem_flatMap.1 hu
    simp [pcell] at hx
    rcases hx with rfl | rfl | rfl <;> rfl
  cases a with
  | none =>
    have h0 : l.length = 0 := by have := h3 rfl; omega
    obtain rfl := List.eq_nil_of_length_eq_zero h0
    exact Src.ofNil w Tryz.underlying24 c
  | some a =>
    refine Src.ofSlice w Tryz.underlying24 a _ c _ hlen (fun j u hj => ?_) hone
    have hjl : j < l.length * 3 := by rw [← hlen]; exact (List.getElem?_eq_some_iff.1 hj).1
    obtain ⟨b, o, ha, _, _, hx⟩ := h4 (by omega)
    obtain rfl : a = ⟨b, o, none⟩ := by simpa using ha
    have hk : j / 3 < l.length := by omega
    have hu := flat_put pcell_len l (j / 3) (j % 3) hk (by omega) (u := u) (by rw [show j / 3 * 3 + j % 3 = j by omega]; exact hj)
    obtain ⟨c0, c1, c2⟩ := hx (j / 3) hk
    rw [Addr.add_lit]
    have hr : j % 3 = 0 ∨ j % 3 = 1 ∨ j % 3 = 2 := by omega
    rcases hr with hr | hr | hr <;> rw [hr] at hu
    · simp [pcell] at hu; subst hu; rw [← c0]; congr 2; omega
    · simp [pcell] at hu; subst hu; rw [← c1]; congr 2; omega
    · simp [pcell] at hu; subst hu; rw [← c2]; congr 2; omega
theorem PairsR.ofOwn {ok : Nat → Prop} {w : World} {base : Nat} {v : Value} {l : List PT} (h : OwnS w base 63 3 v l.length (pcells l)) (hok : ∀ b, base ≤ b → ok b) : PairsR ok w v l := by
  obtain ⟨p, c, hv, h1, h2, h3⟩ := h.form
  refine ⟨p, c, hv, h1, h2, h3, fun hp => ?_⟩
  rcases h.2 with ⟨_, h0⟩ | ⟨g, off, cap, cur, hv2, hb, hg, _⟩
  · omega
  · rw [hv] at hv2
    cases hv2
    refine ⟨g, off, rfl, (Array.getElem?_eq_some_iff.1 hg).1, hok _ hb, fun k hk => ?_⟩
    have hc := fun j (hj : j < 3) u (hu : (pcell l[k])[j]? = some u) => h.cell hv (k * 3 + j) u (by unfold pcells; rw [flat_at pcell_len l k j hk hj]; exact hu)
    exact ⟨hc 0 (by omega) _ rfl, by rw [Nat.add_assoc]; exact hc 1 (by omega) _ rfl, by rw [Nat.add_assoc]; exact hc 2 (by omega) _ rfl⟩
/-- Elements, cell for cell. -/
theorem KidsD.cells {ok : Nat → Prop} {w : World} {d : Nat} {v : Value} {l : List ET} (h : KidsD ok w (d + 1) v l) : ∃ L : List EV, L.map (·.1) = l ∧ KidsV ok w d L ∧ ∀ w', Below w.heap.size w w' → Src Tryz.prog 5 25 v L.length (ecells L) w' := by
  obtain ⟨a, c, rfl, h1, h2, h3, h4⟩ := h
  cases a with
  | none =>
    have h0 : l.length = 0 := by have := h3 rfl; omega
    obtain rfl := List.eq_nil_of_length_eq_zero h0
    exact ⟨[], rfl, fun x hx => by simp at hx, fun w' _ => Src.ofNil w' Tryz.underlying25 c⟩
  | some a =>
    rcases Nat.eq_zero_or_pos l.length with h0 | h0
    · obtain rfl := List.eq_nil_of_length_eq_zero h0
      exact ⟨[], rfl, fun x hx => by simp at hx, fun w' _ => Src.ofSlice w' Tryz.underlying25 a 0 c [] (by simp) (by simp) (by simp)⟩
    obtain ⟨b, o, ha, _, _, hx⟩ := h4 h0
    obtain rfl : a = ⟨b, o, none⟩ := by simpa using ha
    obtain ⟨L, hL, hp⟩ := list_ofT (P := fun k (x : EV) => ∀ (hk : k < l.length), x.1 = l[k] ∧ (w.cell? ⟨b, o + k * 5, none⟩ = some (.string x.1.space) ∧ w.cell? ⟨b, o + k * 5 + 1, none⟩ = some (.string x.1.name) ∧ w.cell? ⟨b, o + k * 5 + 2, none⟩ = some x.2.1 ∧ w.cell? ⟨b, o + k * 5 + 3, none⟩ = some x.2.2 ∧ w.cell? ⟨b, o + k * 5 + 4, none⟩ = some (.string x.1.text)) ∧
      PairsR ok w x.2.1 x.1.attrs ∧ KidsD ok w d x.2.2 x.1.kids) l.length (fun i hi => by
        obtain ⟨av, kv, hc, hp, hk⟩ := hx i hi
        exact ⟨(l[i], av, kv), fun _ => ⟨rfl, hc, hp, hk⟩⟩)
    have hlen : (ecells L).length = L.length * 5 := flat_len ecell_len L
    have hkv : KidsV ok w d L := fun x hx => by
      obtain ⟨k, hk, rfl⟩ := List.getElem_of_mem hx
      exact (hp k hk (by rw [← hL]; exact hk)).2.2
    have hone : ∀ u ∈ ecells L, u.oneCell' = true := by
      intro u hu
      obtain ⟨x, hx, hxu⟩ := List.mem_flatMap.1 hu
      obtain ⟨p1, c1, e1, -⟩ := (hkv x hx).1.form
      obtain ⟨p2, c2, e2, -⟩ := (hkv x hx).2.form
      simp only [ecell, e1, e2, List.mem_cons, List.not_mem_nil, or_false] at hxu
      rcases hxu with rfl | rfl | rfl | rfl | rfl <;> rfl
    refine ⟨L, ?_, hkv, ?_⟩
    · apply List.ext_getElem
      · rw [List.length_map, hL]
      · intro k h5 h6
        rw [List.getElem_map]
        exact (hp k (by rw [hL]; exact h6) h6).1
    · intro w' hb'
      rw [← hL]
      refine Src.ofSlice w' Tryz.underlying25 _ _ c _ hlen (fun j u hj => ?_) hone
      have hjl : j < L.length * 5 := by rw [← hlen]; exact (List.getElem?_eq_some_iff.1 hj).1
      have hk : j / 5 < L.length := by omega
      have hu := flat_put ecell_len L (j / 5) (j % 5) hk (by omega) (u := u) (by rw [show j / 5 * 5 + j % 5 = j by omega]; exact hj)
      obtain ⟨_, ⟨c0, c1, c2, c3, c4⟩, _⟩ := hp (j / 5) hk (by rw [← hL]; exact hk)
      rw [Addr.add_lit]
      have hr : j % 5 = 0 ∨ j % 5 = 1 ∨ j % 5 = 2 ∨ j % 5 = 3 ∨ j % 5 = 4 := by omega
      rcases hr with hr | hr | hr | hr | hr <;> rw [hr] at hu
      · simp [ecell] at hu; subst hu; rw [← (hb'.cell (World.block_lt_of_cell? w _ c0)).trans c0]; congr 2; omega
      · simp [ecell] at hu; subst hu; rw [← (hb'.cell (World.block_lt_of_cell? w _ c1)).trans c1]; congr 2; omega
      · simp [ecell] at hu; subst hu; rw [← (hb'.cell (World.block_lt_of_cell? w _ c2)).trans c2]; congr 2; omega
      · simp [ecell] at hu; subst hu; rw [← (hb'.cell (World.block_lt_of_cell? w _ c3)).trans c3]; congr 2; omega
      · simp [ecell] at hu; subst hu; rw [← (hb'.cell (World.block_lt_of_cell? w _ c4)).trans c4]; congr 2; omega
theorem KidsD.ofOwn {ok : Nat → Prop} {w : World} {base d : Nat} {v : Value} {L : List EV} (h : OwnS w base 27 5 v L.length (ecells L)) (hok : ∀ b, base ≤ b → ok b) (hk : KidsV ok w d L) : KidsD ok w (d + 1) v (L.map (·.1)) := by
  obtain ⟨p, c, hv, h1, h2, h3⟩ := h.form
  refine ⟨p, c, by rw [List.length_map]; exact hv, by rw [List.length_map]; exact h1, h2, h3, fun hp => ?_⟩
  rw [List.length_map] at hp
  rcases h.2 with ⟨_, h0⟩ | ⟨g, off, cap, cur, hv2, hb, hg, _⟩
  · omega
  · rw [hv] at hv2
    cases hv2
    refine ⟨g, off, rfl, (Array.getElem?_eq_some_iff.1 hg).1, hok _ hb, fun k hk2 => ?_⟩
    rw [List.length_map] at hk2
    have hc := fun j (hj : j < 5) u (hu : (ecell L[k])[j]? = some u) => h.cell hv (k * 5 + j) u (by unfold ecells; rw [flat_at ecell_len L k j hk2 hj]; exact hu)
    obtain ⟨hp1, hk1⟩ := hk _ (List.getElem_mem hk2)
    rw [List.getElem_map]
    exact ⟨L[k].2.1, L[k].2.2, ⟨hc 0 (by omega) _ rfl, by rw [Nat.add_assoc]; exact hc 1 (by omega) _ rfl, by rw [Nat.add_assoc]; exact hc 2 (by omega) _ rfl, by rw [Nat.add_assoc]; exact hc 3 (by omega) _ rfl, by rw [Nat.add_assoc]; exact hc 4 (by omega) _ rfl⟩, hp1, hk1⟩

theorem infoPr : (Tryz.prog.info? 63).map (fun i => (i.zero, i.size, i.bytes)) = some (some (.agg #[.string ⟨#[]⟩, .string ⟨#[]⟩, .string ⟨#[]⟩]), 3, 48) := by kernel_rfl
theorem infoPrX : ∃ i0, Tryz.prog.info? 63 = some i0 ∧ i0.zero = some (.agg #[.string ⟨#[]⟩, .string ⟨#[]⟩, .string ⟨#[]⟩]) ∧ i0.size = 3 ∧ i0.bytes = 48 := by
  have h := infoPr
  cases hi : Tryz.prog.info? 63 with
  | none => rw [hi] at h; simp at h
  | some i =>
    rw [hi] at h
    simp at h
    exact ⟨i, rfl, h.1, h.2.1, h.2.2⟩
theorem infoEl : (Tryz.prog.info? 27).map (fun i => (i.zero, i.size, i.bytes)) = some (some (.agg #[.string ⟨#[]⟩, .string ⟨#[]⟩, .slice none 0 0, .slice none 0 0, .string ⟨#[]⟩]), 5, 96) := by kernel_rfl
theorem infoElX : ∃ i0, Tryz.prog.info? 27 = some i0 ∧ i0.zero = some (.agg #[.string ⟨#[]⟩, .string ⟨#[]⟩, .slice none 0 0, .slice none 0 0, .string ⟨#[]⟩]) ∧ i0.size = 5 ∧ i0.bytes = 96 := by
  have h := infoEl
  cases hi : Tryz.prog.info? 27 with
  | none => rw [hi] at h; simp at h
  | some i =>
    rw [hi] at h
    simp at h
    exact ⟨i, rfl, h.1, h.2.1, h.2.2⟩
theorem emptyT_own (w : World) (E : TypeId) (size : Nat) : OwnS (w.alloc (.cells #[] E)) w.heap.size E size (.slice (some ⟨w.heap.size, 0, none⟩) 0 0) 0 [] :=
  ⟨by simp, .inr ⟨_, 0, 0, #[], rfl, Nat.le_refl _, heap_alloc_new w _, Nat.le_refl _, Nat.zero_le _, by simp, by simp⟩⟩
/-- What a copy of a row is. -/
def CloneT (w : World) (E : TypeId) (size n : Nat) (xs : List Value) (e : Ending) (w' : World) : Prop := ∃ v', e = .returned v' ∧ OwnS w' w.heap.size E size v' n xs ∧ Below w.heap.size w w'
set_option maxRecDepth 100000 in
theorem cloneP_c (w : World) (p : Option Addr) (n c : Nat) (xs : List Value) (hp : p = none → n = 0 ∧ c = 0 ∧ xs = []) (h : Src Tryz.prog 3 24 (.slice p n c) n xs w) (hb : ∀ o, Src Tryz.prog 3 24 (.slice p n c) n xs (w.alloc o)) (hn : n ≤ 1000) : Calls Tryz.prog 64 #[.slice p n c] w (CloneT w 63 3 n xs) := by
  obtain ⟨i0, hi, hz0, hz1, hz2⟩ := infoPrX
  have hnil := @Lib.run_eql_slice_nil Tryz.prog
  have hu := Tryz.underlying24
  have HS := Lib.hid hb
  clear h hb
  cases p with
  | none =>
    obtain ⟨rfl, rfl, rfl⟩ := hp rfl
    clear hp
    go_enter Tryz.func64, Tryz.ntmps64
    go_wp2_with fail
    go_ret
    exact ⟨_, rfl, OwnS.nil _ _ _ _, Below.refl _ _⟩
  | some a =>
    clear hp
    go_enter Tryz.func64, Tryz.ntmps64
    go_wp2_with (at_builtin; refine wpList_append_S rfl _ _ 24 24 rfl w.heap.size 63 i0 _ 3 48 Tryz.underlying24 hi hz0 hz1 hz2 rfl (Nat.succ_pos _) (.slice (some ⟨w.heap.size, 0, none⟩) 0 0) 0 [] rfl (emptyT_own _ _ _) _ n xs rfl (HS.out _) ?c1 ?c2 ?c3 ?_)
    case c1 => unfold maxLen; omega
    case c2 => omega
    case c3 => simp
    intro v' w' hown hgrow hl
    have HO := Lib.hid (show OwnS w' w.heap.size 63 3 v' n xs from hown)
    have HB := Lib.hid (show Below w.heap.size w w' from ((Below.refl _ _).alloc (Nat.le_refl _) _).grown hgrow (by simp) (fun k ek => by
      have : w.heap.size = k := Option.some.inj ek
      omega))
    clear hown hgrow hl
    go_wp2_with fail
    go_ret
    exact ⟨_, rfl, HO.out, HB.out⟩
set_option maxRecDepth 100000 in
theorem cloneE_c (w : World) (p : Option Addr) (n c : Nat) (xs : List Value) (hp : p = none → n = 0 ∧ c = 0 ∧ xs = []) (hb : ∀ o, Src Tryz.prog 5 25 (.slice p n c) n xs (w.alloc o)) (hn : n ≤ 1000) : Calls Tryz.prog 65 #[.slice p n c] w (CloneT w 27 5 n xs) := by
  obtain ⟨i0, hi, hz0, hz1, hz2⟩ := infoElX
  have hnil := @Lib.run_eql_slice_nil Tryz.prog
  have hu := Tryz.underlying25
  have HS := Lib.hid hb
  clear hb
  cases p with
  | none =>
    obtain ⟨rfl, rfl, rfl⟩ := hp rfl
    clear hp
    go_enter Tryz.func65, Tryz.ntmps65
    go_wp2_with fail
    go_ret
    exact ⟨_, rfl, OwnS.nil _ _ _ _, Below.refl _ _⟩
  | some a =>
    clear hp
    go_enter Tryz.func65, Tryz.ntmps65
    go_wp2_with (at_builtin; refine wpList_append_S rfl _ _ 25 25 rfl w.heap.size 27 i0 _ 5 96 Tryz.underlying25 hi hz0 hz1 hz2 rfl (Nat.succ_pos _) (.slice (some ⟨w.heap.size, 0, none⟩) 0 0) 0 [] rfl (emptyT_own _ _ _) _ n xs rfl (HS.out _) ?c1 ?c2 ?c3 ?_)
    case c1 => unfold maxLen; omega
    case c2 => omega
    case c3 => simp
    intro v' w' hown hgrow hl
    have HO := Lib.hid (show OwnS w' w.heap.size 27 5 v' n xs from hown)
    have HB := Lib.hid (show Below w.heap.size w w' from ((Below.refl _ _).alloc (Nat.le_refl _) _).grown hgrow (by simp) (fun k ek => by
      have : w.heap.size = k := Option.some.inj ek
      omega))
    clear hown hgrow hl
    go_wp2_with fail
    go_ret
    exact ⟨_, rfl, HO.out, HB.out⟩
end Go.Proofs.YtgkoknckaajgmaaGreatDoor
