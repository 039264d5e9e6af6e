/- xmllex: what the row lists of the world, and a world for the witness. -/
import Derived.Test.YtpcajjbdlfookaaGreatDoorMp08
import Derived.ShutString
import Derived.ChangeOld
import Derived.Shelf.Vars
import Derived.LaidLaws
import Derived.Test.YtpcajjbdlfookaaGreatDoorBy
import Derived.Test.YtpcajjbdlfookaaGreatDoorProg
import Derived.Deep.Fields
import Derived.Deep.Slices
import Derived.Test.YtpcajjbdlfookaaGreatDoorChg
import Derived.Test.YtpcajjbdlfookaaGreatDoorChecked
import Derived.OpenShut
import Derived.Outline
import Derived.WalkLawsBesides
import Derived.WalkSpells
import Derived.Laws.StructEq
import Derived.Deep.QuietTactic
import Derived.BigQuiet
import Derived.Deep.RegionWith
import Derived.Deep.Cut
import Derived.BigRegion
import Derived.RegionTactic
import Derived.Deep.DeepFit
namespace Go.Proofs.YtpcajjbdlfookaaGreatDoor
open Go.Lib Go.RowKit
set_option linter.unusedVariables false

theorem tabs_mem {W : World} {L : List (String × DataW Unit)} (h : laidMet Tryz.prog L W) (m1 : ("unicode/utf8.first", Rows.laid_unicode_utf8_first) ∈ L) (m2 : ("unicode/utf8.acceptRanges", Rows.laid_unicode_utf8_acceptRanges) ∈ L) : Tabs W := by
  have h3 : VarReads Tryz.prog W "unicode/utf8.first" Lib.firstData := by rw [← first_is]; exact laidMet.reads h m1
  have h4 : VarReads Tryz.prog W "unicode/utf8.acceptRanges" Lib.acceptData := by rw [← accept_is]; exact laidMet.reads h m2
  refine ⟨fun c hc => ?_, fun i hi => ?_⟩
  · obtain ⟨g, t, cs, fuel, p, hg, hty, hvar, hd⟩ := h3
    obtain rfl := Option.some.inj (gFirst.symm.trans hg)
    obtain rfl := Option.some.inj (gFirstT.symm.trans hty)
    have hcs := cells_of_tab Tryz.underlying147 Tryz.underlying5 cells5 cellsFirst hd
    have := World.var?_cell hg hvar c
    rw [this, ← Array.getElem?_toList, hcs]
    simp [firstTab, hc]
  · obtain ⟨g, t, cs, fuel, p, hg, hty, hvar, hd⟩ := h4
    obtain rfl := Option.some.inj (gAcc.symm.trans hg)
    obtain rfl := Option.some.inj (gAccT.symm.trans hty)
    obtain ⟨fuel', d, q, hdi, he⟩ := array_elem Tryz.underlying150 hd i hi
    simp only [List.getElem?_map, List.getElem?_range hi, Option.map_some, Option.some.injEq] at hdi
    subst hdi
    rw [cellsAcc] at he
    have hcs := ints_of_struct Tryz.underlying149 (fun j f hj => by
      match j, hj with
      | 0, hj => simp at hj; subst hj; exact ⟨Tryz.underlying5, rfl, cells5⟩
      | 1, hj => simp at hj; subst hj; exact ⟨Tryz.underlying5, rfl, cells5⟩
      | j + 2, hj => simp at hj) (by rw [cellsAcc]; rfl) he
    have e0 := congrArg (·[0]?) hcs
    have e1 := congrArg (·[1]?) hcs
    simp only [List.getElem?_take, List.getElem?_drop] at e0 e1
    constructor
    · rw [World.var?_cell hg hvar (2 * i), ← Array.getElem?_toList]
      simpa [Nat.mul_comm] using e0
    · rw [World.var?_cell hg hvar (2 * i + 1), ← Array.getElem?_toList]
      simpa [Nat.mul_comm] using e1
theorem gSyn : Tryz.prog.globalNamed "strconv.ErrSyntax" = some 3 := by kernel_rfl
theorem gSynT : (Tryz.prog.globals[3]?).map (·.type) = some 133 := by kernel_rfl
theorem gRan : Tryz.prog.globalNamed "strconv.ErrRange" = some 4 := by kernel_rfl
theorem gRanT : (Tryz.prog.globals[4]?).map (·.type) = some 133 := by kernel_rfl
theorem err_of {W : World} {n : String} {g : Nat} {name : String} {d : DataW Unit} (h : VarReads Tryz.prog W n (.iface name d)) (hn : Tryz.prog.globalNamed n = some g) (ht : (Tryz.prog.globals[g]?).map (·.type) = some 133) : ErrAt W g := by
  obtain ⟨g', t, cs, fuel, p, hg, hty, hvar, hd⟩ := h
  obtain rfl := Option.some.inj (hn.symm.trans hg)
  obtain rfl := Option.some.inj (ht.symm.trans hty)
  obtain ⟨_, u, v, hcs, _⟩ := iface_of_trod Tryz.underlying133 hd
  refine ⟨.iface u v, ?_, .inr ⟨u, v, rfl⟩⟩
  rw [World.var?_cell hg hvar 0, ← Array.getElem?_toList, hcs]
  rfl
theorem mx_of {W : World} (h : W.ShapedOpen Tryz.prog) : MX W :=
  cell_of_shapedOpen_int h (of_decide_eq_true (by kernel_rfl)) (zero := #[.int .i64 0]) (t := 3) (by kernel_rfl) rfl (by kernel_rfl) (by kernel_rfl) Tryz.underlying3
theorem bw_of {W : World} {L : List (String × DataW Unit)} (h : laidMet Tryz.prog L W) (hsh : W.ShapedOpen Tryz.prog) (m1 : ("unicode/utf8.first", Rows.laid_unicode_utf8_first) ∈ L) (m2 : ("unicode/utf8.acceptRanges", Rows.laid_unicode_utf8_acceptRanges) ∈ L) (m3 : ("strconv.ErrSyntax", Rows.laid_strconv_ErrSyntax) ∈ L) (m4 : ("strconv.ErrRange", Rows.laid_strconv_ErrRange) ∈ L) : BW W :=
  ⟨tabs_mem h m1 m2, mx_of hsh, err_of (laidMet.reads h m3) gSyn gSynT, err_of (laidMet.reads h m4) gRan gRanT⟩

def litC : DataW Unit → Array Value
  | .agg ps => (ps.map fun | .lit l => l.value | _ => undef).toArray
  | _ => #[]
def msgC : DataW Unit → Array Value
  | .iface _ (.ptr d) => litC d
  | _ => #[]
/-- A world for the witness: all seven variables as their initialisers lay them. -/
noncomputable def laidWorld7 (os : Os) : World :=
  { laidWorld os with heap := (((((((laidWorld os).heap.modify 6 (recells (litC Rows.laid_math_bits_deBruijn32tab))).modify 7 (recells (litC Rows.laid_math_bits_deBruijn64tab))).modify 5 (recells (litC Rows.laid_internal_strconv_uint64pow10))).modify 4 (recells #[.iface 206 (.pointer (some ⟨(laidWorld os).heap.size, 0, none⟩))])).modify 3 (recells #[.iface 206 (.pointer (some ⟨(laidWorld os).heap.size + 1, 0, none⟩))])).push (.cells (msgC Rows.laid_strconv_ErrRange) 208)).push (.cells (msgC Rows.laid_strconv_ErrSyntax) 208) }
end Go.Proofs.YtpcajjbdlfookaaGreatDoor

/- xmltree: elements as they lie in memory; reading a law's argument. -/
namespace Go.Proofs.YtpcajjbdlfookaaGreatDoor
open Go Go.RowKit Go.ChangeShapes Go.WideShapes Go.Deep
set_option linter.unusedVariables false

/-- An attribute with its namespace: space, name, value. -/
abbrev PT := ByteArray × ByteArray × ByteArray
/-- An element. -/
inductive ET where
  | mk (space name : ByteArray) (attrs : List PT) (kids : List ET) (text : ByteArray)
def ET.space : ET → ByteArray | .mk s _ _ _ _ => s
def ET.name : ET → ByteArray | .mk _ n _ _ _ => n
def ET.attrs : ET → List PT | .mk _ _ l _ _ => l
def ET.kids : ET → List ET | .mk _ _ _ l _ => l
def ET.text : ET → ByteArray | .mk _ _ _ _ t => t

/-- Attributes that lie in blocks that may be. -/
def PairsR (ok : Nat → Prop) (w : World) (v : Value) (l : List PT) : Prop :=
  ∃ a c, v = .slice a l.length c ∧ l.length ≤ c ∧ c ≤ maxLen ∧ (a = none → c = 0) ∧ (0 < l.length → ∃ b o, a = some ⟨b, o, none⟩ ∧ b < w.heap.size ∧ ok b ∧
    ∀ k (h : k < l.length), w.cell? ⟨b, o + k * 3, none⟩ = some (.string l[k].1) ∧ w.cell? ⟨b, o + k * 3 + 1, none⟩ = some (.string l[k].2.1) ∧ w.cell? ⟨b, o + k * 3 + 2, none⟩ = some (.string l[k].2.2))
/-- Elements, so many levels deep at most, that lie in blocks that may be. -/
def KidsD (ok : Nat → Prop) (w : World) : Nat → Value → List ET → Prop
  | 0, _, _ => False
  | d + 1, v, l => ∃ a c, v = .slice a l.length c ∧ l.length ≤ c ∧ c ≤ maxLen ∧ (a = none → c = 0) ∧ (0 < l.length → ∃ b o, a = some ⟨b, o, none⟩ ∧ b < w.heap.size ∧ ok b ∧
      ∀ k (h : k < l.length), ∃ av kv, (w.cell? ⟨b, o + k * 5, none⟩ = some (.string l[k].space) ∧ w.cell? ⟨b, o + k * 5 + 1, none⟩ = some (.string l[k].name) ∧ w.cell? ⟨b, o + k * 5 + 2, none⟩ = some av ∧ w.cell? ⟨b, o + k * 5 + 3, none⟩ = some kv ∧ w.cell? ⟨b, o + k * 5 + 4, none⟩ = some (.string l[k].text)) ∧
        PairsR ok w av l[k].attrs ∧ KidsD ok w d kv l[k].kids)
/-- An element by value. -/
def ElemD (ok : Nat → Prop) (w : World) (d : Nat) (v : Value) (t : ET) : Prop :=
  ∃ av kv, v = .agg #[.string t.space, .string t.name, av, kv, .string t.text] ∧ PairsR ok w av t.attrs ∧ KidsD ok w d kv t.kids

theorem PairsR.nil (ok : Nat → Prop) (w : World) : PairsR ok w (.slice none 0 0) [] := ⟨none, 0, rfl, by simp, by unfold maxLen; omega, by simp, by simp⟩
theorem KidsD.nil (ok : Nat → Prop) (w : World) (d : Nat) : KidsD ok w (d + 1) (.slice none 0 0) [] := ⟨none, 0, rfl, by simp, by unfold maxLen; omega, by simp, by simp⟩
/-- What lies in blocks that stay, stays. -/
theorem PairsR.keep {ok ok' : Nat → Prop} {w w' : World} {v : Value} {l : List PT} (h : PairsR ok w v l) (hs : w.heap.size ≤ w'.heap.size) (hk : ∀ b, ok b → b < w.heap.size → w'.heap[b]? = w.heap[b]? ∧ ok' b) : PairsR ok' w' v l := by
  obtain ⟨a, c, e, h1, h2, h3, h4⟩ := h
  refine ⟨a, c, e, h1, h2, h3, fun hp => ?_⟩
  obtain ⟨b, o, ha, hlt, ho, hx⟩ := h4 hp
  obtain ⟨hb, ho'⟩ := hk b ho hlt
  have hc : ∀ j, w'.cell? ⟨b, j, none⟩ = w.cell? ⟨b, j, none⟩ := fun j => World.cell?_of_block hb
  refine ⟨b, o, ha, Nat.lt_of_lt_of_le hlt hs, ho', fun k hk => ?_⟩
  obtain ⟨c0, c1, c2⟩ := hx k hk
  exact ⟨(hc _).trans c0, (hc _).trans c1, (hc _).trans c2⟩
theorem KidsD.keep {ok ok' : Nat → Prop} {w w' : World} (hs : w.heap.size ≤ w'.heap.size) (hk : ∀ b, ok b → b < w.heap.size → w'.heap[b]? = w.heap[b]? ∧ ok' b) : ∀ {d : Nat} {v : Value} {l : List ET}, KidsD ok w d v l → KidsD ok' w' d v l
  | 0, _, _, h => h
  | d + 1, v, l, h => by
    obtain ⟨a, c, e, h1, h2, h3, h4⟩ := h
    refine ⟨a, c, e, h1, h2, h3, fun hp => ?_⟩
    obtain ⟨b, o, ha, hlt, ho, hx⟩ := h4 hp
    obtain ⟨hb, ho'⟩ := hk b ho hlt
    have hc : ∀ j, w'.cell? ⟨b, j, none⟩ = w.cell? ⟨b, j, none⟩ := fun j => World.cell?_of_block hb
    refine ⟨b, o, ha, Nat.lt_of_lt_of_le hlt hs, ho', fun k hk2 => ?_⟩
    obtain ⟨av, kv, ⟨c0, c1, c2, c3, c4⟩, hp1, hk1⟩ := hx k hk2
    exact ⟨av, kv, ⟨(hc _).trans c0, (hc _).trans c1, (hc _).trans c2, (hc _).trans c3, (hc _).trans c4⟩, hp1.keep hs hk, KidsD.keep hs hk hk1⟩
theorem PairsR.below {ok : Nat → Prop} {w w' : World} {v : Value} {l : List PT} (h : PairsR ok w v l) (hb : Below w.heap.size w w') : PairsR ok w' v l := h.keep hb.size fun b ho hl => ⟨hb.block b hl, ho⟩
theorem KidsD.below {ok : Nat → Prop} {w w' : World} {d : Nat} {v : Value} {l : List ET} (h : KidsD ok w d v l) (hb : Below w.heap.size w w') : KidsD ok w' d v l := h.keep hb.size fun b ho hl => ⟨hb.block b hl, ho⟩
theorem PairsR.mono {ok ok' : Nat → Prop} {w : World} {v : Value} {l : List PT} (h : PairsR ok w v l) (hm : ∀ b, ok b → b < w.heap.size → ok' b) : PairsR ok' w v l := h.keep (Nat.le_refl _) fun b ho hl => ⟨rfl, hm b ho hl⟩
theorem KidsD.mono {ok ok' : Nat → Prop} {w : World} {d : Nat} {v : Value} {l : List ET} (h : KidsD ok w d v l) (hm : ∀ b, ok b → b < w.heap.size → ok' b) : KidsD ok' w d v l := h.keep (Nat.le_refl _) fun b ho hl => ⟨rfl, hm b ho hl⟩
theorem ElemD.below {ok : Nat → Prop} {w w' : World} {d : Nat} {v : Value} {t : ET} (h : ElemD ok w d v t) (hb : Below w.heap.size w w') : ElemD ok w' d v t := by
  obtain ⟨av, kv, e, h1, h2⟩ := h
  exact ⟨av, kv, e, h1.below hb, h2.below hb⟩
theorem ElemD.mono {ok ok' : Nat → Prop} {w : World} {d : Nat} {v : Value} {t : ET} (h : ElemD ok w d v t) (hm : ∀ b, ok b → b < w.heap.size → ok' b) : ElemD ok' w d v t := by
  obtain ⟨av, kv, e, h1, h2⟩ := h
  exact ⟨av, kv, e, h1.mono hm, h2.mono hm⟩
theorem PairsR.form {ok : Nat → Prop} {w : World} {v : Value} {l : List PT} (h : PairsR ok w v l) : ∃ a c, v = .slice a l.length c ∧ l.length ≤ c ∧ c ≤ maxLen := by
  obtain ⟨a, c, e, h1, h2, -⟩ := h
  exact ⟨a, c, e, h1, h2⟩
theorem KidsD.form {ok : Nat → Prop} {w : World} : ∀ {d : Nat} {v : Value} {l : List ET}, KidsD ok w d v l → ∃ a c, v = .slice a l.length c ∧ l.length ≤ c ∧ c ≤ maxLen
  | 0, _, _, h => h.elim
  | d + 1, v, l, h => by
    obtain ⟨a, c, e, h1, h2, -⟩ := h
    exact ⟨a, c, e, h1, h2⟩
theorem KidsD.up {ok : Nat → Prop} {w : World} : ∀ {d : Nat} {v : Value} {l : List ET}, KidsD ok w d v l → KidsD ok w (d + 1) v l
  | 0, _, _, h => h.elim
  | d + 1, v, l, h => by
    obtain ⟨a, c, e, h1, h2, h3, h4⟩ := h
    refine ⟨a, c, e, h1, h2, h3, fun hp => ?_⟩
    obtain ⟨b, o, ha, hlt, ho, hx⟩ := h4 hp
    refine ⟨b, o, ha, hlt, ho, fun k hk => ?_⟩
    obtain ⟨av, kv, hc, hp1, hk1⟩ := hx k hk
    exact ⟨av, kv, hc, hp1, hk1.up⟩
theorem KidsD.ups {ok : Nat → Prop} {w : World} {v : Value} {l : List ET} (m : Nat) : ∀ {d : Nat}, KidsD ok w d v l → KidsD ok w (d + m) v l := by
  induction m with
  | zero => intro d h; exact h
  | succ m ih => intro d h; exact (ih h).up

section
variable {H : Type} {enc : TypeId × Value → H} {w : World} {base : Nat} {held : Bool}
theorem oneT {P : Program} {fs : Array Field} (h : oneCellFields P fs = true) (j : Nat) (f : Field) (hf : fs[j]? = some f) : f.offset = j ∧ P.cellsOf f.type = 1 := hone_of h j f hf
theorem cells5_openT {P : Program} {t : TypeId} {spare : Nat → Bool} {fuel : Nat} {f0 f1 f2 f3 f4 : Field} {c0 c1 c2 c3 c4 : Value} {x : DataW H × List MemPlace} (hs : P.underlying t = some (.struct #[f0, f1, f2, f3, f4])) (hone : oneCellFields P #[f0, f1, f2, f3, f4] = true)
    (h : DataW.trod enc P w base spare held fuel t [c0, c1, c2, c3, c4] = some x) :
    ∃ (y0 y1 y2 y3 y4 : DataW H × List MemPlace) (n : Nat), fuel = n + 1 ∧
      DataW.trod enc P w base spare held n f0.type [c0] = some y0 ∧ DataW.trod enc P w base spare held n f1.type [c1] = some y1 ∧ DataW.trod enc P w base spare held n f2.type [c2] = some y2 ∧ DataW.trod enc P w base spare held n f3.type [c3] = some y3 ∧ DataW.trod enc P w base spare held n f4.type [c4] = some y4 := by
  obtain ⟨xs, n, hf, hx, _, hlen, hg⟩ := DataW.trod_struct hs h
  obtain ⟨o0, k0⟩ := oneT hone 0 f0 rfl
  obtain ⟨o1, k1⟩ := oneT hone 1 f1 rfl
  obtain ⟨o2, k2⟩ := oneT hone 2 f2 rfl
  obtain ⟨o3, k3⟩ := oneT hone 3 f3 rfl
  obtain ⟨o4, k4⟩ := oneT hone 4 f4 rfl
  match xs, hlen with
  | [y0, y1, y2, y3, y4], _ =>
    exact ⟨y0, y1, y2, y3, y4, n, hf, by simpa [o0, k0] using hg 0 f0 rfl, by simpa [o1, k1] using hg 1 f1 rfl, by simpa [o2, k2] using hg 2 f2 rfl, by simpa [o3, k3] using hg 3 f3 rfl, by simpa [o4, k4] using hg 4 f4 rfl⟩
theorem cells3_openT {P : Program} {t : TypeId} {spare : Nat → Bool} {fuel : Nat} {f0 f1 f2 : Field} {c0 c1 c2 : Value} {x : DataW H × List MemPlace} (hs : P.underlying t = some (.struct #[f0, f1, f2])) (hone : oneCellFields P #[f0, f1, f2] = true)
    (h : DataW.trod enc P w base spare held fuel t [c0, c1, c2] = some x) :
    ∃ (y0 y1 y2 : DataW H × List MemPlace) (n : Nat), fuel = n + 1 ∧
      DataW.trod enc P w base spare held n f0.type [c0] = some y0 ∧ DataW.trod enc P w base spare held n f1.type [c1] = some y1 ∧ DataW.trod enc P w base spare held n f2.type [c2] = some y2 := by
  obtain ⟨xs, n, hf, hx, _, hlen, hg⟩ := DataW.trod_struct hs h
  obtain ⟨o0, k0⟩ := oneT hone 0 f0 rfl
  obtain ⟨o1, k1⟩ := oneT hone 1 f1 rfl
  obtain ⟨o2, k2⟩ := oneT hone 2 f2 rfl
  match xs, hlen with
  | [y0, y1, y2], _ =>
    exact ⟨y0, y1, y2, n, hf, by simpa [o0, k0] using hg 0 f0 rfl, by simpa [o1, k1] using hg 1 f1 rfl, by simpa [o2, k2] using hg 2 f2 rfl⟩
theorem list_ofT {α : Type} {P : Nat → α → Prop} : ∀ n, (∀ i, i < n → ∃ s, P i s) → ∃ l : List α, l.length = n ∧ ∀ i (h : i < l.length), P i l[i]
  | 0, _ => ⟨[], rfl, fun i h => by simp at h⟩
  | n + 1, h => by
    obtain ⟨l, hl, hp⟩ := list_ofT n fun i hi => h i (by omega)
    obtain ⟨s, hs⟩ := h n (by omega)
    refine ⟨l ++ [s], by simp [hl], fun i hi => ?_⟩
    by_cases hin : i < l.length
    · rw [List.getElem_append_left hin]; exact hp i hin
    · have : i = n := by simp at hi; omega
      subst this
      rw [List.getElem_append_right (by omega)]
      simp only [hl, Nat.sub_self, List.getElem_cons_zero]
      exact hs
abbrev Any : Nat → Prop := fun _ => True
/-- Attributes given as an argument. -/
theorem pairs_open {fuel : Nat} {c : Value} {x : DataW H × List MemPlace} (h : DataW.trod enc Tryz.prog w base (fun _ => true) held fuel 24 [c] = some x) : ∃ l, PairsR Any w c l := by
  have h3 : Tryz.prog.cellsOf 58 = 3 := by kernel_rfl
  rcases DataW.trod_slice Tryz.underlying24 h with ⟨hcs, _⟩ | ⟨a, len, cap, elems, rest, n, hf, hcs, rfl, hb, hl, hm, hlen, hel, hsp, hns⟩
  · simp only [List.cons.injEq, and_true] at hcs
    subst hcs
    exact ⟨[], PairsR.nil _ w⟩
  · simp only [List.cons.injEq, and_true] at hcs
    subst hcs
    have hi' : ∀ i, i < len → ∃ s : PT, w.cell? (a.add (i * 3)) = some (.string s.1) ∧ w.cell? (a.add (i * 3 + 1)) = some (.string s.2.1) ∧ w.cell? (a.add (i * 3 + 2)) = some (.string s.2.2) := fun i hil => by
      have key := hel i hil
      rw [List.getElem?_eq_getElem (by omega)] at key
      obtain ⟨cs', hc, ht⟩ := Option.bind_eq_some_iff.1 key
      rw [h3] at hc
      obtain ⟨_, hcl, hat⟩ := World.cells?_some hc
      match cs', hcl with
      | [c0, c1, c2], _ =>
        obtain ⟨y0, y1, y2, n2, hf2, t0, t1, t2⟩ := cells3_openT Tryz.underlying58 (by kernel_rfl) ht
        obtain ⟨s0, e0, _, w0⟩ := DataW.trod_string Tryz.underlying9 t0
        obtain ⟨s1, e1, _, w1⟩ := DataW.trod_string Tryz.underlying9 t1
        obtain ⟨s2, e2, _, w2⟩ := DataW.trod_string Tryz.underlying9 t2
        simp only [List.cons.injEq, and_true] at e0 e1 e2
        subst e0 e1 e2
        refine ⟨(s0, s1, s2), by have := hat 0 (by omega); rw [Go.Deep.add_add, Nat.add_zero] at this; exact this, ?_, ?_⟩
        · rw [← Go.Deep.add_add]; exact hat 1 (by omega)
        · rw [← Go.Deep.add_add]; exact hat 2 (by omega)
    obtain ⟨l, hll, hp⟩ := list_ofT len hi'
    subst hll
    refine ⟨l, some a, cap, rfl, hl, hm, by simp, fun h0 => ?_⟩
    obtain ⟨b, off, spot⟩ := a
    obtain ⟨q0, _⟩ := hp 0 h0
    have hspot : spot = none := by simpa [Addr.add] using World.cell?_spot q0
    subst hspot
    refine ⟨b, off, rfl, ?_, trivial, fun k hk => ?_⟩
    · have := World.block_lt_of_cell? w _ q0
      simpa [Addr.add] using this
    · obtain ⟨q0, q1, q2⟩ := hp k hk
      rw [Addr.add_lit] at q0 q1 q2
      exact ⟨q0, q1, q2⟩
/-- Elements given as an argument. -/
theorem kids_open : ∀ (fuel : Nat) {c : Value} {x : DataW H × List MemPlace}, DataW.trod enc Tryz.prog w base (fun _ => true) held fuel 25 [c] = some x → ∃ l, KidsD Any w (fuel + 1) c l := by
  intro fuel
  induction fuel using Nat.strongRecOn with
  | _ fuel ih =>
    intro c x h
    have h5 : Tryz.prog.cellsOf 27 = 5 := by kernel_rfl
    rcases DataW.trod_slice Tryz.underlying25 h with ⟨hcs, _⟩ | ⟨a, len, cap, elems, rest, n, hf, hcs, rfl, hb, hl, hm, hlen, hel, hsp, hns⟩
    · simp only [List.cons.injEq, and_true] at hcs
      subst hcs
      exact ⟨[], KidsD.nil _ w fuel⟩
    · simp only [List.cons.injEq, and_true] at hcs
      subst hcs
      have hi' : ∀ i, i < len → ∃ s : ET, ∃ av kv, (w.cell? (a.add (i * 5)) = some (.string s.space) ∧ w.cell? (a.add (i * 5 + 1)) = some (.string s.name) ∧ w.cell? (a.add (i * 5 + 2)) = some av ∧ w.cell? (a.add (i * 5 + 3)) = some kv ∧ w.cell? (a.add (i * 5 + 4)) = some (.string s.text)) ∧
          PairsR Any w av s.attrs ∧ KidsD Any w fuel kv s.kids := fun i hil => by
        have key := hel i hil
        rw [List.getElem?_eq_getElem (by omega)] at key
        obtain ⟨cs', hc, ht⟩ := Option.bind_eq_some_iff.1 key
        rw [h5] at hc
        obtain ⟨_, hcl, hat⟩ := World.cells?_some hc
        match cs', hcl with
        | [c0, c1, c2, c3, c4], _ =>
          obtain ⟨y0, y1, y2, y3, y4, n2, hf2, t0, t1, t2, t3, t4⟩ := cells5_openT Tryz.underlying27 (by kernel_rfl) ht
          obtain ⟨s0, e0, _, w0⟩ := DataW.trod_string Tryz.underlying9 t0
          obtain ⟨s1, e1, _, w1⟩ := DataW.trod_string Tryz.underlying9 t1
          obtain ⟨s4, e4, _, w4⟩ := DataW.trod_string Tryz.underlying9 t4
          simp only [List.cons.injEq, and_true] at e0 e1 e4
          subst e0 e1 e4
          obtain ⟨attrs, hp⟩ := pairs_open t2
          obtain ⟨kids, hk⟩ := ih n2 (by omega) t3
          have hd : KidsD Any w fuel c3 kids := by
            have := hk.ups (fuel - (n2 + 1))
            rwa [show n2 + 1 + (fuel - (n2 + 1)) = fuel by omega] at this
          refine ⟨.mk s0 s1 attrs kids s4, c2, c3, ⟨by have := hat 0 (by omega); rw [Go.Deep.add_add, Nat.add_zero] at this; exact this, ?_, ?_, ?_, ?_⟩, hp, hd⟩
          · rw [← Go.Deep.add_add]; exact hat 1 (by omega)
          · rw [← Go.Deep.add_add]; exact hat 2 (by omega)
          · rw [← Go.Deep.add_add]; exact hat 3 (by omega)
          · rw [← Go.Deep.add_add]; exact hat 4 (by omega)
      obtain ⟨l, hll, hp⟩ := list_ofT len hi'
      subst hll
      refine ⟨l, some a, cap, rfl, hl, hm, by simp, fun h0 => ?_⟩
      obtain ⟨b, off, spot⟩ := a
      obtain ⟨av, kv, ⟨q0, _⟩, _⟩ := hp 0 h0
      have hspot : spot = none := by simpa [Addr.add] using World.cell?_spot q0
      subst hspot
      refine ⟨b, off, rfl, ?_, trivial, fun k hk => ?_⟩
      · have := World.block_lt_of_cell? w _ q0
        simpa [Addr.add] using this
      · obtain ⟨av, kv, ⟨q0, q1, q2, q3, q4⟩, hr⟩ := hp k hk
        rw [Addr.add_lit] at q0 q1 q2 q3 q4
        exact ⟨av, kv, ⟨q0, q1, q2, q3, q4⟩, hr⟩
end
end Go.Proofs.YtpcajjbdlfookaaGreatDoor

/- xmltree: whether an element is not great (dossierplain.Element): it answers, and what was there stays. -/
namespace Go.Proofs.YtpcajjbdlfookaaGreatDoor
open Go Go.RowKit Go.Deep
set_option linter.unusedVariables false
set_option linter.unusedSimpArgs false

theorem box_belT (w : World) (o : Obj) : Below w.heap.size w (w.alloc o) := (Below.refl _ _).alloc (Nat.le_refl _) _
theorem one_cellT {w : World} {b : Nat} {c0 : Value} {T : TypeId} (h : w.heap[b]? = some (.cells #[c0] T (0, 0))) : w.cell? ⟨b, 0, none⟩ = some c0 ∧ (∀ o, w.frozen? ⟨b, o, none⟩ = false) := by
  refine ⟨?_, fun o => ?_⟩ <;> simp [World.cell?, World.frozen?, h]
theorem set_cellT {w : World} {b : Nat} {c0 c1 : Value} {T : TypeId} (h : w.heap[b]? = some (.cells #[c0] T (0, 0))) : (w.setCell ⟨b, 0, none⟩ c1).heap[b]? = some (.cells #[c1] T (0, 0)) := by
  simp [World.setCell, Array.getElem?_modify, h]
/-- No list in it has more than 110 elements. -/
def okK : Nat → List ET → Prop
  | 0, _ => False
  | d + 1, l => l.length ≤ 110 ∧ ∀ k (h : k < l.length), l[k].attrs.length ≤ 110 ∧ okK d l[k].kids
def okE (d : Nat) (t : ET) : Prop := t.attrs.length ≤ 110 ∧ okK d t.kids
/-- It answers; if so, it is not great. -/
def AnsE (d : Nat) (t : ET) (e : Ending) : Prop := ∃ q : Bool, e = .returned (.bool q) ∧ (q = true → okE d t)

set_option maxRecDepth 100000 in
set_option maxHeartbeats 2000000 in
theorem element_c (W0 : World) : ∀ (d : Nat) (w : World) (v : Value) (t : ET) (dep b : Nat) (u : Int), ElemD Any W0 d v t → Below W0.heap.size W0 w → W0.heap.size ≤ b → w.heap[b]? = some (.cells #[.int .i64 u] 3 (0, 0)) → dep ≤ 41 →
    Calls Tryz.prog 23 #[v, .int .i64 dep, .pointer (some ⟨b, 0, none⟩)] w fun e w' => AnsE d t e ∧ (∃ u', w'.heap[b]? = some (.cells #[.int .i64 u'] 3 (0, 0))) ∧ Below W0.heap.size W0 w' := by
  intro d
  induction d with
  | zero => rintro w v t dep b u ⟨av, kv, _, _, h⟩; exact h.elim
  | succ d ih =>
    intro w v t dep b u h hb0 hbb hbx hdep
    have HIH := Lib.hid ih
    have HB0 := Lib.hid hb0
    have HBB := Lib.hid hbb
    obtain ⟨av, kv, rfl, hpr, hkd⟩ := h
    obtain ⟨pa, ca, hav, _, hcm0⟩ := hpr.form
    obtain ⟨N, hN⟩ : ∃ N, N = t.attrs.length := ⟨_, rfl⟩
    rw [← hN] at hav
    subst hav
    obtain ⟨a, c, hv, hlc, hcm, hnone, hrows⟩ := hkd
    obtain ⟨M, hM⟩ : ∃ M, M = t.kids.length := ⟨_, rfl⟩
    rw [← hM] at hv hlc
    subst hv
    have HROW := Lib.hid hrows
    have HN := Lib.hid hN
    have HM := Lib.hid hM
    have hn : M ≤ 9223372036854775807 := by unfold maxLen at hcm; omega
    have hnN : N ≤ 9223372036854775807 := by
      obtain ⟨_, c', e, q1, q2⟩ := hpr.form
      unfold maxLen at q2
      omega
    have hw1 : IntKind.i64.wrap ((dep : Int) + 1) = (dep : Int) + 1 := by rw [IntKind.wrap_i64]; omega
    obtain ⟨S1, hS1⟩ : ∃ S, S = t.space := ⟨_, rfl⟩
    obtain ⟨S2, hS2⟩ : ∃ S, S = t.name := ⟨_, rfl⟩
    obtain ⟨S3, hS3⟩ : ∃ S, S = t.text := ⟨_, rfl⟩
    rw [← hS1, ← hS2, ← hS3]
    obtain ⟨u1, hu1⟩ : ∃ u1, IntKind.i64.wrap (u - 1) = u1 := ⟨_, rfl⟩
    obtain ⟨b0, bz⟩ := one_cellT hbx
    have hltb : b < w.heap.size := (Array.getElem?_eq_some_iff.1 hbx).1
    have HX3 := Lib.hid (show ((w.setCell ⟨b, 0, none⟩ (.int .i64 u1)).alloc (.cells #[.string S1, .string S2, .slice pa N ca, .slice a M c, .string S3] 27)).heap[b]? = some (.cells #[.int .i64 u1] 3 (0, 0)) from (Below.heap_alloc _ _ b (by simpa [World.size_setCell] using hltb)).trans (set_cellT hbx))
    have HB3 := Lib.hid (show Below W0.heap.size W0 ((w.setCell ⟨b, 0, none⟩ (.int .i64 u1)).alloc (.cells #[.string S1, .string S2, .slice pa N ca, .slice a M c, .string S3] 27)) from (hb0.setCell (p := ⟨b, 0, none⟩) hbb _).alloc (by have := hb0.size; simpa [World.size_setCell] using this) _)
    clear ih hb0 hbb hlc hcm hnone hrows hpr hN hM hS1 hS2 hS3 hbx hcm0
    by_cases hd4 : 40 < dep
    · have hq : decide ((40 : Int) < (dep : Int)) = true := decide_eq_true (by omega)
      go_enter Tryz.func23, Tryz.ntmps23
      go_wp2_with fail
      go_ret
      exact ⟨⟨_, rfl, by simp⟩, ⟨_, HX3.out⟩, HB3.out⟩
    have hq : decide ((40 : Int) < (dep : Int)) = false := decide_eq_false (by omega)
    by_cases hneg : u1 < 0
    · have hqn : decide (u1 < 0) = true := decide_eq_true hneg
      go_enter Tryz.func23, Tryz.ntmps23
      go_wp2_with fail
      go_ret
      exact ⟨⟨_, rfl, by simp⟩, ⟨_, HX3.out⟩, HB3.out⟩
    have hqn : decide (u1 < 0) = false := decide_eq_false hneg
    by_cases hbA : 110 < N
    · have hqa : decide ((110 : Int) < (N : Int)) = true := decide_eq_true (by omega)
      go_enter Tryz.func23, Tryz.ntmps23
      go_wp2_with fail
      go_ret
      exact ⟨⟨_, rfl, by simp⟩, ⟨_, HX3.out⟩, HB3.out⟩
    have hqa : decide ((110 : Int) < (N : Int)) = false := decide_eq_false (by omega)
    by_cases hbK : 110 < M
    · have hqk : decide ((110 : Int) < (M : Int)) = true := decide_eq_true (by omega)
      go_enter Tryz.func23, Tryz.ntmps23
      go_wp2_with fail
      go_ret
      exact ⟨⟨_, rfl, by simp⟩, ⟨_, HX3.out⟩, HB3.out⟩
    have hqk : decide ((110 : Int) < (M : Int)) = false := decide_eq_false (by omega)
    go_enter Tryz.func23, Tryz.ntmps23
    go_wp2_with fail
    go_loopw [37] (fun i wr => ∃ (k : Nat) (u : Int), k ≤ M ∧ i = .int .i64 k ∧ wr.heap[b]? = some (.cells #[.int .i64 u] 3 (0, 0)) ∧ Below W0.heap.size W0 wr ∧ (∀ j (h : j < t.kids.length), j < k → t.kids[j].attrs.length ≤ 110 ∧ okK d t.kids[j].kids)) (fun i _ => M - (intOf i).toNat)
    case atStart => exact ⟨0, u1, by omega, rfl, HX3.out, HB3.out, fun j _ h => absurd h (by omega)⟩
    case round =>
      obtain ⟨k, u, hk, rfl, hbx, hbr, hall⟩ := hrel
      have HQ := Lib.hid hbx
      have HBR := Lib.hid hbr
      have HALL := Lib.hid hall
      clear hbx hbr hall
      by_cases hlt : k < M
      · obtain ⟨g, o, ha, hgl, -, hx⟩ := HROW.out (by rw [← HM.out]; omega)
        have hkl : k < t.kids.length := by rw [← HM.out]; exact hlt
        obtain ⟨av, kv, ⟨c0, c1, c2, c3, c4⟩, hpr, hkd⟩ := hx k hkl
        subst ha
        obtain ⟨ka, kc, hkv, -⟩ := hkd.form
        obtain ⟨ra, rc, hrv, -⟩ := hpr.form
        have HED := Lib.hid (show ElemD Any W0 d (.agg #[.string t.kids[k].space, .string t.kids[k].name, av, kv, .string t.kids[k].text]) t.kids[k] from ⟨av, kv, rfl, hpr, hkd⟩)
        rw [hrv, hkv] at HED
        rw [hkv] at c3
        rw [hrv] at c2
        have e0 := (HBR.out.cell (p := ⟨g, o + k * 5, none⟩) hgl).trans c0
        have e1 := (HBR.out.cell (p := ⟨g, o + k * 5 + 1, none⟩) hgl).trans c1
        have e2 := (HBR.out.cell (p := ⟨g, o + k * 5 + 2, none⟩) hgl).trans c2
        have e3 := (HBR.out.cell (p := ⟨g, o + k * 5 + 3, none⟩) hgl).trans c3
        have e4 := (HBR.out.cell (p := ⟨g, o + k * 5 + 4, none⟩) hgl).trans c4
        have HNX := Lib.hid (fun (hok : okE d t.kids[k]) => show ∀ j (h : j < t.kids.length), j < k + 1 → t.kids[j].attrs.length ≤ 110 ∧ okK d t.kids[j].kids from fun j hj hjk => by
          by_cases hjk2 : j < k
          · exact HALL.out j hj hjk2
          · obtain rfl : j = k := by omega
            exact hok)
        generalize t.kids[k] = x at *
        obtain ⟨nm, sp, at2, ki, tx⟩ := x
        dsimp only [ET.space, ET.name, ET.text, ET.attrs, ET.kids] at e0 e1 e2 e3 e4 HED
        generalize hkn : ki.length = kn at *
        generalize hrn : at2.length = rn at *
        have HB4 := Lib.hid (show Below W0.heap.size W0 (wr.alloc (.cells #[.string nm, .string sp, .slice ra rn rc, .slice ka kn kc, .string tx] 27)) from HBR.out.alloc HBR.out.size _)
        have hltb2 : b < wr.heap.size := (Array.getElem?_eq_some_iff.1 HQ.out).1
        have HX4 := Lib.hid (show (wr.alloc (.cells #[.string nm, .string sp, .slice ra rn rc, .slice ka kn kc, .string tx] 27)).heap[b]? = some (.cells #[.int .i64 u] 3 (0, 0)) from (Below.heap_alloc _ _ b hltb2).trans HQ.out)
        have HREC := Lib.hid (HIH.out (wr.alloc (.cells #[.string nm, .string sp, .slice ra rn rc, .slice ka kn kc, .string tx] 27)) _ _ (dep + 1) b u HED.out HB4.out HBB.out HX4.out (by omega))
        rw [show (((dep + 1 : Nat) : Int)) = (dep : Int) + 1 by omega] at HREC
        clear hx c0 c1 c2 c3 c4 hkd hpr hkv hrv hkn hrn hkl b0 bz
        go_wp2_with fail
        refine (HREC.out).mono ?_
        rintro e w4 ⟨⟨q, rfl, hq2⟩, ⟨u4, hbx4⟩, hb4⟩
        have HX5 := Lib.hid hbx4
        have HB5 := Lib.hid hb4
        have HQ2 := Lib.hid hq2
        clear hbx4 hb4 e0 e1 e2 e3 e4 hq2
        cases q
        · go_wp2_with fail
          go_ret
          exact ⟨⟨_, rfl, by simp⟩, ⟨_, HX5.out⟩, HB5.out⟩
        · go_wp2_with fail
          go_roundw
          case rel => exact ⟨k + 1, u4, by omega, by go_num, HX5.out, HB5.out, HNX.out (HQ2.out (by first | rfl | trivial))⟩
          case measure => simp [intOf]; omega
      · clear b0 bz
        go_wp2_with fail
        go_ret
        exact ⟨⟨_, rfl, fun _ => ⟨by rw [← HN.out]; omega, by rw [← HM.out]; omega, fun j hj => HALL.out j hj (by rw [← HM.out] at hj; omega)⟩⟩, ⟨_, HQ.out⟩, HBR.out⟩
theorem elementP_c (w : World) (d : Nat) (v : Value) (t : ET) (h : ElemD Any w d v t) : Calls Tryz.prog 11 #[v, .int .i64 0] w fun e w' => AnsE d t e ∧ Below w.heap.size w w' := by
  have h' := h
  obtain ⟨av, kv, rfl, hpr, hkd⟩ := h
  obtain ⟨pa, ca, hav, -⟩ := hpr.form
  obtain ⟨ka, kc, hkv, -⟩ := hkd.form
  subst hav hkv
  obtain ⟨N, hN⟩ : ∃ N, N = t.attrs.length := ⟨_, rfl⟩
  obtain ⟨M, hM⟩ : ∃ M, M = t.kids.length := ⟨_, rfl⟩
  obtain ⟨S1, hS1⟩ : ∃ S, S = t.space := ⟨_, rfl⟩
  obtain ⟨S2, hS2⟩ : ∃ S, S = t.name := ⟨_, rfl⟩
  obtain ⟨S3, hS3⟩ : ∃ S, S = t.text := ⟨_, rfl⟩
  rw [← hN, ← hM, ← hS1, ← hS2, ← hS3] at h' ⊢
  have HC := Lib.hid (element_c w d ((w.alloc (.cells #[.string S1, .string S2, .slice pa N ca, .slice ka M kc, .string S3] 27)).alloc (.cells #[.int .i64 400] 3)) _ t 0 (w.heap.size + 1) 400 h' ((box_belT w _).trans ((box_belT _ _).mono (by simp))) (by omega) (by have := heap_alloc_new (w.alloc (.cells #[.string S1, .string S2, .slice pa N ca, .slice ka M kc, .string S3] 27)) (.cells #[.int .i64 400] 3); rwa [World.size_alloc] at this) (by omega))
  clear h' hpr hkd hN hM hS1 hS2 hS3
  go_enter Tryz.func11, Tryz.ntmps11
  go_wp2_with fail
  refine (HC.out).mono ?_
  rintro e w4 ⟨⟨q, rfl, hq⟩, -, hb4⟩
  have HB4 := Lib.hid hb4
  have HQ := Lib.hid hq
  clear hb4 hq
  go_wp2_with fail
  go_ret
  exact ⟨⟨_, rfl, HQ.out⟩, HB4.out⟩
end Go.Proofs.YtpcajjbdlfookaaGreatDoor

/- xmltree: Get, both sides. -/
namespace Go.Proofs.YtpcajjbdlfookaaGreatDoor
open Go Go.RowKit Go.Deep
set_option linter.unusedVariables false
set_option linter.unusedSimpArgs false

/-- The attribute without a namespace. -/
def getM (name : ByteArray) : List PT → Option ByteArray
  | [] => none
  | a :: r => if a.1 = ⟨#[]⟩ ∧ a.2.1 = name then some a.2.2 else getM name r
theorem get_hit {name : ByteArray} {l : List PT} {k : Nat} (h : k < l.length) (h1 : l[k].1 = ⟨#[]⟩) (h2 : l[k].2.1 = name) : getM name (l.drop k) = some l[k].2.2 := by
  rw [List.drop_eq_getElem_cons h, getM, if_pos ⟨h1, h2⟩]
theorem get_miss {name : ByteArray} {l : List PT} {k : Nat} (h : k < l.length) (h1 : ¬ (l[k].1 = ⟨#[]⟩ ∧ l[k].2.1 = name)) : getM name (l.drop k) = getM name (l.drop (k + 1)) := by
  rw [List.drop_eq_getElem_cons h, getM, if_neg h1]
/-- How Get ends. -/
def GetEnd (R : Option ByteArray) (e : Ending) : Prop := match R with
  | some v => e = .returned (.tuple #[.string v, .bool true])
  | none => e = .returned (.tuple #[.string ⟨#[]⟩, .bool false])
theorem toList_inj {a b : ByteArray} (h : a.toList = b.toList) : a = b := by
  rw [ByteArray.toList_eq, ByteArray.toList_eq] at h
  exact ByteArray.ext (Array.toList_inj.1 h)
end Go.Proofs.YtpcajjbdlfookaaGreatDoor

/- xmltree: the reference: Same, of elements that read alike. -/
namespace Go.Proofs.YtpcajjbdlfookaaGreatDoor
open Go Go.RowKit Go.Deep
set_option linter.unusedVariables false
set_option linter.unusedSimpArgs false

theorem fieldsP : (Tryz.prog.fieldsOf 58).toList.map (fun f => (f.name != "_", f.type, f.offset)) = [(true, 9, 0), (true, 9, 1), (true, 9, 2)] := by kernel_rfl
theorem structP : Tryz.prog.underlying 58 = some (.struct (Tryz.prog.fieldsOf 58)) := by kernel_rfl
theorem heldP : Tryz.prog.stoodInHeld 58 = false := by kernel_rfl
theorem run_neqP (w : World) (s t u : ByteArray) : (binOp .neq 58 (.agg #[.string s, .string t, .string u]) (.agg #[.string s, .string t, .string u])).run Tryz.prog w = .ok (.bool false) w := by
  rw [run_neq_struct, run_equalIn_agg _ _ _ _ _ structP heldP]
  have hf := fieldsP
  generalize (Tryz.prog.fieldsOf 58).toList = fs at hf
  rcases fs with _ | ⟨f0, _ | ⟨f1, _ | ⟨f2, _ | ⟨f3, r⟩⟩⟩⟩
  · simp at hf
  · simp at hf
  · simp at hf
  · simp only [List.map_cons, List.map_nil, List.cons.injEq, Prod.mk.injEq, and_true] at hf
    obtain ⟨⟨n0, t0, o0⟩, ⟨n1, t1, o1⟩, n2, t2, o2⟩ := hf
    simp only [Op.eqFields, t0, t1, t2, o0, o1, o2]
    simp only [bne_iff_ne] at n0 n1 n2
    rw [if_pos n0, if_pos n1, if_pos n2]
    simp [go_sem, part]
  · simp at hf
theorem PairsR.at {ok : Nat → Prop} {w : World} {p : Option Addr} {n c : Nat} {l : List PT} (h : PairsR ok w (.slice p n c) l) {k : Nat} (hk : k < l.length) : ∃ b o, p = some ⟨b, o, none⟩ ∧ w.cell? ⟨b, o + k * 3, none⟩ = some (.string l[k].1) ∧ w.cell? ⟨b, o + k * 3 + 1, none⟩ = some (.string l[k].2.1) ∧ w.cell? ⟨b, o + k * 3 + 2, none⟩ = some (.string l[k].2.2) := by
  obtain ⟨a, c', e, h1, h2, h3, h4⟩ := h
  cases e
  obtain ⟨b, o, ha, _, _, hx⟩ := h4 (by omega)
  exact ⟨b, o, ha, hx k hk⟩
/-- One kid: its cells, and that it reads as it should. -/
theorem KidsD.at {ok : Nat → Prop} {w : World} {d : Nat} {p : Option Addr} {n c : Nat} {l : List ET} (h : KidsD ok w (d + 1) (.slice p n c) l) {k : Nat} (hk : k < l.length) : ∃ b o pa ca pk ck, p = some ⟨b, o, none⟩ ∧ b < w.heap.size ∧ ok b ∧
    w.cell? ⟨b, o + k * 5, none⟩ = some (.string l[k].space) ∧ w.cell? ⟨b, o + k * 5 + 1, none⟩ = some (.string l[k].name) ∧ w.cell? ⟨b, o + k * 5 + 2, none⟩ = some (.slice pa l[k].attrs.length ca) ∧ w.cell? ⟨b, o + k * 5 + 3, none⟩ = some (.slice pk l[k].kids.length ck) ∧ w.cell? ⟨b, o + k * 5 + 4, none⟩ = some (.string l[k].text) ∧
    ElemD ok w d (.agg #[.string l[k].space, .string l[k].name, .slice pa l[k].attrs.length ca, .slice pk l[k].kids.length ck, .string l[k].text]) l[k] := by
  obtain ⟨a, c', e, h1, h2, h3, h4⟩ := h
  cases e
  obtain ⟨b, o, ha, hlt, ho, hx⟩ := h4 (by omega)
  obtain ⟨av, kv, ⟨c0, c1, c2, c3, c4⟩, hp, hk1⟩ := hx k hk
  obtain ⟨pa, ca, hav, -⟩ := hp.form
  obtain ⟨pk, ck, hkv, -⟩ := hk1.form
  subst hav hkv
  exact ⟨b, o, pa, ca, pk, ck, ha, hlt, ho, c0, c1, c2, c3, c4, _, _, rfl, hp, hk1⟩
theorem cellsE5 {w : World} {b : Nat} {c0 c1 c2 c3 c4 : Value} {T : TypeId} (h : w.heap[b]? = some (.cells #[c0, c1, c2, c3, c4] T (0, 0))) : w.cell? ⟨b, 0, none⟩ = some c0 ∧ w.cell? ⟨b, 1, none⟩ = some c1 ∧ w.cell? ⟨b, 2, none⟩ = some c2 ∧ w.cell? ⟨b, 3, none⟩ = some c3 ∧ w.cell? ⟨b, 4, none⟩ = some c4 ∧ (∀ o, w.frozen? ⟨b, o, none⟩ = false) := by
  refine ⟨?_, ?_, ?_, ?_, ?_, fun o => ?_⟩ <;> simp [World.cell?, World.frozen?, h]

set_option maxRecDepth 100000 in
set_option maxHeartbeats 4000000 in
theorem rsameE_c {ok ok' : Nat → Prop} : ∀ (d : Nat) (w : World) (v u : Value) (t : ET), ElemD ok w d v t → ElemD ok' w d u t → Calls Tryz.prog 8 #[v, u] w fun e w' => e = .returned (.bool true) ∧ Below w.heap.size w w' := by
  intro d
  induction d with
  | zero => rintro w v u t ⟨av, kv, _, _, h⟩; exact h.elim
  | succ d ih =>
    intro w v u t h1 h2
    have HIH := Lib.hid ih
    obtain ⟨av, kv, rfl, hp1, hk1⟩ := h1
    obtain ⟨av2, kv2, rfl, hp2, hk2⟩ := h2
    obtain ⟨pa, ca, hav, _, hma⟩ := hp1.form
    obtain ⟨pk, ck, hkv, _, hmk⟩ := hk1.form
    obtain ⟨pa2, ca2, hav2, -⟩ := hp2.form
    obtain ⟨pk2, ck2, hkv2, -⟩ := hk2.form
    subst hav hkv hav2 hkv2
    have hnN : t.attrs.length ≤ 9223372036854775807 := by unfold maxLen at hma; omega
    have hnM : t.kids.length ≤ 9223372036854775807 := by unfold maxLen at hmk; omega
    obtain ⟨S1, hS1⟩ : ∃ S, S = t.space := ⟨_, rfl⟩
    obtain ⟨S2, hS2⟩ : ∃ S, S = t.name := ⟨_, rfl⟩
    obtain ⟨S3, hS3⟩ : ∃ S, S = t.text := ⟨_, rfl⟩
    obtain ⟨lp, hlp⟩ : ∃ l, l = t.attrs := ⟨_, rfl⟩
    obtain ⟨lk, hlk⟩ : ∃ l, l = t.kids := ⟨_, rfl⟩
    rw [← hS1, ← hS2, ← hS3]
    rw [← hlp] at hp1 hp2 hnN
    rw [← hlk] at hk1 hk2 hnM
    rw [← hlp, ← hlk]
    obtain ⟨N, hN⟩ : ∃ N, N = lp.length := ⟨_, rfl⟩
    obtain ⟨M, hM⟩ : ∃ M, M = lk.length := ⟨_, rfl⟩
    rw [← hN] at hp1 hp2 hnN ⊢
    rw [← hM] at hk1 hk2 hnM ⊢
    have HP1 := Lib.hid hp1
    have HP2 := Lib.hid hp2
    have HK1 := Lib.hid hk1
    have HK2 := Lib.hid hk2
    have HN := Lib.hid hN
    have HM := Lib.hid hM
    have q1 : ((N : Int) != (N : Int)) = false := by simp
    have q2 : ((M : Int) != (M : Int)) = false := by simp
    have q3 : (S1.toList == S1.toList) = true := by simp
    have q4 : (S2.toList == S2.toList) = true := by simp
    have q5 : (S3.toList == S3.toList) = true := by simp
    have b1 := box_belT w (.cells #[.string S1, .string S2, .slice pa N ca, .slice pk M ck, .string S3] 27)
    have b2 := box_belT (w.alloc (.cells #[.string S1, .string S2, .slice pa N ca, .slice pk M ck, .string S3] 27)) (.cells #[.string S1, .string S2, .slice pa2 N ca2, .slice pk2 M ck2, .string S3] 27)
    have HB0 := Lib.hid (b1.trans (b2.mono (by simp)))
    have HX0 := Lib.hid ((b2.block w.heap.size (by simp)).trans (heap_alloc_new w (.cells #[.string S1, .string S2, .slice pa N ca, .slice pk M ck, .string S3] 27)))
    have HX1 := Lib.hid (show ((w.alloc (.cells #[.string S1, .string S2, .slice pa N ca, .slice pk M ck, .string S3] 27)).alloc (.cells #[.string S1, .string S2, .slice pa2 N ca2, .slice pk2 M ck2, .string S3] 27)).heap[w.heap.size + 1]? = some (.cells #[.string S1, .string S2, .slice pa2 N ca2, .slice pk2 M ck2, .string S3] 27 (0, 0)) from by
      have := heap_alloc_new (w.alloc (.cells #[.string S1, .string S2, .slice pa N ca, .slice pk M ck, .string S3] 27)) (.cells #[.string S1, .string S2, .slice pa2 N ca2, .slice pk2 M ck2, .string S3] 27)
      rwa [World.size_alloc] at this)
    clear ih hp1 hp2 hk1 hk2 hN hM hS1 hS2 hS3 hlp hlk hma hmk b1 b2
    go_enter Tryz.func8, Tryz.ntmps8
    go_wp2_with fail
    go_loopw [47] (fun s44 wr => ∃ k : Nat, k ≤ N ∧ s44 = .int .i64 k ∧ Below w.heap.size w wr ∧ wr.heap[w.heap.size]? = some (.cells #[.string S1, .string S2, .slice pa N ca, .slice pk M ck, .string S3] 27 (0, 0)) ∧ wr.heap[w.heap.size + 1]? = some (.cells #[.string S1, .string S2, .slice pa2 N ca2, .slice pk2 M ck2, .string S3] 27 (0, 0))) (fun s44 _ => N - (intOf s44).toNat)
    case atStart => exact ⟨0, by omega, rfl, HB0.out, HX0.out, HX1.out⟩
    case round =>
      obtain ⟨k, hk, rfl, hb, hx0, hx1⟩ := hrel
      have HB := Lib.hid hb
      have HY0 := Lib.hid hx0
      have HY1 := Lib.hid hx1
      obtain ⟨x0, x1, x2, x3, x4, xz⟩ := cellsE5 hx0
      obtain ⟨y0, y1, y2, y3, y4, yz⟩ := cellsE5 hx1
      by_cases hlt : k < N
      · have hd : decide ((k : Int) < (N : Int)) = true := decide_eq_true (by omega)
        have hkl : k < lp.length := by rw [← HN.out]; exact hlt
        obtain ⟨b, o, hp, d0, d1, d2⟩ := (HP1.out.below hb).at hkl
        obtain ⟨b', o', hp', e0, e1, e2⟩ := (HP2.out.below hb).at hkl
        subst hp hp'
        generalize lp[k] = x at *
        obtain ⟨s, n, u⟩ := x
        dsimp only at d0 d1 d2 e0 e1 e2
        have hneq := fun W => run_neqP W s n u
        clear hb hx0 hx1 hkl x0 x1 x3 x4 y0 y1 y3 y4
        go_wp2_with fail
        go_quiet (fail)
        go_wp2_with fail
        go_roundw
        case rel => exact ⟨k + 1, by omega, by go_num, Go.below_drewN HB.out _, HY0.out, HY1.out⟩
        case measure => simp [intOf]; omega
      · have hd : decide ((k : Int) < (N : Int)) = false := decide_eq_false (by omega)
        clear hb hx0 hx1 x0 x1 x2 x4 y0 y1 y2 y4
        go_wp2_with fail
        go_loopw [65] (fun s44 wr => ∃ k : Nat, k ≤ M ∧ s44 = .int .i64 k ∧ Below w.heap.size w wr ∧ wr.heap[w.heap.size]? = some (.cells #[.string S1, .string S2, .slice pa N ca, .slice pk M ck, .string S3] 27 (0, 0)) ∧ wr.heap[w.heap.size + 1]? = some (.cells #[.string S1, .string S2, .slice pa2 N ca2, .slice pk2 M ck2, .string S3] 27 (0, 0))) (fun s44 _ => M - (intOf s44).toNat)
        case atStart => exact ⟨0, by omega, rfl, HB.out, HY0.out, HY1.out⟩
        case round =>
          obtain ⟨k, hk, rfl, hb, hx0, hx1⟩ := hrel
          have HB := Lib.hid hb
          have HY0 := Lib.hid hx0
          have HY1 := Lib.hid hx1
          obtain ⟨x0, x1, x2, x3, x4, xz⟩ := cellsE5 hx0
          obtain ⟨y0, y1, y2, y3, y4, yz⟩ := cellsE5 hx1
          by_cases hlt : k < M
          · have hd : decide ((k : Int) < (M : Int)) = true := decide_eq_true (by omega)
            have hkl : k < lk.length := by rw [← HM.out]; exact hlt
            obtain ⟨b, o, pa, ca, pk, ck, hp, _, _, d0, d1, d2, d3, d4, hE⟩ := (HK1.out.below hb).at hkl
            obtain ⟨b', o', pa', ca', pk', ck', hp', _, _, e0, e1, e2, e3, e4, hE'⟩ := (HK2.out.below hb).at hkl
            subst hp hp'
            have HREC := Lib.hid (fun q => HIH.out (wr.drewN q) _ _ _ (hE.below (Go.below_drewN (Below.refl _ _) q)) (hE'.below (Go.below_drewN (Below.refl _ _) q)))
            have HRE0 := Lib.hid (HIH.out wr _ _ _ hE hE')
            generalize lk[k] = x at *
            obtain ⟨s, n, l1, l2, u⟩ := x
            dsimp only [ET.space, ET.name, ET.text, ET.attrs, ET.kids] at d0 d1 d2 d3 d4 e0 e1 e2 e3 e4 HREC HRE0
            generalize l1.length = n1 at *
            generalize l2.length = n2 at *
            clear hb hx0 hx1 hkl x0 x1 x2 x4 y0 y1 y2 y4 hE hE'
            go_wp2_with fail
            go_region_with (go_at_call 8; refine ((HREC.out _)).mono ?_; rintro e w2 ⟨rfl, hb2⟩; have hbq := (Go.below_drewN (Below.refl _ _) _).trans hb2; have HB2 := Lib.hid (HB.out.trans (hbq.mono HB.out.size)); have HZ0 := Lib.hid ((hbq.block _ (Array.getElem?_eq_some_iff.1 HY0.out).1).trans HY0.out); have HZ1 := Lib.hid ((hbq.block _ (Array.getElem?_eq_some_iff.1 HY1.out).1).trans HY1.out); clear hb2 hbq)
            all_goals
              go_wp2_with fail
              go_roundw
              case rel => exact ⟨k + 1, by omega, by go_num, HB2.out, HZ0.out, HZ1.out⟩
              case measure => simp [intOf]; omega
          · have hd : decide ((k : Int) < (M : Int)) = false := decide_eq_false (by omega)
            clear hb hx0 hx1 x0 x1 x2 x4 y0 y1 y2 y4
            go_wp2_with fail
            go_ret
            exact ⟨rfl, HB.out⟩
end Go.Proofs.YtpcajjbdlfookaaGreatDoor
