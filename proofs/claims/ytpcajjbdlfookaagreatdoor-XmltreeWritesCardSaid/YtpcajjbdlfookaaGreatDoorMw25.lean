/- xmllex: what the row lists of the world, and a world for the witness. -/
import Derived.Test.YtpcajjbdlfookaaGreatDoorMw24
import Derived.ShutString
import Derived.ChangeOld
import Derived.Shelf.Vars
import Derived.LaidLaws
import Derived.Test.YtpcajjbdlfookaaGreatDoorMw01
import Derived.Test.YtpcajjbdlfookaaGreatDoorProg
import Derived.Deep.Fields
import Derived.Deep.Slices
namespace Go.Proofs.YtpcajjbdlfookaaGreatDoor
open Go.Lib Go.RowKit
set_option linter.unusedVariables false

theorem tabs_mem {W : World} {L : List (String × DataW Unit)} (h : laidMet Tryz.prog L W) (m1 : ("unicode/utf8.first", Rows.laid_unicode_utf8_first) ∈ L) (m2 : ("unicode/utf8.acceptRanges", Rows.laid_unicode_utf8_acceptRanges) ∈ L) : Tabs W := by
  have h3 : VarReads Tryz.prog W "unicode/utf8.first" Lib.firstData := by rw [← first_is]; exact laidMet.reads h m1
  have h4 : VarReads Tryz.prog W "unicode/utf8.acceptRanges" Lib.acceptData := by rw [← accept_is]; exact laidMet.reads h m2
  refine ⟨fun c hc => ?_, fun i hi => ?_⟩
  · obtain ⟨g, t, cs, fuel, p, hg, hty, hvar, hd⟩ := h3
    obtain rfl := Option.some.inj (gFirst.symm.trans hg)
    obtain rfl := Option.some.inj (gFirstT.symm.trans hty)
    have hcs := cells_of_tab Tryz.underlying147 Tryz.underlying5 cells5 cellsFirst hd
    have := World.var?_cell hg hvar c
    rw [this, ← Array.getElem?_toList, hcs]
    simp [firstTab, hc]
  · obtain ⟨g, t, cs, fuel, p, hg, hty, hvar, hd⟩ := h4
    obtain rfl := Option.some.inj (gAcc.symm.trans hg)
    obtain rfl := Option.some.inj (gAccT.symm.trans hty)
    obtain ⟨fuel', d, q, hdi, he⟩ := array_elem Tryz.underlying150 hd i hi
    simp only [List.getElem?_map, List.getElem?_range hi, Option.map_some, Option.some.injEq] at hdi
    subst hdi
    rw [cellsAcc] at he
    have hcs := ints_of_struct Tryz.underlying149 (fun j f hj => by
      match j, hj with
      | 0, hj => simp at hj; subst hj; exact ⟨Tryz.underlying5, rfl, cells5⟩
      | 1, hj => simp at hj; subst hj; exact ⟨Tryz.underlying5, rfl, cells5⟩
      | j + 2, hj => simp at hj) (by rw [cellsAcc]; rfl) he
    have e0 := congrArg (·[0]?) hcs
    have e1 := congrArg (·[1]?) hcs
    simp only [List.getElem?_take, List.getElem?_drop] at e0 e1
    constructor
    · rw [World.var?_cell hg hvar (2 * i), ← Array.getElem?_toList]
      simpa [Nat.mul_comm] using e0
    · rw [World.var?_cell hg hvar (2 * i + 1), ← Array.getElem?_toList]
      simpa [Nat.mul_comm] using e1
theorem gSyn : Tryz.prog.globalNamed "strconv.ErrSyntax" = some 3 := by kernel_rfl
theorem gSynT : (Tryz.prog.globals[3]?).map (·.type) = some 133 := by kernel_rfl
theorem gRan : Tryz.prog.globalNamed "strconv.ErrRange" = some 4 := by kernel_rfl
theorem gRanT : (Tryz.prog.globals[4]?).map (·.type) = some 133 := by kernel_rfl
theorem err_of {W : World} {n : String} {g : Nat} {name : String} {d : DataW Unit} (h : VarReads Tryz.prog W n (.iface name d)) (hn : Tryz.prog.globalNamed n = some g) (ht : (Tryz.prog.globals[g]?).map (·.type) = some 133) : ErrAt W g := by
  obtain ⟨g', t, cs, fuel, p, hg, hty, hvar, hd⟩ := h
  obtain rfl := Option.some.inj (hn.symm.trans hg)
  obtain rfl := Option.some.inj (ht.symm.trans hty)
  obtain ⟨_, u, v, hcs, _⟩ := iface_of_trod Tryz.underlying133 hd
  refine ⟨.iface u v, ?_, .inr ⟨u, v, rfl⟩⟩
  rw [World.var?_cell hg hvar 0, ← Array.getElem?_toList, hcs]
  rfl
theorem mx_of {W : World} (h : W.ShapedOpen Tryz.prog) : MX W :=
  cell_of_shapedOpen_int h (of_decide_eq_true (by kernel_rfl)) (zero := #[.int .i64 0]) (t := 3) (by kernel_rfl) rfl (by kernel_rfl) (by kernel_rfl) Tryz.underlying3
theorem bw_of {W : World} {L : List (String × DataW Unit)} (h : laidMet Tryz.prog L W) (hsh : W.ShapedOpen Tryz.prog) (m1 : ("unicode/utf8.first", Rows.laid_unicode_utf8_first) ∈ L) (m2 : ("unicode/utf8.acceptRanges", Rows.laid_unicode_utf8_acceptRanges) ∈ L) (m3 : ("strconv.ErrSyntax", Rows.laid_strconv_ErrSyntax) ∈ L) (m4 : ("strconv.ErrRange", Rows.laid_strconv_ErrRange) ∈ L) : BW W :=
  ⟨tabs_mem h m1 m2, mx_of hsh, err_of (laidMet.reads h m3) gSyn gSynT, err_of (laidMet.reads h m4) gRan gRanT⟩

def litC : DataW Unit → Array Value
  | .agg ps => (ps.map fun | .lit l => l.value | _ => undef).toArray
  | _ => #[]
def msgC : DataW Unit → Array Value
  | .iface _ (.ptr d) => litC d
  | _ => #[]
/-- A world for the witness: all seven variables as their initialisers lay them. -/
noncomputable def laidWorld7 (os : Os) : World :=
  { laidWorld os with heap := (((((((laidWorld os).heap.modify 6 (recells (litC Rows.laid_math_bits_deBruijn32tab))).modify 7 (recells (litC Rows.laid_math_bits_deBruijn64tab))).modify 5 (recells (litC Rows.laid_internal_strconv_uint64pow10))).modify 4 (recells #[.iface 206 (.pointer (some ⟨(laidWorld os).heap.size, 0, none⟩))])).modify 3 (recells #[.iface 206 (.pointer (some ⟨(laidWorld os).heap.size + 1, 0, none⟩))])).push (.cells (msgC Rows.laid_strconv_ErrRange) 208)).push (.cells (msgC Rows.laid_strconv_ErrSyntax) 208) }
end Go.Proofs.YtpcajjbdlfookaaGreatDoor

/- xmltree: elements as they lie in memory; reading a law's argument. -/
namespace Go.Proofs.YtpcajjbdlfookaaGreatDoor
open Go Go.RowKit Go.ChangeShapes Go.WideShapes Go.Deep
set_option linter.unusedVariables false

/-- An attribute with its namespace: space, name, value. -/
abbrev PT := ByteArray × ByteArray × ByteArray
/-- An element. -/
inductive ET where
  | mk (space name : ByteArray) (attrs : List PT) (kids : List ET) (text : ByteArray)
def ET.space : ET → ByteArray | .mk s _ _ _ _ => s
def ET.name : ET → ByteArray | .mk _ n _ _ _ => n
def ET.attrs : ET → List PT | .mk _ _ l _ _ => l
def ET.kids : ET → List ET | .mk _ _ _ l _ => l
def ET.text : ET → ByteArray | .mk _ _ _ _ t => t

/-- Attributes that lie in blocks that may be. -/
def PairsR (ok : Nat → Prop) (w : World) (v : Value) (l : List PT) : Prop :=
  ∃ a c, v = .slice a l.length c ∧ l.length ≤ c ∧ c ≤ maxLen ∧ (a = none → c = 0) ∧ (0 < l.length → ∃ b o, a = some ⟨b, o, none⟩ ∧ b < w.heap.size ∧ ok b ∧
    ∀ k (h : k < l.length), w.cell? ⟨b, o + k * 3, none⟩ = some (.string l[k].1) ∧ w.cell? ⟨b, o + k * 3 + 1, none⟩ = some (.string l[k].2.1) ∧ w.cell? ⟨b, o + k * 3 + 2, none⟩ = some (.string l[k].2.2))
/-- Elements, so many levels deep at most, that lie in blocks that may be. -/
def KidsD (ok : Nat → Prop) (w : World) : Nat → Value → List ET → Prop
  | 0, _, _ => False
  | d + 1, v, l => ∃ a c, v = .slice a l.length c ∧ l.length ≤ c ∧ c ≤ maxLen ∧ (a = none → c = 0) ∧ (0 < l.length → ∃ b o, a = some ⟨b, o, none⟩ ∧ b < w.heap.size ∧ ok b ∧
      ∀ k (h : k < l.length), ∃ av kv, (w.cell? ⟨b, o + k * 5, none⟩ = some (.string l[k].space) ∧ w.cell? ⟨b, o + k * 5 + 1, none⟩ = some (.string l[k].name) ∧ w.cell? ⟨b, o + k * 5 + 2, none⟩ = some av ∧ w.cell? ⟨b, o + k * 5 + 3, none⟩ = some kv ∧ w.cell? ⟨b, o + k * 5 + 4, none⟩ = some (.string l[k].text)) ∧
        PairsR ok w av l[k].attrs ∧ KidsD ok w d kv l[k].kids)
/-- An element by value. -/
def ElemD (ok : Nat → Prop) (w : World) (d : Nat) (v : Value) (t : ET) : Prop :=
  ∃ av kv, v = .agg #[.string t.space, .string t.name, av, kv, .string t.text] ∧ PairsR ok w av t.attrs ∧ KidsD ok w d kv t.kids

theorem PairsR.nil (ok : Nat → Prop) (w : World) : PairsR ok w (.slice none 0 0) [] := ⟨none, 0, rfl, by simp, by unfold maxLen; omega, by simp, by simp⟩
theorem KidsD.nil (ok : Nat → Prop) (w : World) (d : Nat) : KidsD ok w (d + 1) (.slice none 0 0) [] := ⟨none, 0, rfl, by simp, by unfold maxLen; omega, by simp, by simp⟩
/-- What lies in blocks that stay, stays. -/
theorem PairsR.keep {ok ok' : Nat → Prop} {w w' : World} {v : Value} {l : List PT} (h : PairsR ok w v l) (hs : w.heap.size ≤ w'.heap.size) (hk : ∀ b, ok b → b < w.heap.size → w'.heap[b]? = w.heap[b]? ∧ ok' b) : PairsR ok' w' v l := by
  obtain ⟨a, c, e, h1, h2, h3, h4⟩ := h
  refine ⟨a, c, e, h1, h2, h3, fun hp => ?_⟩
  obtain ⟨b, o, ha, hlt, ho, hx⟩ := h4 hp
  obtain ⟨hb, ho'⟩ := hk b ho hlt
  have hc : ∀ j, w'.cell? ⟨b, j, none⟩ = w.cell? ⟨b, j, none⟩ := fun j => World.cell?_of_block hb
  refine ⟨b, o, ha, Nat.lt_of_lt_of_le hlt hs, ho', fun k hk => ?_⟩
  obtain ⟨c0, c1, c2⟩ := hx k hk
  exact ⟨(hc _).trans c0, (hc _).trans c1, (hc _).trans c2⟩
theorem KidsD.keep {ok ok' : Nat → Prop} {w w' : World} (hs : w.heap.size ≤ w'.heap.size) (hk : ∀ b, ok b → b < w.heap.size → w'.heap[b]? = w.heap[b]? ∧ ok' b) : ∀ {d : Nat} {v : Value} {l : List ET}, KidsD ok w d v l → KidsD ok' w' d v l
  | 0, _, _, h => h
  | d + 1, v, l, h => by
    obtain ⟨a, c, e, h1, h2, h3, h4⟩ := h
    refine ⟨a, c, e, h1, h2, h3, fun hp => ?_⟩
    obtain ⟨b, o, ha, hlt, ho, hx⟩ := h4 hp
    obtain ⟨hb, ho'⟩ := hk b ho hlt
    have hc : ∀ j, w'.cell? ⟨b, j, none⟩ = w.cell? ⟨b, j, none⟩ := fun j => World.cell?_of_block hb
    refine ⟨b, o, ha, Nat.lt_of_lt_of_le hlt hs, ho', fun k hk2 => ?_⟩
    obtain ⟨av, kv, ⟨c0, c1, c2, c3, c4⟩, hp1, hk1⟩ := hx k hk2
    exact ⟨av, kv, ⟨(hc _).trans c0, (hc _).trans c1, (hc _).trans c2, (hc _).trans c3, (hc _).trans c4⟩, hp1.keep hs hk, KidsD.keep hs hk hk1⟩
theorem PairsR.below {ok : Nat → Prop} {w w' : World} {v : Value} {l : List PT} (h : PairsR ok w v l) (hb : Below w.heap.size w w') : PairsR ok w' v l := h.keep hb.size fun b ho hl => ⟨hb.block b hl, ho⟩
theorem KidsD.below {ok : Nat → Prop} {w w' : World} {d : Nat} {v : Value} {l : List ET} (h : KidsD ok w d v l) (hb : Below w.heap.size w w') : KidsD ok w' d v l := h.keep hb.size fun b ho hl => ⟨hb.block b hl, ho⟩
theorem PairsR.mono {ok ok' : Nat → Prop} {w : World} {v : Value} {l : List PT} (h : PairsR ok w v l) (hm : ∀ b, ok b → b < w.heap.size → ok' b) : PairsR ok' w v l := h.keep (Nat.le_refl _) fun b ho hl => ⟨rfl, hm b ho hl⟩
theorem KidsD.mono {ok ok' : Nat → Prop} {w : World} {d : Nat} {v : Value} {l : List ET} (h : KidsD ok w d v l) (hm : ∀ b, ok b → b < w.heap.size → ok' b) : KidsD ok' w d v l := h.keep (Nat.le_refl _) fun b ho hl => ⟨rfl, hm b ho hl⟩
theorem ElemD.below {ok : Nat → Prop} {w w' : World} {d : Nat} {v : Value} {t : ET} (h : ElemD ok w d v t) (hb : Below w.heap.size w w') : ElemD ok w' d v t := by
  obtain ⟨av, kv, e, h1, h2⟩ := h
  exact ⟨av, kv, e, h1.below hb, h2.below hb⟩
theorem ElemD.mono {ok ok' : Nat → Prop} {w : World} {d : Nat} {v : Value} {t : ET} (h : ElemD ok w d v t) (hm : ∀ b, ok b → b < w.heap.size → ok' b) : ElemD ok' w d v t := by
  obtain ⟨av, kv, e, h1, h2⟩ := h
  exact ⟨av, kv, e, h1.mono hm, h2.mono hm⟩
theorem PairsR.form {ok : Nat → Prop} {w : World} {v : Value} {l : List PT} (h : PairsR ok w v l) : ∃ a c, v = .slice a l.length c ∧ l.length ≤ c ∧ c ≤ maxLen := by
  obtain ⟨a, c, e, h1, h2, -⟩ := h
  exact ⟨a, c, e, h1, h2⟩
theorem KidsD.form {ok : Nat → Prop} {w : World} : ∀ {d : Nat} {v : Value} {l : List ET}, KidsD ok w d v l → ∃ a c, v = .slice a l.length c ∧ l.length ≤ c ∧ c ≤ maxLen
  | 0, _, _, h => h.elim
  | d + 1, v, l, h => by
    obtain ⟨a, c, e, h1, h2, -⟩ := h
    exact ⟨a, c, e, h1, h2⟩
theorem KidsD.up {ok : Nat → Prop} {w : World} : ∀ {d : Nat} {v : Value} {l : List ET}, KidsD ok w d v l → KidsD ok w (d + 1) v l
  | 0, _, _, h => h.elim
  | d + 1, v, l, h => by
    obtain ⟨a, c, e, h1, h2, h3, h4⟩ := h
    refine ⟨a, c, e, h1, h2, h3, fun hp => ?_⟩
    obtain ⟨b, o, ha, hlt, ho, hx⟩ := h4 hp
    refine ⟨b, o, ha, hlt, ho, fun k hk => ?_⟩
    obtain ⟨av, kv, hc, hp1, hk1⟩ := hx k hk
    exact ⟨av, kv, hc, hp1, hk1.up⟩
theorem KidsD.ups {ok : Nat → Prop} {w : World} {v : Value} {l : List ET} (m : Nat) : ∀ {d : Nat}, KidsD ok w d v l → KidsD ok w (d + m) v l := by
  induction m with
  | zero => intro d h; exact h
  | succ m ih => intro d h; exact (ih h).up

section
variable {H : Type} {enc : TypeId × Value → H} {w : World} {base : Nat} {held : Bool}
theorem oneT {P : Program} {fs : Array Field} (h : oneCellFields P fs = true) (j : Nat) (f : Field) (hf : fs[j]? = some f) : f.offset = j ∧ P.cellsOf f.type = 1 := hone_of h j f hf
theorem cells5_openT {P : Program} {t : TypeId} {spare : Nat → Bool} {fuel : Nat} {f0 f1 f2 f3 f4 : Field} {c0 c1 c2 c3 c4 : Value} {x : DataW H × List MemPlace} (hs : P.underlying t = some (.struct #[f0, f1, f2, f3, f4])) (hone : oneCellFields P #[f0, f1, f2, f3, f4] = true)
    (h : DataW.trod enc P w base spare held fuel t [c0, c1, c2, c3, c4] = some x) :
    ∃ (y0 y1 y2 y3 y4 : DataW H × List MemPlace) (n : Nat), fuel = n + 1 ∧
      DataW.trod enc P w base spare held n f0.type [c0] = some y0 ∧ DataW.trod enc P w base spare held n f1.type [c1] = some y1 ∧ DataW.trod enc P w base spare held n f2.type [c2] = some y2 ∧ DataW.trod enc P w base spare held n f3.type [c3] = some y3 ∧ DataW.trod enc P w base spare held n f4.type [c4] = some y4 := by
  obtain ⟨xs, n, hf, hx, _, hlen, hg⟩ := DataW.trod_struct hs h
  obtain ⟨o0, k0⟩ := oneT hone 0 f0 rfl
  obtain ⟨o1, k1⟩ := oneT hone 1 f1 rfl
  obtain ⟨o2, k2⟩ := oneT hone 2 f2 rfl
  obtain ⟨o3, k3⟩ := oneT hone 3 f3 rfl
  obtain ⟨o4, k4⟩ := oneT hone 4 f4 rfl
  match xs, hlen with
  | [y0, y1, y2, y3, y4], _ =>
    exact ⟨y0, y1, y2, y3, y4, n, hf, by simpa [o0, k0] using hg 0 f0 rfl, by simpa [o1, k1] using hg 1 f1 rfl, by simpa [o2, k2] using hg 2 f2 rfl, by simpa [o3, k3] using hg 3 f3 rfl, by simpa [o4, k4] using hg 4 f4 rfl⟩
theorem cells3_openT {P : Program} {t : TypeId} {spare : Nat → Bool} {fuel : Nat} {f0 f1 f2 : Field} {c0 c1 c2 : Value} {x : DataW H × List MemPlace} (hs : P.underlying t = some (.struct #[f0, f1, f2])) (hone : oneCellFields P #[f0, f1, f2] = true)
    (h : DataW.trod enc P w base spare held fuel t [c0, c1, c2] = some x) :
    ∃ (y0 y1 y2 : DataW H × List MemPlace) (n : Nat), fuel = n + 1 ∧
      DataW.trod enc P w base spare held n f0.type [c0] = some y0 ∧ DataW.trod enc P w base spare held n f1.type [c1] = some y1 ∧ DataW.trod enc P w base spare held n f2.type [c2] = some y2 := by
  obtain ⟨xs, n, hf, hx, _, hlen, hg⟩ := DataW.trod_struct hs h
  obtain ⟨o0, k0⟩ := oneT hone 0 f0 rfl
  obtain ⟨o1, k1⟩ := oneT hone 1 f1 rfl
  obtain ⟨o2, k2⟩ := oneT hone 2 f2 rfl
  match xs, hlen with
  | [y0, y1, y2], _ =>
    exact ⟨y0, y1, y2, n, hf, by simpa [o0, k0] using hg 0 f0 rfl, by simpa [o1, k1] using hg 1 f1 rfl, by simpa [o2, k2] using hg 2 f2 rfl⟩
theorem list_ofT {α : Type} {P : Nat → α → Prop} : ∀ n, (∀ i, i < n → ∃ s, P i s) → ∃ l : List α, l.length = n ∧ ∀ i (h : i < l.length), P i l[i]
  | 0, _ => ⟨[], rfl, fun i h => by simp at h⟩
  | n + 1, h => by
    obtain ⟨l, hl, hp⟩ := list_ofT n fun i hi => h i (by omega)
    obtain ⟨s, hs⟩ := h n (by omega)
    refine ⟨l ++ [s], by simp [hl], fun i hi => ?_⟩
    by_cases hin : i < l.length
    · rw [List.getElem_append_left hin]; exact hp i hin
    · have : i = n := by simp at hi; omega
      subst this
      rw [List.getElem_append_right (by omega)]
      simp only [hl, Nat.sub_self, List.getElem_cons_zero]
      exact hs
abbrev Any : Nat → Prop := fun _ => True
/-- Attributes given as an argument. -/
theorem pairs_open {fuel : Nat} {c : Value} {x : DataW H × List MemPlace} (h : DataW.trod enc Tryz.prog w base (fun _ => true) held fuel 24 [c] = some x) : ∃ l, PairsR Any w c l := by
  have h3 : Tryz.prog.cellsOf 58 = 3 := by kernel_rfl
  rcases DataW.trod_slice Tryz.underlying24 h with ⟨hcs, _⟩ | ⟨a, len, cap, elems, rest, n, hf, hcs, rfl, hb, hl, hm, hlen, hel, hsp, hns⟩
  · simp only [List.cons.injEq, and_true] at hcs
    subst hcs
    exact ⟨[], PairsR.nil _ w⟩
  · simp only [List.cons.injEq, and_true] at hcs
    subst hcs
    have hi' : ∀ i, i < len → ∃ s : PT, w.cell? (a.add (i * 3)) = some (.string s.1) ∧ w.cell? (a.add (i * 3 + 1)) = some (.string s.2.1) ∧ w.cell? (a.add (i * 3 + 2)) = some (.string s.2.2) := fun i hil => by
      have key := hel i hil
      rw [List.getElem?_eq_getElem (by omega)] at key
      obtain ⟨cs', hc, ht⟩ := Option.bind_eq_some_iff.1 key
      rw [h3] at hc
      obtain ⟨_, hcl, hat⟩ := World.cells?_some hc
      match cs', hcl with
      | [c0, c1, c2], _ =>
        obtain ⟨y0, y1, y2, n2, hf2, t0, t1, t2⟩ := cells3_openT Tryz.underlying58 (by kernel_rfl) ht
        obtain ⟨s0, e0, _, w0⟩ := DataW.trod_string Tryz.underlying9 t0
        obtain ⟨s1, e1, _, w1⟩ := DataW.trod_string Tryz.underlying9 t1
        obtain ⟨s2, e2, _, w2⟩ := DataW.trod_string Tryz.underlying9 t2
        simp only [List.cons.injEq, and_true] at e0 e1 e2
        subst e0 e1 e2
        refine ⟨(s0, s1, s2), by have := hat 0 (by omega); rw [Go.Deep.add_add, Nat.add_zero] at this; exact this, ?_, ?_⟩
        · rw [← Go.Deep.add_add]; exact hat 1 (by omega)
        · rw [← Go.Deep.add_add]; exact hat 2 (by omega)
    obtain ⟨l, hll, hp⟩ := list_ofT len hi'
    subst hll
    refine ⟨l, some a, cap, rfl, hl, hm, by simp, fun h0 => ?_⟩
    obtain ⟨b, off, spot⟩ := a
    obtain ⟨q0, _⟩ := hp 0 h0
    have hspot : spot = none := by simpa [Addr.add] using World.cell?_spot q0
    subst hspot
    refine ⟨b, off, rfl, ?_, trivial, fun k hk => ?_⟩
    · have := World.block_lt_of_cell? w _ q0
      simpa [Addr.add] using this
    · obtain ⟨q0, q1, q2⟩ := hp k hk
      rw [Addr.add_lit] at q0 q1 q2
      exact ⟨q0, q1, q2⟩
/-- Elements given as an argument. -/
theorem kids_open : ∀ (fuel : Nat) {c : Value} {x : DataW H × List MemPlace}, DataW.trod enc Tryz.prog w base (fun _ => true) held fuel 25 [c] = some x → ∃ l, KidsD Any w (fuel + 1) c l := by
  intro fuel
  induction fuel using Nat.strongRecOn with
  | _ fuel ih =>
    intro c x h
    have h5 : Tryz.prog.cellsOf 27 = 5 := by kernel_rfl
    rcases DataW.trod_slice Tryz.underlying25 h with ⟨hcs, _⟩ | ⟨a, len, cap, elems, rest, n, hf, hcs, rfl, hb, hl, hm, hlen, hel, hsp, hns⟩
    · simp only [List.cons.injEq, and_true] at hcs
      subst hcs
      exact ⟨[], KidsD.nil _ w fuel⟩
    · simp only [List.cons.injEq, and_true] at hcs
      subst hcs
      have hi' : ∀ i, i < len → ∃ s : ET, ∃ av kv, (w.cell? (a.add (i * 5)) = some (.string s.space) ∧ w.cell? (a.add (i * 5 + 1)) = some (.string s.name) ∧ w.cell? (a.add (i * 5 + 2)) = some av ∧ w.cell? (a.add (i * 5 + 3)) = some kv ∧ w.cell? (a.add (i * 5 + 4)) = some (.string s.text)) ∧
          PairsR Any w av s.attrs ∧ KidsD Any w fuel kv s.kids := fun i hil => by
        have key := hel i hil
        rw [List.getElem?_eq_getElem (by omega)] at key
        obtain ⟨cs', hc, ht⟩ := Option.bind_eq_some_iff.1 key
        rw [h5] at hc
        obtain ⟨_, hcl, hat⟩ := World.cells?_some hc
        match cs', hcl with
        | [c0, c1, c2, c3, c4], _ =>
          obtain ⟨y0, y1, y2, y3, y4, n2, hf2, t0, t1, t2, t3, t4⟩ := cells5_openT Tryz.underlying27 (by kernel_rfl) ht
          obtain ⟨s0, e0, _, w0⟩ := DataW.trod_string Tryz.underlying9 t0
          obtain ⟨s1, e1, _, w1⟩ := DataW.trod_string Tryz.underlying9 t1
          obtain ⟨s4, e4, _, w4⟩ := DataW.trod_string Tryz.underlying9 t4
          simp only [List.cons.injEq, and_true] at e0 e1 e4
          subst e0 e1 e4
          obtain ⟨attrs, hp⟩ := pairs_open t2
          obtain ⟨kids, hk⟩ := ih n2 (by omega) t3
          have hd : KidsD Any w fuel c3 kids := by
            have := hk.ups (fuel - (n2 + 1))
            rwa [show n2 + 1 + (fuel - (n2 + 1)) = fuel by omega] at this
          refine ⟨.mk s0 s1 attrs kids s4, c2, c3, ⟨by have := hat 0 (by omega); rw [Go.Deep.add_add, Nat.add_zero] at this; exact this, ?_, ?_, ?_, ?_⟩, hp, hd⟩
          · rw [← Go.Deep.add_add]; exact hat 1 (by omega)
          · rw [← Go.Deep.add_add]; exact hat 2 (by omega)
          · rw [← Go.Deep.add_add]; exact hat 3 (by omega)
          · rw [← Go.Deep.add_add]; exact hat 4 (by omega)
      obtain ⟨l, hll, hp⟩ := list_ofT len hi'
      subst hll
      refine ⟨l, some a, cap, rfl, hl, hm, by simp, fun h0 => ?_⟩
      obtain ⟨b, off, spot⟩ := a
      obtain ⟨av, kv, ⟨q0, _⟩, _⟩ := hp 0 h0
      have hspot : spot = none := by simpa [Addr.add] using World.cell?_spot q0
      subst hspot
      refine ⟨b, off, rfl, ?_, trivial, fun k hk => ?_⟩
      · have := World.block_lt_of_cell? w _ q0
        simpa [Addr.add] using this
      · obtain ⟨av, kv, ⟨q0, q1, q2, q3, q4⟩, hr⟩ := hp k hk
        rw [Addr.add_lit] at q0 q1 q2 q3 q4
        exact ⟨av, kv, ⟨q0, q1, q2, q3, q4⟩, hr⟩
end
end Go.Proofs.YtpcajjbdlfookaaGreatDoor
