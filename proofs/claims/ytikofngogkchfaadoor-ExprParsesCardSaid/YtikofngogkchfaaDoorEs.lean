/- The program's parser: its state, and the words that it takes. -/
import Derived.Test.YtikofngogkchfaaDoorEk
import Derived.Test.YtikofngogkchfaaDoorLl
namespace Go.Proofs.YtikofngogkchfaaDoor
open Go.RowKit
set_option linter.unusedVariables false

/-- Where words lie. -/
def WsAt (w : World) (g off : Nat) (ws : List Wd) : Prop := ∀ j u, (wcells ws)[j]? = some u → w.cell? ⟨g, off + j, none⟩ = some u
theorem WsAt.tail {w : World} {g off : Nat} {x : Wd} {r : List Wd} (h : WsAt w g off (x :: r)) : WsAt w g (off + 3) r := fun j u hu => by
  have e : wcells (x :: r) = wcell x ++ wcells r := rfl
  have := h (j + 3) u (by rw [e, List.getElem?_append_right (by simp [wcell])]; simpa [wcell] using hu)
  rwa [show off + 3 + j = off + (j + 3) from by omega]
theorem WsAt.hd {w : World} {g off : Nat} {x : Wd} {r : List Wd} (h : WsAt w g off (x :: r)) : w.cell? ⟨g, off, none⟩ = some (.int .i64 x.k) ∧ w.cell? ⟨g, off + 1, none⟩ = some (.string ⟨x.t.toArray⟩) ∧ w.cell? ⟨g, off + 2, none⟩ = some (.int .i64 x.n) :=
  ⟨h 0 _ rfl, h 1 _ rfl, h 2 _ rfl⟩
theorem WsAt.keep {w w' : World} {g off : Nat} {ws : List Wd} (h : WsAt w g off ws) (hb : w'.heap[g]? = w.heap[g]?) : WsAt w' g off ws :=
  fun j u hu => by rw [World.cell?_of_block (w := w) hb]; exact h j u hu
/-- The tables of operators and of states' names. -/
def opCells : List Value := opL.flatMap fun o => [.string ⟨o.1.toArray⟩, .int .i64 o.2.1, .int .i64 o.2.2.1, .int .i64 o.2.2.2]
def stCells : List Value := stL.map fun t => .string ⟨t.toArray⟩
def opA : Array Value := opCells.toArray
structure ETabs (w : World) : Prop where
  ops : ∃ t fr, w.heap[1]? = some (.cells opA t fr)
  sts : ∀ j u, stCells[j]? = some u → w.cell? ⟨0, j, none⟩ = some u
theorem ETabs.keep {w w' : World} (h : ETabs w) (h1 : w'.heap[1]? = w.heap[1]?) (h2 : w'.heap[0]? = w.heap[0]?) : ETabs w' :=
  ⟨by rw [h1]; exact h.ops, fun j u hu => by rw [World.cell?_of_block (w := w) h2]; exact h.sts j u hu⟩
theorem ETabs.lt {w : World} (h : ETabs w) : 1 < w.heap.size ∧ 0 < w.heap.size :=
  ⟨by obtain ⟨t, fr, h⟩ := h.ops; exact (Array.getElem?_eq_some_iff.1 h).1, World.block_lt_of_cell? w ⟨0, 0, none⟩ (h.sts 0 _ rfl)⟩
theorem ETabs.below {w w' : World} (h : ETabs w) (hb : Below w.heap.size w w') : ETabs w' := h.keep (hb.block _ h.lt.1) (hb.block _ h.lt.2)
/-- The parser at block pb holds these words, which lie in block wg. -/
structure PS (w : World) (pb wg : Nat) (ws : List Wd) : Prop where
  tab : ETabs w
  far : 1 ≠ pb ∧ 0 ≠ pb
  ok : Oks ws
  len : ws.length ≤ 401
  lies : ∃ off cap, w.heap[pb]? = some (.cells #[.slice (some ⟨wg, off, none⟩) ws.length cap] 42 (0, 0)) ∧ ws.length ≤ cap ∧ cap ≤ maxLen ∧ WsAt w wg off ws
  ne : wg ≠ pb
  lt : wg < w.heap.size ∧ pb < w.heap.size
theorem PS.below {w w' : World} {pb wg : Nat} {ws : List Wd} (h : PS w pb wg ws) (hb : Below w.heap.size w w') : PS w' pb wg ws := by
  obtain ⟨off, cap, h1, h2, h3, h4⟩ := h.lies
  have hp := hb.block _ h.lt.2
  have hg := hb.block _ h.lt.1
  have hs := hb.size
  exact ⟨h.tab.below hb, h.far, h.ok, h.len, ⟨off, cap, hp.trans h1, h2, h3, h4.keep hg⟩, h.ne, by have := h.lt; omega⟩
theorem PS.alloc {w : World} {pb wg : Nat} {ws : List Wd} (h : PS w pb wg ws) (o : Obj) : PS (w.alloc o) pb wg ws := h.below (box_below w o)
/-- The walk's facts. -/
theorem PS.first {w : World} {pb wg : Nat} {ws : List Wd} (h : PS w pb wg ws) : ∃ x r off cap, ws = x :: r ∧ ((x = noW ∧ r = []) ∨ (OkV x ∧ Oks r)) ∧ w.cell? ⟨pb, 0, none⟩ = some (.slice (some ⟨wg, off, none⟩) (r.length + 1) cap) ∧ r.length + 1 ≤ cap ∧ cap ≤ maxLen
    ∧ (∀ o, w.frozen? ⟨pb, o, none⟩ = false) ∧ w.cell? ⟨wg, off, none⟩ = some (.int .i64 x.k) ∧ w.cell? ⟨wg, off + 1, none⟩ = some (.string ⟨x.t.toArray⟩) ∧ w.cell? ⟨wg, off + 2, none⟩ = some (.int .i64 x.n) := by
  obtain ⟨x, r, rfl, hx⟩ := h.ok.cons
  obtain ⟨off, cap, h1, h2, h3, h4⟩ := h.lies
  obtain ⟨c1, c2⟩ := cells1 h1
  exact ⟨x, r, off, cap, rfl, hx, c1, h2, h3, c2, h4.hd.1, h4.hd.2.1, h4.hd.2.2⟩
theorem PS.step {w w' : World} {pb wg : Nat} {x : Wd} {r : List Wd} (h : PS w pb wg (x :: r)) (ho : Oks r) {off cap : Nat} (hc : w.cell? ⟨pb, 0, none⟩ = some (.slice (some ⟨wg, off, none⟩) (r.length + 1) cap)) (hb : Below w.heap.size w w') :
    PS (w'.setCell ⟨pb, 0, none⟩ (.slice (some ⟨wg, off + 3, none⟩) r.length (cap - 1))) pb wg r ∧ Chg [pb] w (w'.setCell ⟨pb, 0, none⟩ (.slice (some ⟨wg, off + 3, none⟩) r.length (cap - 1))) := by
  have h' := h.below hb
  obtain ⟨off', cap', h1, h2, h3, h4⟩ := h'.lies
  have h1w : w.cell? ⟨pb, 0, none⟩ = w'.cell? ⟨pb, 0, none⟩ := (hb.cell (p := ⟨pb, 0, none⟩) h.lt.2).symm
  rw [h1w, (cells1 h1).1] at hc
  simp only [Option.some.injEq, Value.slice.injEq, Addr.mk.injEq, true_and, and_true] at hc
  obtain ⟨rfl, _, rfl⟩ := hc
  have hl : (x :: r).length = r.length + 1 := rfl
  refine ⟨⟨h'.tab.keep (Below.heap_setCell _ _ _ _ h.far.1) (Below.heap_setCell _ _ _ _ h.far.2), h.far, ho, by have := h.len; omega, ⟨off' + 3, cap' - 1, ?_, by omega, by omega, h4.tail.keep (Below.heap_setCell _ _ _ _ h.ne)⟩, h.ne, by rw [World.size_setCell]; exact h'.lt⟩, (Chg.of_below hb).set' _ _ _ (.inl (by simp))⟩
  rw [block_set _ _ _ _ _ _ _ h1]
  rfl
theorem box_bel' (w : World) (o : Obj) : Below w.heap.size w (w.alloc o) := (Below.refl _ _).alloc (Nat.le_refl _) _

/-- How a method of the parser ends: with a value, or raising the error of the grammar. -/
def Aft {α : Type} (w : World) (pb wg : Nat) (val : α → World → Value → Prop) (R : Option (α × List Wd)) (e : Ending) (w' : World) : Prop :=
  match R with
  | none => e = .panicked [{ v := .iface 27 (.int .i64 21), recovered := false }] ∧ Chg [pb] w w'
  | some (a, r) => ∃ v, e = .returned v ∧ val a w' v ∧ PS w' pb wg r ∧ Chg [pb] w w'

theorem isB_facts (x : Wd) (m : ByteArray) : (((⟨x.t.toArray⟩ : ByteArray).toList == m.toList) && !(x.k == 3)) = isB m.data.toList x := by
  unfold isB
  rw [toList_data, toList_data]
  congr 2

set_option maxRecDepth 100000 in
theorem is_c {w : World} {pb wg : Nat} {ws : List Wd} (h : PS w pb wg ws) (m : ByteArray) : Calls Tryd.prog 56 #[.pointer (some ⟨pb, 0, none⟩), .string m] w fun e w' => e = .returned (.bool (isB m.data.toList (nextW ws))) ∧ Below w.heap.size w w' := by
  obtain ⟨x, r, off, cap, rfl, _, c1, h1, h2, _, n1, n2, n3⟩ := h.first
  have hpl := h.lt.2
  have hwl := h.lt.1
  have HB := Lib.hid (fun o => box_bel' w o)
  have HE := Lib.hid (isB_facts x m)
  generalize (⟨x.t.toArray⟩ : ByteArray) = X at *
  have HX := Lib.hid (show nextW (x :: r) = x from rfl)
  obtain ⟨k, hk⟩ : ∃ k, k = x.k := ⟨_, rfl⟩
  rw [← hk] at n1
  obtain ⟨b1, hb1⟩ : ∃ b, (X.toList == m.toList) = b := ⟨_, rfl⟩
  obtain ⟨b2, hb2⟩ : ∃ b, (k == 3) = b := ⟨_, rfl⟩
  have hb3 : (k != 3) = !b2 := by rw [← hb2]; rfl
  have HK := Lib.hid (show isB m.data.toList x = (b1 && !b2) from by rw [← HE.out, ← hk, hb1, hb2])
  have hlt : (0 : Int) < (r.length : Int) + 1 := by omega
  clear h hk h2
  cases b1 <;> cases b2
  all_goals
    go_enter Tryd.func56, Tryd.ntmps56
    go_wp2_with fail
    go_ret
    exact ⟨by rw [HX.out, HK.out]; rfl, HB.out _⟩

set_option maxRecDepth 100000 in
theorem take_no {w : World} {pb wg : Nat} {ws : List Wd} (h : PS w pb wg ws) (m : ByteArray) (hb : isB m.data.toList (nextW ws) = false) : Calls Tryd.prog 58 #[.pointer (some ⟨pb, 0, none⟩), .string m] w fun e w' =>
    e = .returned (.bool false) ∧ PS w' pb wg ws ∧ Chg [pb] w w' := by
  have hI := is_c h m
  rw [hb] at hI
  have HI := Lib.hid hI
  have HH := Lib.hid h
  clear h hb hI
  go_enter Tryd.func58, Tryd.ntmps58
  go_wp2_with (go_at_call 56; refine (HI.out).mono ?_; rintro e w1 ⟨rfl, hb⟩; have HB := Lib.hid hb; clear hb)
  go_ret
  exact ⟨rfl, HH.out.below HB.out, Chg.of_below HB.out⟩
set_option maxRecDepth 100000 in
theorem take_yes {w : World} {pb wg : Nat} {ws : List Wd} (h : PS w pb wg ws) (m : ByteArray) (hm : m.data.toList ≠ []) (hb : isB m.data.toList (nextW ws) = true) : Calls Tryd.prog 58 #[.pointer (some ⟨pb, 0, none⟩), .string m] w fun e w' =>
    e = .returned (.bool true) ∧ PS w' pb wg ws.tail ∧ Chg [pb] w w' := by
  have hI := is_c h m
  rw [hb] at hI
  have HI := Lib.hid hI
  obtain ⟨x, r, rfl, hx⟩ := h.ok.cons
  have hok := hx.resolve_left (fun q => isB_ne hb hm q.1)
  have HH := Lib.hid (And.intro h hok)
  have hp := hok.2.ne
  have hsl : (1 : Int) ≤ (r.length : Int) + 1 := by omega
  clear h hb hI hm hx hok
  go_enter Tryd.func58, Tryd.ntmps58
  go_wp2_with fail
  refine (HI.out).mono ?_
  rintro e w1 ⟨rfl, hb⟩
  have HB := Lib.hid hb
  obtain ⟨y, q, off, cap, e, _, c1, h1, h2, hz, n1, n2, n3⟩ := (HH.out.1.below hb).first
  simp only [List.cons.injEq] at e
  obtain ⟨rfl, rfl⟩ := e
  have HS := Lib.hid ((HH.out.1.below hb).step HH.out.2.2 c1 (Below.refl _ _))
  have hlt : 1 < cap := by omega
  have hlt' : 1 ≠ cap := by omega
  clear n1 n2 n3 h2 hb
  go_wp2_with fail
  go_ret
  exact ⟨rfl, HS.out.1, (Chg.of_below HB.out).trans HS.out.2⟩

set_option maxRecDepth 100000 in
theorem need_c {w : World} {pb wg : Nat} {ws : List Wd} (h : PS w pb wg ws) (m : ByteArray) (hm : m.data.toList ≠ []) : Calls Tryd.prog 59 #[.pointer (some ⟨pb, 0, none⟩), .string m] w
    (Aft w pb wg (fun (_ : Unit) _ v => v = .tuple #[]) ((pNeed m.data.toList ws).map fun r => ((), r))) := by
  obtain ⟨x, r, rfl, hx⟩ := h.ok.cons
  by_cases hb : isB m.data.toList x = true
  · have HT := Lib.hid (take_yes h m hm hb)
    rw [show (pNeed m.data.toList (x :: r)).map (fun r => ((), r)) = some ((), r) from by rw [pNeed, if_pos hb]; rfl]
    clear h hb hx hm
    go_enter Tryd.func59, Tryd.ntmps59
    go_wp2_with (go_at_call 58; refine (HT.out).mono ?_; rintro e w' ⟨rfl, hs, hc⟩; have HC := Lib.hid (And.intro hs hc); clear hs hc)
    go_end0
    exact ⟨_, rfl, rfl, HC.out.1, HC.out.2⟩
  · have HT := Lib.hid (take_no h m (Bool.not_eq_true _ ▸ hb))
    rw [show (pNeed m.data.toList (x :: r)).map (fun r => ((), r)) = none from by rw [pNeed, if_neg hb]; rfl]
    clear h hb hx hm
    go_enter Tryd.func59, Tryd.ntmps59
    go_wp2_with (go_at_call 58; refine (HT.out).mono ?_; rintro e w' ⟨rfl, hs, hc⟩; have HC := Lib.hid hc; clear hs hc)
    exact ⟨rfl, rfl, HC.out⟩

set_option maxRecDepth 100000 in
theorem ename_c {w : World} {pb wg : Nat} {ws : List Wd} (h : PS w pb wg ws) : Calls Tryd.prog 77 #[.pointer (some ⟨pb, 0, none⟩)] w
    (Aft w pb wg (fun (t : List UInt8) _ v => v = .string ⟨t.toArray⟩) (pName ws)) := by
  obtain ⟨x, r, off, cap, rfl, hx, c1, h1, h2, hz, n1, n2, n3⟩ := h.first
  have hpl := h.lt.2
  have hwl := h.lt.1
  have HB := Lib.hid (fun o => box_bel' w o)
  have HK := Lib.hid (fun w => key_c w ⟨x.t.toArray⟩)
  have hd : (⟨x.t.toArray⟩ : ByteArray).data.toList = x.t := rfl
  rw [hd] at HK
  obtain ⟨X, hX⟩ : ∃ X : ByteArray, X = ⟨x.t.toArray⟩ := ⟨_, rfl⟩
  obtain ⟨b, hb⟩ : ∃ b, keyB x.t = b := ⟨_, rfl⟩
  rw [← hX, hb] at HK
  rw [← hX] at n2
  obtain ⟨k, hk⟩ : ∃ k, k = x.k := ⟨_, rfl⟩
  rw [← hk] at n1
  have HX := Lib.hid hX
  have hlt0 : (0 : Int) < (r.length : Int) + 1 := by omega
  by_cases hk1 : k = 1
  · have tk : (k != 1) = false := by rw [hk1]; rfl
    cases b with
    | true =>
      have HP := Lib.hid (show pName (x :: r) = none from by rw [pName, if_neg (by rw [hb]; simp)])
      clear h hb hk hX hd hx hk1
      go_enter Tryd.func77, Tryd.ntmps77
      go_wp2_with (go_at_call 11; refine (HK.out _).mono ?_; rintro e w' ⟨rfl, rfl⟩)
      rw [HP.out]
      exact ⟨rfl, rfl, Chg.of_below (HB.out _)⟩
    | false =>
      have HP := Lib.hid (show pName (x :: r) = some (x.t, r) from by rw [pName, if_pos ⟨by rw [← hk]; exact hk1, hb⟩])
      have hr := hx.resolve_left (fun q => by rw [q.1] at hk; simp [noW] at hk; omega)
      have HS := Lib.hid (h.step hr.2 c1 (Below.refl _ _))
      have hp := hr.2.ne
      have hlt : 1 < cap := by omega
      have hlt' : 1 ≠ cap := by omega
      have hsl : (1 : Int) ≤ (r.length : Int) + 1 := by omega
      clear h hb hk hX hd hx hk1 hr
      go_enter Tryd.func77, Tryd.ntmps77
      go_wp2_with (go_at_call 11; refine (HK.out _).mono ?_; rintro e w' ⟨rfl, rfl⟩)
      go_ret
      rw [HP.out]
      exact ⟨_, rfl, by rw [HX.out]; rfl, HS.out.1.alloc _, HS.out.2.alloc' _⟩
  · have tk : (k != 1) = true := by simpa using hk1
    have HP := Lib.hid (show pName (x :: r) = none from by rw [pName, if_neg (by rw [← hk]; intro q; exact hk1 q.1)])
    clear h hb hk hX hd hx hk1 HK
    go_enter Tryd.func77, Tryd.ntmps77
    go_wp2_with fail
    rw [HP.out]
    exact ⟨rfl, rfl, Chg.of_below (HB.out _)⟩
end Go.Proofs.YtikofngogkchfaaDoor
