/- An index: New of the law's model, by model.Find and model.Flat in general. Written by tools/genindex3.py. -/
import Derived.Test.YtllhlmdhnmdihaaDoorMi08
import Derived.Maps.Own
import Derived.Test.YtllhlmdhnmdihaaDoorCa
import Derived.Test.YtllhlmdhnmdihaaDoorMi01
namespace Go.Proofs.YtllhlmdhnmdihaaDoor
open Go Go.RowKit Go.Deep Go.Shelf Go.ChangeMaps
set_option linter.unusedVariables false
set_option linter.unusedSimpArgs false

theorem boxes3 (w : World) (o1 o2 o3 : Obj) (w3 : World) (hw : w3 = ((w.alloc o1).alloc o2).alloc o3) : w3.heap[w.heap.size + 2]? = some o3 ∧ w3.heap[w.heap.size + 1]? = some o2 ∧ Below w.heap.size w w3 ∧ w3.heap.size = w.heap.size + 3 := by
  subst hw
  refine ⟨by simpa using heap_alloc_new ((w.alloc o1).alloc o2) o3, (Below.heap_alloc _ _ _ (by simp)).trans (two_new w _ _), (((Below.refl _ _).alloc (Nat.le_refl _) _).alloc (by simp) _).alloc (by simp; omega) _, by simp⟩
theorem rowsI_two {c0 c1 : List Value × IT} : rowsI [c0, c1] = c0.1 ++ c1.1 := by simp [rowsI]
/-- A row of two items as it lies. -/
theorem two_rows {w : World} {base : Nat} {v : Value} {c0 c1 : List Value × IT} (h : OwnS w base 36 14 v 2 (rowsI [c0, c1])) (h0 : c0.1.length = 14) :
    ∃ g o c, v = .slice (some ⟨g, o, none⟩) 2 c ∧ base ≤ g ∧ g < w.heap.size ∧ (∀ j u, c0.1[j]? = some u → w.cell? ⟨g, o + j, none⟩ = some u) ∧ (∀ j u, c1.1[j]? = some u → w.cell? ⟨g, o + 14 + j, none⟩ = some u) := by
  obtain ⟨g, o, c, hv, hb, hg, h1⟩ := h.own1 (by omega)
  rw [rowsI_two] at h1
  refine ⟨g, o, c, hv, hb, hg, fun j u hu => h1.cell j u (by rw [List.getElem?_append_left (List.getElem?_eq_some_iff.1 hu).1]; exact hu), fun j u hu => ?_⟩
  rw [Nat.add_assoc]
  exact h1.cell (14 + j) u (by rw [List.getElem?_append_right (by omega), h0, Nat.add_sub_cancel_left]; exact hu)

theorem item_open {S : Nat → Prop} {w : World} {d : Nat} {cs : List Value} {x : IT} (h : ItemV S w d cs x) : ∃ i1 i2 a3 q3 a4 q4 i5 i6 i7 i8 i9 i10 a11 n11 q11 a12 n12 q12 a13 n13 q13,
    cs = [.string x.id, .string i1, .int .i64 i2, .slice a3 x.entry.length q3, .slice a4 x.exit.length q4, .string i5, .string i6, .string i7, .bool i8, .bool i9, .int .i64 i10, .slice a11 n11 q11, .slice a12 n12 q12, .slice a13 n13 q13] ∧ SentsD S w (.slice a3 x.entry.length q3) x.entry := by
  obtain ⟨_, ev, xv, rv, kv, tv, rfl, k1, k2, k3, k4, k5⟩ := h
  obtain ⟨a3, q3, rfl, _⟩ := k1.form
  obtain ⟨a4, q4, rfl, _⟩ := k2.form
  obtain ⟨a11, q11, rfl, _⟩ := k3.form
  obtain ⟨a12, q12, rfl, _⟩ := k4.form
  obtain ⟨a13, q13, rfl, _⟩ := k5.form
  exact ⟨_, _, _, _, _, _, _, _, _, _, _, _, _, _, _, _, _, _, _, _, _, rfl, k1⟩
theorem len_two {α : Type _} {l : List α} (h : l.length = 2) : ∃ a b, l = [a, b] := by
  match l, h with
  | [a, b], _ => exact ⟨a, b, rfl⟩
/-- An index that New made. -/
def NewC (w : World) (e : Ending) (w' : World) : Prop :=
  ∃ X M v, e = .returned (.pointer (some ⟨X, 0, none⟩)) ∧ w'.cell? ⟨X, 18, none⟩ = some (.map (some M)) ∧ X < w'.heap.size ∧ w'.heap[M]? = some (.map #[⟨keyA, v, 0⟩] 1) ∧ Row w.heap.size w' v 1 4 hookX ∧ Below w.heap.size w w'
set_option maxRecDepth 100000 in
set_option maxHeartbeats 2000000 in
theorem new_x (w : World) (cs : List Value) (hm : ModelV AnyG w 2 cs modI) : Calls Tryd.prog 9 #[.agg cs.toArray] w (NewC w) := by
  have HF := Lib.hid (fun (W : World) (hb : Below w.heap.size w W) => find_c 2 W cs modI ⟨#[112]⟩ (hm.below hb) okI0.1 okI0.2)
  rw [first0] at HF
  have HFL := Lib.hid (fun (W : World) (hb : Below w.heap.size w W) => flat_c 2 W cs modI (hm.below hb) okI0.1 okI0.2)
  rw [flat0] at HFL
  have HI := Lib.hid infoGM18
  have hmm := @run_makeMap Tryd.prog
  have HN := Lib.hid addSide_nil
  obtain ⟨ra, rc, fa, fn, fc, pc, rfl, h1, h2⟩ := hm
  obtain ⟨_, ev, xv, rv, kv, tv, rfl, k1, k2, k3, k4, k5⟩ := h2
  obtain ⟨a3, q3, rfl, _⟩ := k1.form
  obtain ⟨a4, q4, rfl, _⟩ := k2.form
  obtain ⟨a11, q11, rfl, _⟩ := k3.form
  obtain ⟨a12, q12, rfl, _⟩ := k4.form
  obtain ⟨a13, q13, rfl, _⟩ := k5.form
  clear h1 k1 k2 k3 k4 k5
  simp only [item14, modI, itP, IT.id, IT.nm, IT.kind, IT.man, IT.req, IT.rep, IT.auto, IT.free, IT.after, IT.entry, IT.exit, IT.roles, IT.kids, IT.table, List.cons_append, List.nil_append, List.length_nil, List.length_cons] at HF HFL ⊢
  have HQ := Lib.hid (fun o => heap_alloc_new w o)
  go_enter Tryd.func9, Tryd.ntmps9
  go_wp2_with (refine wpList_load_row rfl 38 (Operand.tmp 1) rfl w.heap.size rfl 38 _ (0, 0) _ (HQ.out _) Tryd.underlying38 rfl HI.out ?_)
  refine (HF.out _ ((Below.refl _ _).alloc (Nat.le_refl _) _)).mono ?_
  rintro e w2 ⟨cs2, rfl, _, hb2, hy⟩
  obtain ⟨d2, hv2⟩ := hy
  obtain ⟨j0, j1, j2, b3, l3, p3, b4, l4, p4, j5, j6, j7, j8, j9, j10, b11, l11, p11, b12, l12, p12, b13, l13, p13, rfl⟩ := hv2.shape
  have HB2 := Lib.hid (((Below.refl w.heap.size w).alloc (Nat.le_refl _) _).trans (hb2.mono (by simp)))
  have HQ2 := Lib.hid ((hb2.block w.heap.size (by simp)).trans (heap_alloc_new w _))
  clear hb2 hv2
  go_upto_region 3 with (fail)
  obtain ⟨w3, hw3⟩ : ∃ y, y = ((w2.alloc (.cells #[.string j0, .string j1, .int .i64 j2, .slice b3 l3 p3, .slice b4 l4 p4, .string j5, .string j6, .string j7, .bool j8, .bool j9, .int .i64 j10, .slice b11 l11 p11, .slice b12 l12 p12, .slice b13 l13 p13] 36)).alloc (.map #[] 0)).alloc (.cells #[.string ⟨#[]⟩, .string ⟨#[]⟩, .slice none 0 0, .slice none 0 0, .string j0, .string j1, .int .i64 j2, .slice b3 l3 p3, .slice b4 l4 p4, .string j5, .string j6, .string j7, .bool j8, .bool j9, .int .i64 j10, .slice b11 l11 p11, .slice b12 l12 p12, .slice b13 l13 p13, .map (some (w2.heap.size + 1))] 41) := ⟨_, rfl⟩
  have HZ := Lib.hid (boxes3 w2 _ _ _ w3 hw3)
  have HW3 := Lib.hid hw3
  clear hw3
  rw [← HW3.out]
  have HB3 := Lib.hid (HB2.out.trans (HZ.out.2.2.1.mono HB2.out.size))
  have HQ3 := Lib.hid ((HZ.out.2.2.1.block w.heap.size (Array.getElem?_eq_some_iff.1 HQ2.out).1).trans HQ2.out)
  have HX3 := Lib.hid (show IdxAt w3 (w2.heap.size + 1 + 1) (w2.heap.size + 1) from ⟨by rw [cell_of_row w3 _ 18 _ _ _ HZ.out.1]; rfl, by have := HZ.out.2.2.2; omega, HZ.out.2.1⟩)
  clear HW3
  go_wp2_with (refine wpList_load_row rfl 38 (Operand.tmp 1) rfl w.heap.size rfl 38 _ (0, 0) _ HQ3.out Tryd.underlying38 rfl HI.out ?_)
  refine (HFL.out w3 HB3.out).mono ?_
  rintro e w4 ⟨L, v, rfl, hL, ho, hit, hb4⟩
  obtain ⟨⟨c0, x0⟩, ⟨c1, x1⟩, rfl⟩ := len_two (show L.length = 2 from by have := congrArg List.length hL; simpa using this)
  simp only [List.map_cons, List.map_nil, List.cons.injEq, and_true] at hL
  obtain ⟨rfl, rfl⟩ := hL
  obtain ⟨d0, hv0⟩ := hit _ (List.mem_cons_self ..)
  obtain ⟨d1, hv1⟩ := hit _ (List.mem_cons_of_mem _ (List.mem_cons_self ..))
  dsimp only at hv0 hv1
  obtain ⟨g1, g2, g3, h3, g4, h4, g5, g6, g7, g8, g9, g10, g11, m11, h11, g12, m12, h12, g13, m13, h13, rfl, _⟩ := item_open hv0
  obtain ⟨f1, f2, f3, r3, f4, r4, f5, f6, f7, f8, f9, f10, f11, s11, r11, f12, s12, r12, f13, s13, r13, rfl, hs⟩ := item_open hv1
  obtain ⟨g, o, c, rfl, hbg, hgl, hr0, hr1⟩ := two_rows ho rfl
  have HS := Lib.hid hs
  have HB4 := Lib.hid (HB3.out.trans (hb4.mono HB3.out.size))
  have HX4 := Lib.hid (HX3.out.below hb4)
  simp only [bare, itP, itB, IT.id, IT.entry, IT.exit, List.length_nil, List.length_cons] at hr0 hr1 HS
  have k0 := hr0 0 _ rfl
  have l0 := hr1 0 _ rfl
  have k1 := hr0 1 _ rfl
  have l1 := hr1 1 _ rfl
  have k2 := hr0 2 _ rfl
  have l2 := hr1 2 _ rfl
  have k3 := hr0 3 _ rfl
  have l3 := hr1 3 _ rfl
  have k4 := hr0 4 _ rfl
  have l4 := hr1 4 _ rfl
  have k5 := hr0 5 _ rfl
  have l5 := hr1 5 _ rfl
  have k6 := hr0 6 _ rfl
  have l6 := hr1 6 _ rfl
  have k7 := hr0 7 _ rfl
  have l7 := hr1 7 _ rfl
  have k8 := hr0 8 _ rfl
  have l8 := hr1 8 _ rfl
  have k9 := hr0 9 _ rfl
  have l9 := hr1 9 _ rfl
  have k10 := hr0 10 _ rfl
  have l10 := hr1 10 _ rfl
  have k11 := hr0 11 _ rfl
  have l11 := hr1 11 _ rfl
  have k12 := hr0 12 _ rfl
  have l12 := hr1 12 _ rfl
  have k13 := hr0 13 _ rfl
  have l13 := hr1 13 _ rfl
  simp only [Nat.add_zero] at k0 l0
  clear hr0 hr1 hv0 hv1 hit ho hs hb4 hbg
  have hms : w2.heap.size + 1 < w4.heap.size := (Array.getElem?_eq_some_iff.1 HX4.out.2.2).1
  have HA := Lib.hid (fun (W : World) (hb : Below w4.heap.size w4 W) => addSide_x W (w2.heap.size + 1 + 1) (w2.heap.size + 1) _ _ (HX4.out.below hb) (HS.out.keep hb.size (fun k _ hl => hb.block k hl)))
  go_wp2_with fail
  refine wp_loop_rounds 3 ?_
  rw [rounds_succ]
  go_wp2_with (go_at_call 18; refine (HN.out _ _ _ _ _ _).mono ?_; rintro e w' ⟨rfl, rfl⟩)
  rw [rounds_succ]
  go_wp2_with fail
  have hbx : ∀ o1 o2, Below w4.heap.size w4 ((w4.alloc o1).alloc o2) := fun o1 o2 => ((Below.refl _ _).alloc (Nat.le_refl _) _).alloc (by simp) _
  refine (HA.out _ (hbx _ _)).mono ?_
  rintro e w5 ⟨rfl, v5, q1, q2, q3, q4⟩
  have hq5 := (q3 (w4.heap.size + 1) (by simp) (by omega)).trans (two_new w4 _ _)
  have hq6 := (q3 (w2.heap.size + 1 + 1) (by simp; have := HX4.out.2.1; omega) (by omega)).trans ((hbx _ _).block _ HX4.out.2.1)
  have HR := Lib.hid (show w5.cell? ⟨w2.heap.size + 1 + 1, 18, none⟩ = some (.map (some (w2.heap.size + 1))) ∧ w2.heap.size + 1 + 1 < w5.heap.size ∧ w5.heap[w2.heap.size + 1]? = some (.map #[⟨keyA, v5, 0⟩] 1) ∧ Row w.heap.size w5 v5 1 4 hookX ∧ Below w.heap.size w w5 from
    ⟨by rw [show w5.cell? ⟨w2.heap.size + 1 + 1, 18, none⟩ = w4.cell? ⟨w2.heap.size + 1 + 1, 18, none⟩ from by simp only [World.cell?, hq6]]; exact HX4.out.1, by
      have h1 := HX4.out.2.1
      rw [Array.getElem?_eq_getElem h1] at hq6
      exact (Array.getElem?_eq_some_iff.1 hq6).1, q1, q2.mono (by simp; have := HB4.out.size; omega), q4 _ w (HB4.out.trans ((hbx _ _).mono HB4.out.size)) (by have := HB2.out.size; omega)⟩)
  obtain ⟨t0, t1, t2, t3, t4, t5, t6, t7, t8, t9, t10, t11, t12, t13, tz⟩ := cellsG14 hq5
  clear hq5 hq6 q1 q2 q3 q4 k0 k1 k2 k3 k4 k5 k6 k7 k8 k9 k10 k11 k12 k13 l0 l1 l2 l3 l4 l5 l6 l7 l8 l9 l10 l11 l12 l13
  go_wp2_with (go_at_call 18; refine (HN.out _ _ _ _ _ _).mono ?_; rintro e w' ⟨rfl, rfl⟩)
  rw [rounds_succ]
  go_wp2_with fail
  go_ret
  exact ⟨_, _, _, by rfl, HR.out.1, HR.out.2.1, HR.out.2.2.1, HR.out.2.2.2.1, HR.out.2.2.2.2⟩
end Go.Proofs.YtllhlmdhnmdihaaDoor

/- chars: the classes of characters, and the reference's. -/
namespace Go.Proofs.YtllhlmdhnmdihaaDoor
open Go.RowKit
set_option linter.unusedVariables false

def btw (r lo hi : Int) : Bool := decide (lo ≤ r) && decide (r ≤ hi)

def spaceB (r : Int) : Bool := r == 9 || r == 10 || r == 13 || r == 32

def xmlB (r : Int) : Bool := spaceB r || btw r 32 55295 || btw r 57344 65533 || btw r 65536 1114111

/-- Whether a number is in one of some ranges. -/
def inR (r : Int) : List Int → Bool
  | a :: b :: t => btw r a b || inR r t
  | _ => false

theorem cells_made (w : World) (cs : Array Value) (T : TypeId) (zs : List Int) (h : cs.toList = zs.map (Value.int .i64)) :
    ∀ i (hi : i < zs.length), (w.alloc (.cells cs T)).cell? ⟨w.heap.size, i, none⟩ = some (.int .i64 zs[i]) := by
  intro i hi
  have hc : cs[i]? = some (.int .i64 zs[i]) := by
    rw [← Array.getElem?_toList, h]
    simp [hi]
  simp only [World.cell?, heap_alloc_new]
  simp [hc]

def xmlL : List Int := [9, 10, 13, 13, 32, 55295, 57344, 65533, 65536, 1114111]
theorem xmlL_eq (r : Int) : inR r xmlL = xmlB r := by
  unfold xmlL xmlB spaceB
  simp only [inR, btw]
  rw [Bool.eq_iff_iff]
  simp
  omega

/-- Where the first byte stands that begins no character of XML. -/
def wrong : Nat → List UInt8 → Nat → Int
  | 0, _, _ => -1
  | f + 1, xs, k => if k < xs.length then (if (D (xs.drop k)).2 = 0 ∨ xmlB (D (xs.drop k)).1 = false then (k : Int) else wrong f xs (k + (D (xs.drop k)).2)) else -1
end Go.Proofs.YtllhlmdhnmdihaaDoor

/- The plain side of lexer: words. -/
namespace Go.Proofs.YtllhlmdhnmdihaaDoor.P
set_option linter.unusedVariables false

/-- A word: kind, text, number. -/
structure Wd where
  k : Int
  t : List UInt8
  n : Int
def noW : Wd := ⟨0, [], 0⟩
def letB (c : UInt8) : Bool := (decide (65 ≤ c.toNat) && decide (c.toNat ≤ 90)) || ((decide (97 ≤ c.toNat) && decide (c.toNat ≤ 122)) || decide (c.toNat = 95))
def nameB (c : UInt8) : Bool := letB c || isDig c
def blB (c : UInt8) : Bool := spaceB (c.toNat : Int)
/-- How many bytes at the start are of a class. -/
def runN (p : UInt8 → Bool) : List UInt8 → Nat
  | [] => 0
  | c :: r => if p c = true then runN p r + 1 else 0
def oneB (c : UInt8) : Bool := decide (c.toNat ∈ [40, 41, 46, 44, 43, 45, 42, 47, 37, 61])
def eqB : List UInt8 → Bool
  | c :: _ => decide (c.toNat = 61)
  | [] => false
/-- The length of the sign at the start. -/
def signN : List UInt8 → Nat
  | [] => 0
  | c :: r => if c.toNat = 33 then (if eqB r = true then 2 else 0)
    else if c.toNat = 60 ∨ c.toNat = 62 then (if eqB r = true then 2 else 1)
    else if oneB c = true then 1 else 0
/-- What stands up to the closing quote, and how many bytes with it. -/
def litU : Bool → List UInt8 → Option (List UInt8 × Nat)
  | _, [] => none
  | false, c :: r =>
    if c.toNat = 34 then some ([], 1)
    else if c.toNat = 92 then (litU true r).map fun p => (p.1, p.2 + 1)
    else (litU false r).map fun p => (c :: p.1, p.2 + 1)
  | true, c :: r => if c.toNat = 34 ∨ c.toNat = 92 then (litU false r).map fun p => (c :: p.1, p.2 + 1) else none
/-- A text literal behind its opening quote. -/
def litF (r : List UInt8) : Wd × Nat :=
  match litU false r with
  | some (t, n) => if t.length ≤ 256 ∧ wrong (t.length + 1) t 0 < 0 then (⟨3, t, 0⟩, n + 1) else (noW, 0)
  | none => (noW, 0)
/-- The word at the start, and its length; 0: there is none. -/
def wordF : List UInt8 → Wd × Nat
  | [] => (noW, 0)
  | c :: r =>
    if letB c = true then (⟨1, (c :: r).take (runN nameB (c :: r)), 0⟩, runN nameB (c :: r))
    else if isDig c = true then (if (num ((c :: r).take (runN isDig (c :: r)))).2 = 0 then (⟨2, [], (num ((c :: r).take (runN isDig (c :: r)))).1⟩, runN isDig (c :: r)) else (noW, 0))
    else if c.toNat = 34 then litF r
    else if signN (c :: r) = 0 then (noW, 0) else (⟨4, (c :: r).take (signN (c :: r)), 0⟩, signN (c :: r))
/-- All words from an offset on, by fuel. -/
def wordsF : Nat → List UInt8 → Nat → List Wd → List Wd × Nat × Int
  | 0, _, _, _ => ([], 0, 0)
  | f + 1, l, k, acc =>
    if l.length ≤ k + runN blB (l.drop k) then (acc ++ [noW], 0, 0)
    else if (wordF (l.drop (k + runN blB (l.drop k)))).2 = 0 then ([], k + runN blB (l.drop k), 20)
    else wordsF f l (k + runN blB (l.drop k) + (wordF (l.drop (k + runN blB (l.drop k)))).2) (acc ++ [(wordF (l.drop (k + runN blB (l.drop k)))).1])
def wordsOf (l : List UInt8) : List Wd × Nat × Int := if 400 < l.length then ([], 0, 4) else wordsF (l.length + 1) l 0 []

theorem runN_le (p : UInt8 → Bool) (l : List UInt8) : runN p l ≤ l.length := by
  induction l with
  | nil => simp [runN]
  | cons c r ih => unfold runN; split <;> simp <;> omega
theorem eqB_len {r : List UInt8} (h : eqB r = true) : 1 ≤ r.length := by
  cases r with
  | nil => simp [eqB] at h
  | cons d t => simp
theorem signN_le (l : List UInt8) : signN l ≤ l.length := by
  cases l with
  | nil => simp [signN]
  | cons c r =>
    unfold signN
    by_cases he : eqB r = true
    · have := eqB_len he
      simp only [he, if_true, List.length_cons]
      repeat' split
      all_goals omega
    · rw [Bool.not_eq_true] at he
      simp only [he, Bool.false_eq_true, if_false, List.length_cons]
      repeat' split
      all_goals omega
theorem litU_le (l : List UInt8) : ∀ (q : Bool) (t : List UInt8) (n : Nat), litU q l = some (t, n) → n ≤ l.length ∧ t.length ≤ n := by
  induction l with
  | nil => intro q t n h; cases q <;> simp [litU] at h
  | cons c r ih =>
    intro q t n h
    cases q with
    | false =>
      unfold litU at h
      by_cases h1 : c.toNat = 34
      · rw [if_pos h1] at h
        simp only [Option.some.injEq, Prod.mk.injEq] at h
        obtain ⟨rfl, rfl⟩ := h
        simp
      · rw [if_neg h1] at h
        by_cases h2 : c.toNat = 92
        · rw [if_pos h2] at h
          simp only [Option.map_eq_some_iff, Prod.mk.injEq, Prod.exists] at h
          obtain ⟨t', n', h3, rfl, rfl⟩ := h
          have := ih _ _ _ h3
          simp only [List.length_cons]
          omega
        · rw [if_neg h2] at h
          simp only [Option.map_eq_some_iff, Prod.mk.injEq, Prod.exists] at h
          obtain ⟨t', n', h3, rfl, rfl⟩ := h
          have := ih _ _ _ h3
          simp only [List.length_cons]
          omega
    | true =>
      unfold litU at h
      by_cases h1 : c.toNat = 34 ∨ c.toNat = 92
      · rw [if_pos h1] at h
        simp only [Option.map_eq_some_iff, Prod.mk.injEq, Prod.exists] at h
        obtain ⟨t', n', h3, rfl, rfl⟩ := h
        have := ih _ _ _ h3
        simp only [List.length_cons]
        omega
      · rw [if_neg h1] at h
        cases h
theorem wordF_le (l : List UInt8) : (wordF l).2 ≤ l.length := by
  cases l with
  | nil => simp [wordF]
  | cons c r =>
    have h1 := runN_le nameB (c :: r)
    have h2 := runN_le isDig (c :: r)
    have h3 := signN_le (c :: r)
    simp only [wordF]
    split
    · exact h1
    · split
      · split
        · exact h2
        · simp
      · split
        · unfold litF
          split
          · next t n h =>
            have := litU_le _ _ _ _ h
            split
            · simp only [List.length_cons]; omega
            · simp
          · simp
        · split
          · simp
          · exact h3
end Go.Proofs.YtllhlmdhnmdihaaDoor.P
