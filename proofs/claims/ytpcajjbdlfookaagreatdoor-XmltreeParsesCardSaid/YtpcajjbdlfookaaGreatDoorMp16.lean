/- xmllex: the reference: opening. -/
import Derived.Test.YtpcajjbdlfookaaGreatDoorMp15
import Derived.Test.YtpcajjbdlfookaaGreatDoorMp08
import Derived.Test.YtpcajjbdlfookaaGreatDoorMp06
import Derived.Test.YtpcajjbdlfookaaGreatDoorMp07
namespace Go.Proofs.YtpcajjbdlfookaaGreatDoor
open Go.RowKit
set_option linter.unusedVariables false

abbrev ZT : Value := .agg #[.int .i64 0, .string ⟨#[]⟩, .slice none 0 0, .bool false, .string ⟨#[]⟩]
theorem tup3 {v z : Value} {a b : Int} (h : a = b) : Ending.returned (.tuple #[v, .int .i64 a, z]) = .returned (.tuple #[v, .int .i64 b, z]) := by rw [h]
/-- How opening and token end. -/
def TkEnd (w : World) (R : Except Nat (Tk × Nat)) (e : Ending) (w' : World) : Prop := (match R with
  | .error z => e = .returned (.tuple #[ZT, .int .i64 0, .int .i64 (z : Nat)])
  | .ok (t, m) => ∃ v, e = .returned (.tuple #[v, .int .i64 (m : Nat), .int .i64 0]) ∧ VT t w' v) ∧ Below w.heap.size w w'
theorem OwnS.below {w w' : World} {base : Nat} {e : TypeId} {size : Nat} {v : Value} {n : Nat} {xs : List Value} (h : OwnS w base e size v n xs) (hb : Below w.heap.size w w') : OwnS w' base e size v n xs :=
  h.keep fun g hg => hb.block g (h.lt g hg)
theorem OwnS.base {w : World} {base : Nat} {e : TypeId} {size : Nat} {v : Value} {n : Nat} {xs : List Value} (h : OwnS w base e size v n xs) : ∀ g, v.ownBlock = some g → base ≤ g := by
  intro k hk
  rcases h.2 with ⟨rfl, _⟩ | ⟨g, off, cap, cur, rfl, hb, _⟩
  · simp [Value.ownBlock] at hk
  · simp [Value.ownBlock] at hk
    omega
theorem OwnS.ne {w : World} {base n size : Nat} {e : TypeId} {v : Value} {xs : List Value} (h : OwnS w base e size v n xs) {b : Nat} {cs : Array Value} {T : TypeId} {z : Nat × Nat} (hb : w.heap[b]? = some (.cells cs T z)) (hT : e ≠ T) : ∀ g, v.ownBlock = some g → g ≠ b := by
  intro k hk
  rcases h.2 with ⟨rfl, _⟩ | ⟨g, off, cap, cur, rfl, _, hg, _⟩
  · simp [Value.ownBlock] at hk
  · simp [Value.ownBlock] at hk
    subst hk
    rintro rfl
    rw [hg] at hb
    cases hb
    exact hT rfl
theorem AtsIs.ofOwnS {w : World} {base : Nat} {v : Value} {l : List (List UInt8 × List UInt8)} (h : OwnS w base 114 2 v l.length (acells l)) : AtsIs w v l := by
  obtain ⟨p, c, hv, h1, h2, h3⟩ := h.form
  refine ⟨p, c, hv, h1, h2, h3, fun hp => ?_⟩
  rcases h.2 with ⟨_, h0⟩ | ⟨g, off, cap, cur, hv2, _, hg, _⟩
  · omega
  · rw [hv] at hv2
    cases hv2
    exact ⟨g, off, rfl, ⟨_, _, hg⟩, fun j u hu => h.cell hv j u hu⟩
theorem srcA (w : World) (B : Nat) (s1 s2 : ByteArray) (hB : w.heap.size = B) : Src Tryz.prog 2 50 (.slice (some ⟨B, 0, none⟩) 1 1) 1 [.string s1, .string s2] (w.alloc (.cells #[.string s1, .string s2] 114)) := by
  subst hB
  refine Src.ofSlice _ Tryz.underlying50 _ 1 1 _ rfl (fun j u hj => ?_) (fun u hu => ?_)
  · match j, hj with
    | 0, hj => simp at hj; subst hj; simp [Addr.add]
    | 1, hj => simp at hj; subst hj; simp [Addr.add]
    | j + 2, hj => simp at hj
  · simp at hu
    rcases hu with rfl | rfl <;> rfl
theorem val_len {q : UInt8} {t s : List UInt8} {m : Nat} (h : valR q t = .ok (s, m)) : m ≤ t.length + 1 ∧ 1 ≤ t.length := by
  unfold valR at h
  split at h
  · simp at h
  · rename_i hi
    cases hr : rsT true (t.take (Lib.index t [q]).toNat) with
    | error z => rw [hr] at h; simp at h
    | ok u =>
      rw [hr] at h
      simp only [Except.ok.injEq, Prod.mk.injEq] at h
      have := idx1_lt t q
      omega
theorem attr_len {r : List UInt8} {x : List UInt8 × List UInt8} {m : Nat} (h : attrR r = .ok (x, m)) : m ≤ r.length := by
  by_cases h0 : tagR r = 0
  · rw [attr_no h0] at h
    simp at h
  cases hp : Lib.hasPrefix (r.drop (tagR r + blN (r.drop (tagR r)))) [61] with
  | false =>
    rw [attr_eq1 rfl rfl hp] at h
    simp at h
  | true =>
    rw [attr_go rfl rfl h0 hp rfl] at h
    generalize tagR r + blN (r.drop (tagR r)) + 1 + blN (r.drop (tagR r + blN (r.drop (tagR r)) + 1)) = a2 at h
    split at h
    · simp at h
    · cases hv : valR ((r.drop a2).headD 0) (r.drop (a2 + 1)) with
      | error z => rw [hv] at h; simp at h
      | ok sm =>
        obtain ⟨s, m2⟩ := sm
        rw [hv] at h
        simp only [Except.ok.injEq, Prod.mk.injEq] at h
        have := val_len hv
        rw [List.length_drop] at this
        omega

/-- The tag as far as it is read. -/
structure OqS (w : World) (b1 : Nat) (S : ByteArray) (l : List (List UInt8 × List UInt8)) (sv : Value) (wr : World) : Prop where
  bel : Below w.heap.size w wr
  za : wr.heap[w.heap.size]? = some REST
  zb : wr.heap[b1]? = some (.cells #[.int .i64 1, .string S, sv, .bool false, .string ⟨#[]⟩] 52 (0, 0))
  own : OwnS wr w.heap.size 114 2 sv l.length (acells l)
  hi : w.heap.size < b1
theorem OqS.go {w wr w' : World} {b1 : Nat} {S : ByteArray} {l : List (List UInt8 × List UInt8)} {sv : Value} (h : OqS w b1 S l sv wr) (hb : Below wr.heap.size wr w') : OqS w b1 S l sv w' :=
  ⟨h.bel.trans (hb.mono h.bel.size), (hb.block _ (Array.getElem?_eq_some_iff.1 h.za).1).trans h.za, (hb.block _ (Array.getElem?_eq_some_iff.1 h.zb).1).trans h.zb, h.own.below hb, h.hi⟩
theorem OqS.push {w wr w3 w4 : World} {b1 : Nat} {S : ByteArray} {l : List (List UInt8 × List UInt8)} {sv sv' : Value} {x : List UInt8 × List UInt8} (h : OqS w b1 S l sv wr) (hb : Below wr.heap.size wr w3) (hg : w3.grownBy w4 sv.ownBlock)
    (hown : OwnS w4 w.heap.size 114 2 sv' (l.length + 1) (acells l ++ [.string ⟨x.1.toArray⟩, .string ⟨x.2.toArray⟩])) : OqS w b1 S (l ++ [x]) sv' (w4.setCell ⟨b1, 2, none⟩ sv') := by
  have h3 := h.go hb
  have hz : ∀ i, i < w3.heap.size → sv.ownBlock ≠ some i → w4.heap[i]? = w3.heap[i]? := fun i hi hn => hg.block i hi (fun e => hn e.symm)
  have hb1 : w4.heap[b1]? = some (.cells #[.int .i64 1, .string S, sv, .bool false, .string ⟨#[]⟩] 52 (0, 0)) :=
    (hz b1 (Array.getElem?_eq_some_iff.1 h3.zb).1 (fun e => h3.own.ne h3.zb (by decide) b1 e rfl)).trans h3.zb
  refine ⟨(h3.bel.grown hg h3.bel.size h3.own.base).setCell (p := ⟨b1, 2, none⟩) (Nat.le_of_lt h.hi) _, ?_, ?_, ?_, h.hi⟩
  · rw [Below.heap_setCell _ _ _ _ (by have := h.hi; simp; omega)]
    exact (hz _ (Array.getElem?_eq_some_iff.1 h3.za).1 (fun e => h3.own.ne h3.za (by decide) _ e rfl)).trans h3.za
  · rw [block_set _ _ _ _ _ _ _ hb1]
    rfl
  · have hl : acells (l ++ [x]) = acells l ++ [.string ⟨x.1.toArray⟩, .string ⟨x.2.toArray⟩] := by unfold acells; rw [List.flatMap_append]; rfl
    rw [hl, List.length_append]
    exact hown.keep fun g hg2 => Below.heap_setCell _ _ _ _ (hown.ne hb1 (by decide) g hg2)
theorem OqS.zb4 {w wr w3 w4 : World} {b1 : Nat} {S : ByteArray} {l : List (List UInt8 × List UInt8)} {sv : Value} (h : OqS w b1 S l sv wr) (hb : Below wr.heap.size wr w3) (hg : w3.grownBy w4 sv.ownBlock) : w4.heap[b1]? = some (.cells #[.int .i64 1, .string S, sv, .bool false, .string ⟨#[]⟩] 52 (0, 0)) :=
  (hg.block b1 (Array.getElem?_eq_some_iff.1 (h.go hb).zb).1 (fun e => (h.go hb).own.ne (h.go hb).zb (by decide) b1 e.symm rfl)).trans (h.go hb).zb
theorem OqS.give {w wr w5 : World} {b1 : Nat} {S : ByteArray} {l : List (List UInt8 × List UInt8)} {sv : Value} (h : OqS w b1 S l sv wr) (hw : w5 = wr ∨ w5 = wr.setCell ⟨b1, 3, none⟩ (.bool true)) (em : Bool) :
    (put5 w5 w.heap.size (.int .i64 1) (.string S) sv (.bool em) (.string ⟨#[]⟩)).heap[w.heap.size]? = some (.cells #[.int .i64 1, .string S, sv, .bool em, .string ⟨#[]⟩] 52 (0, 0)) ∧
    Below w.heap.size w (put5 w5 w.heap.size (.int .i64 1) (.string S) sv (.bool em) (.string ⟨#[]⟩)) ∧ AtsIs (put5 w5 w.heap.size (.int .i64 1) (.string S) sv (.bool em) (.string ⟨#[]⟩)) sv l := by
  have hk1 : Chg [b1] wr w5 := by
    rcases hw with rfl | rfl
    · exact Chg.refl _ _
    · exact (Chg.refl _ _).set' _ _ _ (.inl (by simp))
  have hb5 : w5.heap[w.heap.size]? = some REST := (hk1.block _ (Array.getElem?_eq_some_iff.1 h.za).1 (by have := h.hi; simp; omega)).trans h.za
  have hk5 := put5_chg w5 w.heap.size (.int .i64 1) (.string S) sv (.bool em) (.string ⟨#[]⟩)
  refine ⟨put5_at hb5 _ _ _ _ _, ?_, AtsIs.ofOwnS (h.own.keep fun g hg => ?_)⟩
  · have hc : Chg [] w (put5 w5 w.heap.size (.int .i64 1) (.string S) sv (.bool em) (.string ⟨#[]⟩)) := ((Chg.of_below (S := []) h.bel).then hk1 (fun i hi => by simp at hi; subst hi; exact .inr (Nat.le_of_lt h.hi))).then hk5 (fun i hi => by simp at hi; subst hi; exact .inr (Nat.le_refl _))
    exact hc.below (Nat.le_refl _) (by simp)
  · have hgl := h.own.lt g hg
    exact (hk5.block g (Nat.lt_of_lt_of_le hgl hk1.size) (by simpa using h.own.ne h.za (by decide) g hg)).trans (hk1.block g hgl (by simpa using h.own.ne h.zb (by decide) g hg))
theorem put5_below {w W : World} (h : Below w.heap.size w W) (c0 c1 c2 c3 c4 : Value) : Below w.heap.size w (put5 W w.heap.size c0 c1 c2 c3 c4) :=
  ((Chg.of_below (S := []) h).then (put5_chg W w.heap.size c0 c1 c2 c3 c4) (fun i hi => by simp at hi; subst hi; exact .inr (Nat.le_refl _))).below (Nat.le_refl _) (by simp)
theorem results_opn (tm : Array Value) (V : World) (b : Nat) (c0 c1 c2 c3 c4 k z : Value) (h2 : tm.getD 2 undef = .pointer (some ⟨b, 0, none⟩)) (h3 : tm.getD 3 undef = k) (h4 : tm.getD 4 undef = z) (h : V.heap[b]? = some (.cells #[c0, c1, c2, c3, c4] 52 (0, 0))) :
    (results Tryz.f99 tm).run Tryz.prog V = .ok (.tuple #[.agg #[c0, c1, c2, c3, c4], k, z]) V := by
  obtain ⟨e0, e1, e2, e3, e4, _⟩ := cellsX5 h
  have h2' : tm[2]?.getD undef = .pointer (some ⟨b, 0, none⟩) := by simpa using h2
  have h3' : tm[3]?.getD undef = k := by simpa using h3
  have h4' : tm[4]?.getD undef = z := by simpa using h4
  simp [results, Tryz.results99, go_sem, h2', h3', h4', e0, e1, e2, e3, e4]
/-- The empty token is handed out. -/
theorem zero_give {w W : World} (hb : W.heap[w.heap.size]? = some REST) (h : Below w.heap.size w W) :
    (put5 W w.heap.size (.int .i64 0) (.string ⟨#[]⟩) (.slice none 0 0) (.bool false) (.string ⟨#[]⟩)).heap[w.heap.size]? = some (.cells #[.int .i64 0, .string ⟨#[]⟩, .slice none 0 0, .bool false, .string ⟨#[]⟩] 52 (0, 0)) ∧ Below w.heap.size w (put5 W w.heap.size (.int .i64 0) (.string ⟨#[]⟩) (.slice none 0 0) (.bool false) (.string ⟨#[]⟩)) :=
  ⟨put5_at hb _ _ _ _ _, put5_below h _ _ _ _ _⟩
theorem zero_give_alloc {w W : World} (hb : W.heap[w.heap.size]? = some REST) (h : Below w.heap.size w W) (o : Obj) :
    ((put5 W w.heap.size (.int .i64 0) (.string ⟨#[]⟩) (.slice none 0 0) (.bool false) (.string ⟨#[]⟩)).alloc o).heap[w.heap.size]? = some (.cells #[.int .i64 0, .string ⟨#[]⟩, .slice none 0 0, .bool false, .string ⟨#[]⟩] 52 (0, 0)) ∧ Below w.heap.size w ((put5 W w.heap.size (.int .i64 0) (.string ⟨#[]⟩) (.slice none 0 0) (.bool false) (.string ⟨#[]⟩)).alloc o) := by
  obtain ⟨h1, h2⟩ := zero_give hb h
  exact ⟨((bel_alloc _ o).block _ (Array.getElem?_eq_some_iff.1 h1).1).trans h1, h2.trans ((bel_alloc _ o).mono h2.size)⟩

def OqI (w : World) (b1 : Nat) (S : ByteArray) (xs : List UInt8) (R : Except Nat ((List (List UInt8 × List UInt8) × Bool) × Nat)) (k : Nat) (wr : World) : Prop :=
  ∃ g l sv, 1 + k ≤ xs.length ∧ l.length ≤ k ∧ xs.length - (1 + k) < g ∧ opnF attrR g (xs.drop (1 + k)) k l = R ∧ OqS w b1 S l sv wr
def upO (nm : List UInt8) (R : Except Nat ((List (List UInt8 × List UInt8) × Bool) × Nat)) : Except Nat (Tk × Nat) := upT 1 (opnV nm R)
set_option maxRecDepth 100000 in
set_option maxHeartbeats 4000000 in
theorem ropening_c (w : World) (v : Value) (xs : List UInt8) (h : Rd w v xs) (h1 : 1 ≤ xs.length) (hl : xs.length ≤ 8388608) : Calls Tryz.prog 99 #[v] w (TkEnd w (upT 1 (opnR (xs.drop 1)))) := by
  obtain ⟨p, c, rfl⟩ := rd_form h
  obtain ⟨L, hL⟩ : ∃ L, L = xs.length := ⟨_, rfl⟩
  obtain ⟨i0, hin, hz0, hz1, hz2⟩ := infoAtX
  rw [← hL] at h hl h1
  have h0 := h.below (bel_alloc w REST)
  obtain ⟨pA, mA, cA, hsA, hrA⟩ := slice_from h0 1 h1
  rw [show ((1 : Nat) : Int) = 1 from rfl] at hsA
  have HNM := Lib.hid (rname_c (w.alloc REST) _ (xs.drop 1) hrA (by rw [List.length_drop]; omega))
  have hnl := tagR_le (xs.drop 1)
  obtain ⟨n, hn⟩ : ∃ n, n = tagR (xs.drop 1) := ⟨_, rfl⟩
  rw [← hn] at HNM hnl
  rw [List.length_drop, ← hL] at hnl
  rw [← hL]
  have HR := Lib.hid h
  have HL := Lib.hid hL
  have HN := Lib.hid hn
  clear h h0 hL hn hrA
  by_cases hn0 : n = 0
  · rw [show opnR (xs.drop 1) = .error 11 from by unfold opnR; rw [← HN.out, if_pos hn0]]
    have t0 : ((n : Int) == 0) = true := by simpa using hn0
    clear hn0
    go_enter Tryz.func99, Tryz.ntmps99
    go_wp2_with fail
    refine HNM.out.mono ?_
    rintro e w1 ⟨rfl, hb1⟩
    have hbx : w1.heap[w.heap.size]? = some REST := (hb1.block _ (by simp)).trans (heap_alloc_new w _)
    have hbw : Below w.heap.size w w1 := (bel_alloc w REST).trans (hb1.mono (by simp))
    have HZ := Lib.hid (zero_give hbx hbw)
    obtain ⟨z0, z1, z2, z3, z4, zz⟩ := cellsX5 hbx
    clear hb1 hbx hbw
    go_wp2_with fail
    refine bodyPost_ret (results_opn _ _ w.heap.size _ _ _ _ _ _ _ rfl rfl rfl HZ.out.1) rfl ?_
    exact ⟨rfl, HZ.out.2⟩
  obtain ⟨R, hR⟩ : ∃ R, R = opnF attrR ((xs.drop 1).length + 1) (xs.drop (1 + n)) n [] := ⟨_, rfl⟩
  have hA : upT 1 (opnR (xs.drop 1)) = upO ((xs.drop 1).take n) R := by
    unfold opnR
    rw [← HN.out, if_neg hn0, List.drop_drop, hR]
    rfl
  rw [hA]
  obtain ⟨nm, hnm⟩ : ∃ nm, nm = (xs.drop 1).take n := ⟨_, rfl⟩
  rw [← hnm]
  obtain ⟨S, hS⟩ : ∃ S, S = (⟨nm.toArray⟩ : ByteArray) := ⟨_, rfl⟩
  have HNM2 := Lib.hid hnm
  have HSS := Lib.hid hS
  have HRR := Lib.hid hR
  have t0 : ((n : Int) == 0) = false := by simpa using hn0
  clear hn0 hA hR hS hnm
  go_enter Tryz.func99, Tryz.ntmps99
  go_wp2_with fail
  refine HNM.out.mono ?_
  rintro e w1 ⟨rfl, hb1⟩
  have hsz1 : w.heap.size < w1.heap.size := by have := hb1.size; simp at this; omega
  have hbx : w1.heap[w.heap.size]? = some REST := (hb1.block _ (by simp)).trans (heap_alloc_new w _)
  have hbw : Below w.heap.size w w1 := (bel_alloc w REST).trans (hb1.mono (by simp))
  obtain ⟨pB, mB, cB, hsB, hrB⟩ := slice_mid (HR.out.below hbw) 1 (1 + n) (by omega) (by omega)
  rw [show ((1 + n : Nat) : Int) = 1 + (n : Int) by omega, show ((1 : Nat) : Int) = 1 from rfl] at hsB
  rw [show 1 + n - 1 = n by omega] at hrB
  have hcB := hrB.conv (P := Tryz.prog) 22 5 9 Tryz.underlying22 Tryz.underlying5 Tryz.underlying9
  rw [← HNM2.out, ← HSS.out] at hcB
  have HI := Lib.hid (show OqI w w1.heap.size S xs R n (w1.alloc (.cells #[.int .i64 1, .string S, .slice none 0 0, .bool false, .string ⟨#[]⟩] 52)) from
    ⟨_, [], .slice none 0 0, by have := HL.out; omega, Nat.zero_le _, by rw [List.length_drop]; omega, HRR.out.symm, ⟨hbw.trans ((bel_alloc w1 _).mono hbw.size), ((bel_alloc w1 _).block _ hsz1).trans hbx, heap_alloc_new w1 _, OwnS.nil _ _ _ _, hsz1⟩⟩)
  clear hb1 hbx hbw hrB
  go_wp2_with fail
  go_loopw [7] (fun s7 wr => ∃ k : Nat, s7 = .int .i64 (1 + (k : Int)) ∧ OqI w w1.heap.size S xs R k wr) (fun s7 _ => L + 1 - (intOf s7).toNat)
  case atStart => exact ⟨n, rfl, HI.out⟩
  case round =>
    obtain ⟨k, rfl, g, l, sv, hkL, hlk, hg, hop, ho⟩ := hrel
    obtain ⟨g, rfl⟩ : ∃ q, g = q + 1 := ⟨g - 1, by omega⟩
    have HO := Lib.hid ho
    have hkL1 : 1 + k ≤ L := by rw [HL.out]; exact hkL
    have HLK := Lib.hid hlk
    have HG := Lib.hid hg
    have hrr := HR.out.below ho.bel
    obtain ⟨p1, m1, c1, hs1, hr1⟩ := slice_from hrr (1 + k) hkL1
    rw [show ((1 + k : Nat) : Int) = 1 + (k : Int) by omega] at hs1
    have HBL := rblanks_c wr _ (xs.drop (1 + k)) hr1 (by rw [List.length_drop, ← HL.out]; omega)
    have hml := blN_le (xs.drop (1 + k))
    obtain ⟨m0, hm0⟩ : ∃ m0, m0 = blN (xs.drop (1 + k)) := ⟨_, rfl⟩
    rw [← hm0] at HBL hml
    rw [List.length_drop, ← HL.out] at hml
    have HBL := Lib.hid HBL
    have hdd : (xs.drop (1 + k)).drop m0 = xs.drop (1 + k + m0) := by rw [List.drop_drop]
    have hkm : 1 + k + m0 ≤ L := by omega
    obtain ⟨p2, m2, c2, hs2, hr2⟩ := slice_from hrr (1 + k + m0) hkm
    rw [show ((1 + k + m0 : Nat) : Int) = 1 + (k : Int) + (m0 : Int) by omega] at hs2
    have HB62 := begins_c wr _ (xs.drop (1 + k + m0)) ⟨#[62]⟩ hr2
    rw [show (⟨#[62]⟩ : ByteArray).data.toList = [62] from rfl] at HB62
    have HB47 := begins_c wr _ (xs.drop (1 + k + m0)) ⟨#[47, 62]⟩ hr2
    rw [show (⟨#[47, 62]⟩ : ByteArray).data.toList = [47, 62] from rfl] at HB47
    have hsv := ho.own.form
    obtain ⟨pv, cv, hsv, _⟩ := hsv
    subst hsv
    obtain ⟨q0, q1, q2, q3, q4, qz⟩ := cellsX5 ho.zb
    obtain ⟨z0, z1, z2, z3, z4, zz⟩ := cellsX5 ho.za
    have hlt1 := ho.hi
    cases hx1 : Lib.hasPrefix (xs.drop (1 + k + m0)) [62] with
    | true =>
      rw [hx1] at HB62
      have HB62 := Lib.hid HB62
      have HGV := Lib.hid (ho.give (.inl rfl) false)
      rw [opn_gt (by rw [← hm0, hdd]; exact hx1), ← hm0] at hop
      have HRE := Lib.hid hop
      clear ho hop hx1 hdd hm0 hrr hr1 hr2 hg HB47
      go_wp2_with fail
      refine HBL.out.mono ?_
      rintro e w2 ⟨rfl, rfl⟩
      go_wp2_with fail
      refine HB62.out.mono ?_
      rintro e w3 ⟨rfl, rfl⟩
      go_wp2_with fail
      refine bodyPost_ret (results_opn _ _ w.heap.size _ _ _ _ _ _ _ rfl rfl rfl HGV.out.1) rfl ?_
      rw [← HRE.out]
      exact ⟨⟨_, tup3 (by omega), ⟨_, by rw [HSS.out]; rfl, HGV.out.2.2⟩⟩, HGV.out.2.1⟩
    | false =>
      rw [hx1] at HB62
      have HB62 := Lib.hid HB62
      cases hx2 : Lib.hasPrefix (xs.drop (1 + k + m0)) [47, 62] with
      | true =>
        rw [hx2] at HB47
        have HB47 := Lib.hid HB47
        have HGV := Lib.hid (ho.give (.inr rfl) true)
        rw [opn_em (by rw [← hm0, hdd]; exact hx1) (by rw [← hm0, hdd]; exact hx2), ← hm0] at hop
        have HRE := Lib.hid hop
        have hz0 := (cellsX5 ((Below.heap_setCell wr ⟨w1.heap.size, 3, none⟩ (.bool true) w.heap.size (by simp; omega)).trans ho.za))
        obtain ⟨y0, y1, y2, y3, y4, yz⟩ := hz0
        clear ho hop hx1 hx2 hdd hm0 hrr hr1 hr2 hg
        go_wp2_with fail
        refine HBL.out.mono ?_
        rintro e w2 ⟨rfl, rfl⟩
        go_wp2_with fail
        refine HB62.out.mono ?_
        rintro e w3 ⟨rfl, rfl⟩
        go_wp2_with fail
        refine HB47.out.mono ?_
        rintro e w4 ⟨rfl, rfl⟩
        go_wp2_with fail
        refine bodyPost_ret (results_opn _ _ w.heap.size _ _ _ _ _ _ _ rfl rfl rfl HGV.out.1) rfl ?_
        rw [← HRE.out]
        exact ⟨⟨_, tup3 (by omega), ⟨_, by rw [HSS.out]; rfl, HGV.out.2.2⟩⟩, HGV.out.2.1⟩
      | false =>
        rw [hx2] at HB47
        have HB47 := Lib.hid HB47
        have HZV := Lib.hid (zero_give ho.za ho.bel)
        by_cases hm : m0 = 0
        · rw [opn_ap (by rw [← hm0, hdd]; exact hx1) (by rw [← hm0, hdd]; exact hx2) (by rw [← hm0]; exact hm)] at hop
          have HRE := Lib.hid hop
          have tm : ((m0 : Int) == 0) = true := by simpa using hm
          clear ho hop hx1 hx2 hdd hm0 hrr hr1 hr2 hg hm
          go_wp2_with fail
          refine HBL.out.mono ?_
          rintro e w2 ⟨rfl, rfl⟩
          go_wp2_with fail
          refine HB62.out.mono ?_
          rintro e w3 ⟨rfl, rfl⟩
          go_wp2_with fail
          refine HB47.out.mono ?_
          rintro e w4 ⟨rfl, rfl⟩
          go_wp2_with fail
          refine bodyPost_ret (results_opn _ _ w.heap.size _ _ _ _ _ _ _ rfl rfl rfl HZV.out.1) rfl ?_
          rw [← HRE.out]
          exact ⟨rfl, HZV.out.2⟩
        · have tm : ((m0 : Int) == 0) = false := by simpa using hm
          rw [opn_go (by rw [← hm0, hdd]; exact hx1) (by rw [← hm0, hdd]; exact hx2) (by rw [← hm0]; exact hm), ← hm0, hdd] at hop
          have HAT := rattribute_c wr _ (xs.drop (1 + k + m0)) hr2 (by rw [List.length_drop, ← HL.out]; omega)
          have hnz := nz_attrP (xs.drop (1 + k + m0))
          rw [attr_eq] at hnz
          obtain ⟨A, hA⟩ : ∃ A, A = attrR (xs.drop (1 + k + m0)) := ⟨_, rfl⟩
          rw [← hA] at HAT hop hnz
          have HAT := Lib.hid HAT
          cases A with
          | error z =>
            have hzz := hnz z rfl
            have tz : ((z : Int) != 0) = true := by simpa using hzz
            have HRE := Lib.hid (show .error z = R from hop)
            clear ho hop hx1 hx2 hdd hm0 hrr hr1 hr2 hg hm hA hnz hzz
            go_wp2_with fail
            refine HBL.out.mono ?_
            rintro e w2 ⟨rfl, rfl⟩
            go_wp2_with fail
            refine HB62.out.mono ?_
            rintro e w3 ⟨rfl, rfl⟩
            go_wp2_with fail
            refine HB47.out.mono ?_
            rintro e w4 ⟨rfl, rfl⟩
            go_wp2_with fail
            refine HAT.out.mono ?_
            rintro e w5 ⟨⟨s1, s2, n5, rfl⟩, hb5⟩
            have ho5 := (HO.out.go hb5).go (bel_alloc w5 (.cells #[.string s1, .string s2] 114))
            obtain ⟨y0, y1, y2, y3, y4, yz⟩ := cellsX5 (HO.out.go hb5).za
            have HZ5 := Lib.hid (zero_give_alloc (HO.out.go hb5).za (HO.out.go hb5).bel (.cells #[.string s1, .string s2] 114))
            have hlt5 : w.heap.size < w5.heap.size := (Array.getElem?_eq_some_iff.1 (HO.out.go hb5).za).1
            clear ho5 hb5
            go_wp2_with fail
            refine bodyPost_ret (results_opn _ _ w.heap.size _ _ _ _ _ _ _ rfl rfl rfl HZ5.out.1) rfl ?_
            rw [← HRE.out]
            exact ⟨rfl, HZ5.out.2⟩
          | ok xm =>
            obtain ⟨x, m⟩ := xm
            have hop : opnF attrR g (xs.drop (1 + k + m0 + m)) (k + m0 + m) (l ++ [x]) = R := by
              rw [← hop]
              dsimp only
              rw [List.drop_drop, Nat.add_assoc (1 + k) m0 m]
            have hmL : 1 + k + m0 + m ≤ L := by
              have := attr_len hA.symm
              rw [List.length_drop, ← HL.out] at this
              omega
            have HOP := Lib.hid hop
            have HMM := Lib.hid (show 1 ≤ m0 from by omega)
            obtain ⟨S1, hS1⟩ : ∃ S1, S1 = (⟨x.1.toArray⟩ : ByteArray) := ⟨_, rfl⟩
            obtain ⟨S2, hS2⟩ : ∃ S2, S2 = (⟨x.2.toArray⟩ : ByteArray) := ⟨_, rfl⟩
            have HAT : Hid (Calls Tryz.prog 118 #[.slice p2 m2 c2] wr fun e w' => e = .returned (.tuple #[.agg #[.string S1, .string S2], .int .i64 (m : Nat), .int .i64 0]) ∧ Below wr.heap.size wr w') := by
              rw [hS1, hS2]
              exact HAT
            have HS1 := Lib.hid hS1
            have HS2 := Lib.hid hS2
            clear ho hop hx1 hx2 hdd hm0 hrr hr1 hr2 hg hm hA hnz hS1 hS2
            go_wp2_with fail
            refine HBL.out.mono ?_
            rintro e w2 ⟨rfl, rfl⟩
            go_wp2_with fail
            refine HB62.out.mono ?_
            rintro e w3 ⟨rfl, rfl⟩
            go_wp2_with fail
            refine HB47.out.mono ?_
            rintro e w4 ⟨rfl, rfl⟩
            go_wp2_with fail
            refine HAT.out.mono ?_
            rintro e w5 ⟨rfl, hb5⟩
            have ho5 := HO.out.go hb5
            have ho6 := ho5.go (bel_alloc w5 (.cells #[.string S1, .string S2] 114))
            have HO5 := Lib.hid ho5
            have HO6 := Lib.hid ho6
            obtain ⟨y0, y1, y2, y3, y4, yz⟩ := cellsX5 ho5.zb
            have hlt5 : w1.heap.size < w5.heap.size := (Array.getElem?_eq_some_iff.1 ho5.zb).1
            have HSZ5 := Lib.hid ho5.bel.size
            have hll : l.length ≤ 8388608 := by have := HLK.out; omega
            clear ho5 ho6 hb5 q0 q1 q2 q3 q4 qz z0 z1 z2 z3 z4 zz
            go_wp2_with (at_builtin; refine wpList_append_S rfl _ _ 50 50 rfl w.heap.size 114 i0 (.agg #[.string ⟨#[]⟩, .string ⟨#[]⟩]) 2 32 Tryz.underlying50 hin hz0 hz1 hz2 rfl (Nat.succ_pos _) (.slice pv l.length cv) l.length (acells l) rfl ((HO6.out.go (bel_alloc _ _)).own) _ 1 _ rfl (srcA (w5.alloc _) (w5.heap.size + 1) S1 S2 (by simp)) ?c1 ?c2 ?c3 ?_)
            case c1 => unfold maxLen; omega
            case c2 => omega
            case c3 => have := HSZ5.out; simp; omega
            intro v' w6 hown6 hgrow6 _
            obtain ⟨tp, tc, rfl, htc, _⟩ := hown6.form
            have HP := Lib.hid (OqS.push (x := x) HO6.out (bel_alloc _ _) hgrow6 (by rw [← HS1.out, ← HS2.out]; exact hown6))
            obtain ⟨x0, x1, x2, x3, x4, xz⟩ := cellsX5 (HO6.out.zb4 (bel_alloc _ _) hgrow6)
            clear hown6 hgrow6 htc y0 y1 y2 y3 y4 yz
            go_wp2_with fail
            go_roundw
            case rel => exact ⟨k + m0 + m, by go_num, g, l ++ [x], _, by have := HL.out; omega, by have := HLK.out; have := HMM.out; simp; omega, by have := HG.out; have := HMM.out; have := HL.out; omega, by rw [← HOP.out, show 1 + (k + m0 + m) = 1 + k + m0 + m by omega], HP.out⟩
            case measure => have := HMM.out; simp [intOf]; omega
end Go.Proofs.YtpcajjbdlfookaaGreatDoor
