/- xmltree: the writer: text, attribute; the names of attributes. -/
import Derived.Test.YtpcajjbdlfookaaGreatDoorMw32
import Derived.Test.YtpcajjbdlfookaaGreatDoorMw31
import Derived.Deep.QuietTactic
import Derived.BigQuiet
import Derived.StillTail
import Derived.Deep.RegionHeld3
namespace Go.Proofs.YtpcajjbdlfookaaGreatDoor
open Go Go.RowKit Go.Deep
set_option linter.unusedVariables false
set_option linter.unusedSimpArgs false

theorem escB_one (x : UInt8) : 1 ≤ (escB x).length := by
  unfold escB
  repeat' split
  all_goals simp
theorem escF_ge (l : List UInt8) : l.length ≤ (escF l).length := by
  induction l with
  | nil => simp
  | cons x l ih =>
    have := escB_one x
    unfold escF at ih ⊢
    rw [List.flatMap_cons, List.length_append, List.length_cons]
    omega
theorem PutE.mk {W0 w w' : World} {wb : Nat} {L xs : List UInt8} {v : Value} {f : Bool} (h : WX W0.heap.size wb L xs v f w') (hk : Kp wb w w') (hb : Below W0.heap.size W0 w') : PutE W0 wb w L w' := ⟨⟨xs, v, f, h⟩, hk, hb⟩

theorem PutE.step {W0 w w1 w2 : World} {wb : Nat} {L : List UInt8} (h : PutE W0 wb w1 L w2) (hk : Kp wb w w1) : PutE W0 wb w L w2 := ⟨h.1, hk.trans h.2.1, h.2.2⟩
theorem PutE.cast {W0 w w' : World} {wb : Nat} {L L' : List UInt8} (h : PutE W0 wb w L w') (e : L = L') : PutE W0 wb w L' w' := e ▸ h
/-- put of a list that was just built. -/
theorem put_new {W0 w w1 : World} {wb n : Nat} {L xs : List UInt8} {v : Value} {f : Bool} {cs : Array Value} (parts : List ByteArray) (hcs : cs = (parts.map Value.string).toArray) (hn : n = parts.length) (h0 : Below W0.heap.size W0 w) (h : WX W0.heap.size wb L xs v f w) (hb : Below w.heap.size w w1) (hl : parts.length ≤ 1000) (hsz : ∀ k (h : k < parts.length), parts[k].size ≤ 1152921504606846976) :
    Calls Tryz.prog 41 #[.pointer (some ⟨wb, 0, none⟩), .slice (some ⟨w1.heap.size, 0, none⟩) n n] (w1.alloc (.cells cs 9)) fun e w' => e = .returned (.tuple #[]) ∧ PutE W0 wb w (L ++ parts.flatMap (fun s => s.data.toList)) w' := by
  subst hcs hn
  have hb2 : Below w.heap.size w (w1.alloc (.cells (parts.map Value.string).toArray 9)) := hb.trans ((box_belT w1 _).mono hb.size)
  have hlt := h.lt
  have hs := hb.size
  refine (put_c (T := 9) (z := (0, 0)) (h0.trans (hb2.mono h0.size)) (h.below hb2) (heap_alloc_new w1 _) (by decide) (by omega) hl hsz).mono ?_
  rintro e w' ⟨he, hp⟩
  exact ⟨he, hp.step (Kp.of_below hb2)⟩

set_option maxRecDepth 100000 in
set_option maxHeartbeats 4000000 in
theorem wtext_c {W0 w : World} {wb : Nat} {L xs : List UInt8} {v : Value} {f : Bool} (h0 : Below W0.heap.size W0 w) (h : WX W0.heap.size wb L xs v f w) (s : ByteArray) :
    Calls Tryz.prog 45 #[.pointer (some ⟨wb, 0, none⟩), .string s] w fun e w' => e = .returned (.tuple #[]) ∧ PutE W0 wb w (L ++ escF s.data.toList) w' := by
  by_cases hs : 65536 < s.size
  · have hq : decide ((65536 : Int) < (s.size : Int)) = true := decide_eq_true (by omega)
    have HF := Lib.hid (PutE.mk (h.fill (L' := L ++ escF s.data.toList) (by have := escF_ge s.data.toList; rw [size_data] at this; rw [List.length_append]; omega)) (Kp.set wb w 1 _) (h0.setCell (p := ⟨wb, 1, none⟩) h.low _))
    obtain ⟨x0, x1, xz⟩ := h.cells
    clear h0 h
    go_enter Tryz.func45, Tryz.ntmps45
    go_wp2_with fail
    refine bodyPost_ret (results_none rfl _ _ _) rfl ?_
    exact ⟨rfl, HF.out⟩
  · have hq : decide ((65536 : Int) < (s.size : Int)) = false := decide_eq_false (by omega)
    have HES := Lib.hid (escape_c w s (by omega))
    have hel := escF_len s.data.toList
    rw [size_data] at hel
    obtain ⟨S, hS⟩ : ∃ S : ByteArray, S = ⟨(escF s.data.toList).toArray⟩ := ⟨_, rfl⟩
    have HS := Lib.hid hS
    have hsz : S.size ≤ 1152921504606846976 := by
      rw [hS]
      have : (ByteArray.mk (escF s.data.toList).toArray).size = (escF s.data.toList).length := rfl
      omega
    have HSZ := Lib.hid hsz
    have hsd : S.data.toList = escF s.data.toList := by rw [hS]
    have HSD := Lib.hid hsd
    have HX := Lib.hid h
    have H0 := Lib.hid h0
    rw [← hS] at HES
    clear h0 h hel hS hsz hsd
    go_enter Tryz.func45, Tryz.ntmps45
    go_wp2_with fail
    refine (HES.out).mono ?_
    rintro e w1 ⟨rfl, hb⟩
    have HB1 := Lib.hid hb
    clear hb
    have HPU := Lib.hid (put_new (cs := #[.string S]) (n := 1) [S] rfl rfl H0.out HX.out HB1.out (by simp) (by simpa using HSZ.out))
    go_wp2_with fail
    refine (HPU.out).mono ?_
    rintro e w2 ⟨rfl, hp⟩
    have HF := Lib.hid (hp.cast (L' := L ++ escF s.data.toList) (by simp [HSD.out]))
    clear hp
    go_wp2_with fail
    refine bodyPost_end (results_none rfl _ _ _) rfl ?_
    exact ⟨rfl, HF.out⟩

set_option maxRecDepth 100000 in
set_option maxHeartbeats 4000000 in
theorem wattribute_c {W0 w : World} {wb : Nat} {L xs : List UInt8} {v : Value} {f : Bool} (h0 : Below W0.heap.size W0 w) (h : WX W0.heap.size wb L xs v f w) (nm s : ByteArray) (hnm : nm.size ≤ 1152921504606846976) :
    Calls Tryz.prog 42 #[.pointer (some ⟨wb, 0, none⟩), .string nm, .string s] w fun e w' => e = .returned (.tuple #[]) ∧ PutE W0 wb w (L ++ attD nm.data.toList s.data.toList) w' := by
  have HP1 := Lib.hid (put_new (cs := #[.string ⟨#[32]⟩, .string nm, .string ⟨#[61, 34]⟩]) (n := 3) [⟨#[32]⟩, nm, ⟨#[61, 34]⟩] rfl rfl h0 h (Below.refl _ _) (by simp) (by
    intro k hk
    match k, hk with
    | 0, _ => show (1 : Nat) ≤ 1152921504606846976; omega
    | 1, _ => exact hnm
    | 2, _ => show (2 : Nat) ≤ 1152921504606846976; omega))
  clear h0 h hnm
  go_enter Tryz.func42, Tryz.ntmps42
  go_wp2_with fail
  refine (HP1.out).mono ?_
  rintro e w1 ⟨rfl, ⟨xs1, v1, f1, hx1⟩, hk1, hb1⟩
  have HT := Lib.hid (wtext_c hb1 hx1 s)
  have HK1 := Lib.hid hk1
  clear hx1 hk1 hb1
  go_wp2_with fail
  refine (HT.out).mono ?_
  rintro e w2 ⟨rfl, ⟨xs2, v2, f2, hx2⟩, hk2, hb2⟩
  have HP2 := Lib.hid (put_new (cs := #[.string ⟨#[34]⟩]) (n := 1) [⟨#[34]⟩] rfl rfl hb2 hx2 (Below.refl _ _) (by simp) (by
    intro k hk
    match k, hk with
    | 0, _ => show (1 : Nat) ≤ 1152921504606846976; omega))
  have HK2 := Lib.hid (HK1.out.trans hk2)
  clear hx2 hk2 hb2
  go_wp2_with fail
  refine (HP2.out).mono ?_
  rintro e w3 ⟨rfl, hp⟩
  have HF := Lib.hid ((hp.step HK2.out).cast (L' := L ++ attD nm.data.toList s.data.toList) (by simp [attD]))
  clear hp
  go_wp2_with fail
  refine bodyPost_end (results_none rfl _ _ _) rfl ?_
  exact ⟨rfl, HF.out⟩

set_option maxRecDepth 100000 in
set_option maxHeartbeats 4000000 in
theorem prefix_c (w : World) (i : Nat) (hi : i ≤ 1048576) : Calls Tryz.prog 43 #[.int .i64 i] w fun e w' => e = .returned (.string ⟨(pfxD i).toArray⟩) ∧ Below w.heap.size w w' := by
  have HT := Lib.hid (text_c w (i : Int) (by omega) (by omega))
  have HL := Lib.hid (txt_size 0 (i : Int) (by omega) (by omega))
  have HC := Lib.hid (show (⟨#[110]⟩ : ByteArray) ++ ⟨(txt (i : Int)).toArray⟩ = ⟨(pfxD i).toArray⟩ from cat [110] (txt (i : Int)))
  obtain ⟨S, hS⟩ : ∃ S : ByteArray, S = ⟨(txt (i : Int)).toArray⟩ := ⟨_, rfl⟩
  have hsz : S.size ≤ 25 := by rw [hS]; exact HL.out
  rw [← hS] at HT HC
  clear hi hS
  go_enter Tryz.func43, Tryz.ntmps43
  go_wp2_with fail
  refine (HT.out).mono ?_
  rintro e w1 ⟨rfl, hb⟩
  have HB := Lib.hid hb
  clear hb
  go_wp2_with fail
  go_ret
  exact ⟨by rw [← HC.out]; rfl, HB.out⟩

set_option maxRecDepth 100000 in
set_option maxHeartbeats 4000000 in
theorem qualified_c (w : World) (i : Nat) (hi : i ≤ 1048576) (s n v : ByteArray) (hs : smA (s, n, v)) : Calls Tryz.prog 44 #[.agg #[.string s, .string n, .string v], .int .i64 i] w fun e w' => (∃ Q : ByteArray, e = .returned (.string Q) ∧ Q.data.toList = qualD i (s, n, v) ∧ Q.size ≤ 140737488351264) ∧ Below w.heap.size w w' := by
  obtain ⟨h1, h2, h3⟩ := hs
  dsimp only at h1 h2 h3
  have HP := Lib.hid (fun W => prefix_c W i hi)
  have hpl := pfxD_len i hi
  obtain ⟨P, hP⟩ : ∃ P : ByteArray, P = ⟨(pfxD i).toArray⟩ := ⟨_, rfl⟩
  have hps : P.size ≤ 26 := by rw [hP]; exact hpl
  have HPD := Lib.hid (show P.data.toList = pfxD i from by rw [hP])
  rw [← hP] at HP
  obtain ⟨b1, t1⟩ : ∃ b, s.toList.isEmpty = b := ⟨_, rfl⟩
  obtain ⟨b2, t2⟩ : ∃ b, (s.toList == [104, 116, 116, 112, 58, 47, 47, 119, 119, 119, 46, 119, 51, 46, 111, 114, 103, 47, 88, 77, 76, 47, 49, 57, 57, 56, 47, 110, 97, 109, 101, 115, 112, 97, 99, 101]) = b := ⟨_, rfl⟩
  have HQ := Lib.hid (show qualD i (s, n, v) = if b1 = true then n.data.toList else if b2 = true then [120, 109, 108, 58] ++ n.data.toList else pfxD i ++ [58] ++ n.data.toList from by unfold qualD; rw [t1, t2])
  have HBZ := Lib.hid (box_belT w (.cells #[.string s, .string n, .string v] 58))
  clear hi hpl hP
  cases b1
  rotate_left
  · go_enter Tryz.func44, Tryz.ntmps44
    go_wp2_with fail
    go_ret
    exact ⟨⟨n, rfl, by rw [HQ.out]; simp, by omega⟩, HBZ.out⟩
  cases b2
  rotate_left
  · go_enter Tryz.func44, Tryz.ntmps44
    go_wp2_with fail
    go_ret
    refine ⟨⟨_, rfl, by rw [HQ.out]; simp [ByteArray.data_append], ?_⟩, HBZ.out⟩
    rw [ByteArray.size_append]
    have : (ByteArray.mk #[120, 109, 108, 58]).size = 4 := rfl
    omega
  go_enter Tryz.func44, Tryz.ntmps44
  go_wp2_with fail
  go_region_with (go_at_call 43; refine (HP.out _).mono ?_; rintro e w1 ⟨rfl, hb⟩; have hb1 := (show Below (w.alloc (.cells #[.string s, .string n, .string v] 58)).heap.size (w.alloc (.cells #[.string s, .string n, .string v] 58)) w1 from by first | exact hb | exact (Go.below_drewN (Below.refl _ _) _).trans hb | exact ((Below.refl _ _).drew).trans hb); have HB1 := Lib.hid hb1; obtain ⟨c0, c1, c2, cz⟩ := box3 hb1; clear hb hb1)
  all_goals
    go_wp2_with fail
    go_ret
    refine ⟨⟨_, rfl, by rw [HQ.out]; simp [ByteArray.data_append, HPD.out], ?_⟩, HBZ.out.trans (HB1.out.mono HBZ.out.size)⟩
    rw [ByteArray.size_append, ByteArray.size_append]
    have : (ByteArray.mk #[58]).size = 1 := rfl
    omega
end Go.Proofs.YtpcajjbdlfookaaGreatDoor

/- a drawn region whose last operation is forced last: the others by themselves, then the last. -/
namespace Go.Proofs.YtpcajjbdlfookaaGreatDoor
open Go
set_option linter.unusedVariables false

section
variable {P : Program} {md : Region.Mode} {l : List Oper} {n : Nat} {Q : Exit → Act → World → Prop}

/-- Behind the others: the last one. -/
def cutPost (P : Program) (l : List Oper) (n : Nat) (Q : Exit → Act → World → Prop) : Exit → Act → World → Prop
  | .normal, a, w => wpList P l.toArray Q (l.drop n) a w
  | e, a, w => Q e a w

def cutB (md : Region.Mode) (l : List Oper) (n : Nat) : Bool :=
  decide (l.length = n + 1) && Region.sinkB md l.toArray n && Region.chainB md l.toArray n &&
  (List.range (n + 1)).all fun j => match l[j]? with
    | some o => (o.after.all fun e => decide (e.on < j)) && (match o.guard with | some (g, _) => decide (g < n) | none => true)
    | none => true

theorem Oper.wp_post {o : Oper} {a : Act} {w : World} {K : Act → World → Prop} {Q Q' : Exit → Act → World → Prop} (h1 : ∀ c a w, Q' (.panic c) a w → Q (.panic c) a w) (h2 : LetsOut Q' → LetsOut Q)
    (hh : o.wp P a w K Q') : o.wp P a w K Q := by
  unfold Oper.wp at *
  generalize (execOp a.eval o).run P w = r at *
  cases r with
  | ok m w' =>
    cases m <;> simp only [Oper.upon] at hh ⊢ <;>
      first
        | exact hh
        | exact Calls.mono hh (fun e w'' he => by cases e <;> first | exact he | exact h1 _ _ _ he | exact h2 he)
  | halt x w' => cases x <;> simp only [Oper.upon] at hh ⊢ <;> first | exact hh | exact h1 _ _ _ hh

theorem cutPost_panic (c) (a : Act) (w : World) (h : cutPost P l n Q (.panic c) a w) : Q (.panic c) a w := h
theorem cutPost_out (h : LetsOut (cutPost P l n Q)) : LetsOut Q := h

theorem yielded_cut {ops ops' : Array Oper} (g : Nat) (h : ops'[g]? = ops[g]?) (t : Array Value) : yielded ops' t g = yielded ops t g := by
  unfold yielded; rw [h]
theorem wanted_cut {ops ops' : Array Oper} {o : Oper} (h : ∀ g b, o.guard = some (g, b) → ops'[g]? = ops[g]?) (t : Array Value) : Region.wanted o (yielded ops' t) = Region.wanted o (yielded ops t) := by
  unfold Region.wanted
  cases hg : o.guard with
  | none => rfl
  | some p => obtain ⟨g, b⟩ := p; simp only []; rw [yielded_cut g (h g b hg)]

theorem wpAny_cut (hB : cutB md l n = true) : ∀ (fuel : Nat) (listed listed' : Array Bool) (a : Act) (w : World), listed.size = n + 1 → listed'.size = n → (∀ j, j < n → listed'[j]? = listed[j]?) → HeadInv md l.toArray n listed →
    wpAny P md (l.take n).toArray (cutPost P l n Q) fuel listed' a w → wpAny P md l.toArray Q (fuel + 1) listed a w := by
  simp only [cutB, Bool.and_eq_true, decide_eq_true_eq, List.all_eq_true, List.mem_range] at hB
  obtain ⟨⟨⟨hlen, hs⟩, hc⟩, hall⟩ := hB
  have hn : n < l.toArray.size := by simp; omega
  have hops : ∀ j, j < n → (l.take n).toArray[j]? = l.toArray[j]? := fun j hj => by simp [hj]
  have hopn : ∀ j, n ≤ j → (l.take n).toArray[j]? = none := fun j hj => by rw [List.getElem?_toArray, List.getElem?_eq_none (by simp; omega)]
  have hedge : ∀ (j : Nat) (o : Oper), l.toArray[j]? = some o → ∀ e ∈ o.after, e.on < j := fun j o ho e he => by
    have ho' : l[j]? = some o := by simpa using ho
    have hj : j < n + 1 := by have := (List.getElem?_eq_some_iff.1 ho').1; omega
    have h := hall j hj
    rw [ho'] at h
    simp only [Bool.and_eq_true] at h
    simpa using Array.all_eq_true_iff_forall_mem.1 h.1 e he
  have hguard : ∀ (j : Nat) (o : Oper), l.toArray[j]? = some o → ∀ g b, o.guard = some (g, b) → (l.take n).toArray[g]? = l.toArray[g]? := fun j o ho g b hg => by
    have ho' : l[j]? = some o := by simpa using ho
    have hj : j < n + 1 := by have := (List.getElem?_eq_some_iff.1 ho').1; omega
    have h := hall j hj
    rw [ho'] at h
    simp only [Bool.and_eq_true, hg, decide_eq_true_eq] at h
    exact hops g h.2
  -- the ready ones
  have hready : ∀ (listed listed' : Array Bool), (∀ j, j < n → listed'[j]? = listed[j]?) → ∀ i, i < n → (i ∈ Region.ready md (l.take n).toArray listed' ↔ i ∈ Region.ready md l.toArray listed) := by
    intro listed listed' hl i hi
    rw [mem_ready, mem_ready, hops i hi]
    have hd : ∀ j, j < n → ∀ d, listed'.getD j d = listed.getD j d := fun j hj d => by rw [Array.getD_eq_getD_getElem?, Array.getD_eq_getD_getElem?, hl j hj]
    rw [hd i hi]
    constructor
    · rintro ⟨h0, o, ho, h⟩
      exact ⟨h0, o, ho, fun e he hb => by rw [← hd e.on (Nat.lt_trans (hedge i o ho e he) hi)]; exact h e he hb⟩
    · rintro ⟨h0, o, ho, h⟩
      exact ⟨h0, o, ho, fun e he hb => by rw [hd e.on (Nat.lt_trans (hedge i o ho e he) hi)]; exact h e he hb⟩
  have hcutlt : ∀ (listed' : Array Bool) i, i ∈ Region.ready md (l.take n).toArray listed' → i < n := by
    intro listed' i hi
    obtain ⟨_, o, ho, _⟩ := mem_ready.1 hi
    rcases Nat.lt_or_ge i n with h | h
    · exact h
    · rw [hopn i h] at ho; cases ho
  have hfulllt : ∀ (listed : Array Bool) i, i ∈ Region.ready md l.toArray listed → i < n + 1 := by
    intro listed i hi
    obtain ⟨_, o, ho, _⟩ := mem_ready.1 hi
    have := (Array.getElem?_eq_some_iff.1 ho).1
    simp at this; omega
  -- nothing ready in the cut: all are listed
  have hdone : ∀ (listed listed' : Array Bool), listed.size = n + 1 → (∀ j, j < n → listed'[j]? = listed[j]?) → Region.ready md (l.take n).toArray listed' = [] → ∀ j, j < n → listed.getD j true = true := by
    intro listed listed' hsz hl h0 j
    induction j using Nat.strongRecOn with
    | _ j ih =>
      intro hj
      rcases hv : listed.getD j true with _ | _
      · exfalso
        have hoj : l.toArray[j]? = some (l.toArray[j]'(by omega)) := Array.getElem?_eq_getElem _
        have : j ∈ Region.ready md (l.take n).toArray listed' := (hready listed listed' hl j hj).2 (mem_ready.2 ⟨hv, _, hoj, fun e he hb => by
          have h1 := hedge j _ hoj e he
          have h2 := ih e.on h1 (by omega)
          rcases hw : listed.getD e.on false with _ | _
          · rw [getD_in (by omega) hw] at h2; cases h2
          · rfl⟩)
        rw [h0] at this
        cases this
      · rfl
  -- then the last one
  have hlast : ∀ (fuel : Nat) (listed listed' : Array Bool) (a : Act) (w : World), listed.size = n + 1 → (∀ j, j < n → listed'[j]? = listed[j]?) → HeadInv md l.toArray n listed → Region.ready md (l.take n).toArray listed' = [] →
      cutPost P l n Q .normal a w → wpAny P md l.toArray Q (fuel + 1) listed a w := by
    intro fuel listed listed' a w hsz hl inv h0 h
    have hd := hdone listed listed' hsz hl h0
    have hon : l.toArray[n]? = some (l.toArray[n]'hn) := Array.getElem?_eq_getElem _
    have hrn : n ∈ Region.ready md l.toArray listed := mem_ready.2 ⟨inv.tail n (Nat.le_refl _) hn, _, hon, fun e he hb => by
      have h1 := hedge n _ hon e he
      have h2 := hd e.on h1
      rcases hw : listed.getD e.on false with _ | _
      · rw [getD_in (by omega) hw] at h2; cases h2
      · rfl⟩
    refine ⟨fun h1 => (by rw [h1] at hrn; cases hrn), fun i hi => ?_⟩
    have hin : i = n := by
      have h1 := hfulllt _ i hi
      have h2 := (mem_ready.1 hi).1
      rcases Nat.lt_or_ge i n with h3 | h3
      · rw [hd i h3] at h2; cases h2
      · omega
    subst hin
    have hw : wpOp P l.toArray Q i (fun a w => Q .normal a w) a w := by
      have hdrop : l.drop i = [l.toArray[i]'hn] := by
        have : l.length - i = 1 := by omega
        rw [List.drop_eq_getElem_cons (by omega), List.drop_eq_nil_of_le (by omega)]
        simp
      unfold cutPost at h
      simp only [] at h
      rw [hdrop] at h
      unfold wpOp
      simp only [hon]
      exact h
    refine wpOp_mono (fun a' w' h' => wpAny_done ?_ h' fuel) hw
    apply List.eq_nil_iff_forall_not_mem.2
    intro j hj
    have h1 := hfulllt _ j hj
    have h2 := (mem_ready.1 hj).1
    by_cases hji : i = j
    · subst hji
      have := getD_in (listed := listed.setIfInBounds i true) (i := i) (by simp; omega) (getD_both h2)
      simp [hsz] at h2
    · rw [getD_set_ne true hji, hd j (by omega)] at h2
      cases h2
  intro fuel
  induction fuel with
  | zero =>
    intro listed listed' a w hsz hsz' hl inv h
    exact hlast 0 listed listed' a w hsz hl inv h.1 h.2
  | succ fuel ih =>
    intro listed listed' a w hsz hsz' hl inv h
    by_cases h0 : Region.ready md (l.take n).toArray listed' = []
    · exact hlast (fuel + 1) listed listed' a w hsz hl inv h0 (h.1 h0)
    · obtain ⟨i, hi⟩ := List.exists_mem_of_ne_nil _ h0
      have hin := hcutlt _ _ hi
      have hif := (hready listed listed' hl i hin).1 hi
      have hun := (mem_ready.1 hif).1
      refine ⟨fun h1 => (by rw [h1] at hif; cases hif), fun j hj => ?_⟩
      have hjn : j < n := by
        rcases Nat.lt_or_ge j n with h1 | h1
        · exact h1
        · exact absurd hj (tail_waits hs hc hn inv _ i rfl hin hun j h1)
      have h2 := h.2 j ((hready listed listed' hl j hjn).2 hj)
      obtain ⟨_, oj, hoj, _⟩ := mem_ready.1 hj
      unfold wpOp at h2 ⊢
      rw [hops j hjn] at h2
      simp only [hoj] at h2 ⊢
      rw [wanted_cut (hguard j oj hoj)] at h2
      have hnext : ∀ a' w', wpAny P md (l.take n).toArray (cutPost P l n Q) fuel (listed'.setIfInBounds j true) a' w' → wpAny P md l.toArray Q (fuel + 1) (listed.setIfInBounds j true) a' w' := fun a' w' h3 => by
        refine ih _ _ a' w' (by simp [hsz]) (by simp [hsz']) (fun k hk => ?_) (inv.set hj hjn) h3
        by_cases hjk : j = k
        · subst hjk
          simp [hsz, hsz', hk, Nat.lt_succ_of_lt hk]
        · rw [Array.getElem?_setIfInBounds_ne hjk, Array.getElem?_setIfInBounds_ne hjk]
          exact hl k hk
      split
      · rename_i hw
        simp only [hw, if_true] at h2
        rcases h2 with h2 | ⟨h2, h3⟩
        · exact .inl (Oper.wp_mono hnext (Oper.wp_post cutPost_panic cutPost_out h2))
        · exact .inr ⟨h2, cutPost_out h3⟩
      · rename_i hw
        simp only [hw] at h2
        exact hnext _ _ h2

/-- The beginning. -/
theorem wp_region_cut {S : World → Prop} {id : Nat} {a : Act} {w : World} (n : Nat) (hm : P.follows .mixedOrders = true) (hB : cutB .any l n = true) (hS : S w.drew)
    (h : S w.drew → wpAnyH P .any (l.take n).toArray (cutPost P l n Q) S n (Array.replicate n false) a w.drew) : (Code.region id l.toArray true).wp P Q a w := by
  have hlen : l.length = n + 1 := by
    simp only [cutB, Bool.and_eq_true, decide_eq_true_eq] at hB
    exact hB.1.1.1
  refine wp_region_any hm ?_
  have := wpAny_cut (P := P) (Q := Q) hB n (Array.replicate (n + 1) false) (Array.replicate n false) a w.drew (by simp) (by simp) (fun j hj => by simp [hj, Nat.lt_succ_of_lt hj])
    ⟨by simp [hlen], fun j oj _ hl => (by rw [getD_replicate_false] at hl; cases hl), fun t _ ht => getD_in (by simpa [hlen] using ht) (getD_replicate_false _ _)⟩ (wpAny_of_held _ _ _ _ (h hS))
  simpa [hlen] using this
end

end Go.Proofs.YtpcajjbdlfookaaGreatDoor
