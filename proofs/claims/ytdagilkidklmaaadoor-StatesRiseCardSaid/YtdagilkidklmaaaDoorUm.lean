/- Plain model of the lifecycles: the program's steps as sets of bits, the reference's as cases; they agree. -/
import Derived.WalkKit
import Derived.RowKit
namespace Go.Proofs.YtdagilkidklmaaaDoor
open Go
set_option linter.unusedVariables false

/-- Whether a set of bits has a state. -/
def inS (m : Nat) (s : Int) : Bool := decide (0 ≤ s) && m.testBit s.toNat
def worksM (k : Int) : Bool := decide (0 ≤ k) && decide (k ≤ 4)
def occursM (k : Int) : Bool := decide (5 ≤ k) && decide (k ≤ 7)
def stM (k : Int) (root : Bool) : Nat :=
  if root then (if k = 0 then 1008 else 0) else if worksM k then 510 else if occursM k then 450 else 0
def planM (e : Int) : Nat × Int :=
  if e = 7 then (16, 7) else if e = 8 then (16, 5) else if e = 9 then (32, 4) else if e = 10 then (16, 6)
  else if e = 11 then (64, 4) else if e = 12 then (112, 8) else if e = 13 then (48, 8) else if e = 18 then (480, 9) else (0, 0)
def workM (e : Int) : Nat × Int :=
  if e = 2 then (2, 2) else if e = 3 then (4, 3) else if e = 4 then (8, 2) else if e = 5 then (2, 4) else if e = 6 then (4, 4)
  else if e = 7 then (16, 7) else if e = 8 then (16, 5) else if e = 9 then (32, 4) else if e = 10 then (16, 6)
  else if e = 12 then (112, 8) else if e = 13 then (62, 8) else if e = 14 then (126, 8) else if e = 15 then (62, 6) else (0, 0)
def occM (e : Int) : Nat × Int :=
  if e = 17 then (2, 7) else if e = 10 ∨ e = 15 then (2, 6) else if e = 12 ∨ e = 14 then (66, 8) else (0, 0)
def stepM (k : Int) (root : Bool) (e : Int) : Nat × Int :=
  if root then planM e else if worksM k then workM e else occM e
/-- One step, whatever was before. -/
def oneM (k : Int) (root : Bool) (s e : Int) : Int × Bool :=
  if inS (stM k root) s && inS (stepM k root e).1 s then ((stepM k root e).2, true) else (0, false)
def backM (k b e : Int) : Int × Bool := if (oneM k false b e).2 then (b, true) else (0, false)
def wr (b : Int) : Int := RowKit.wrap64 (b - 10)
def nextM (k : Int) (root : Bool) (s b e : Int) : Int × Bool :=
  if inS (stM k root) s then
    if !root && (s == 6) && (e == 11) then backM k b 10
    else if !root && (s == 6) && (e == 16) then backM k (wr b) 15
    else oneM k root s e
  else (0, false)
def rankM (s : Int) : Int :=
  if s = 1 then 1 else if s = 2 then 2 else if s = 3 then 3 else if s = 4 then 5 else if s = 5 then 6 else if s = 6 then 4
  else if s = 7 then 7 else if s = 8 then 8 else if s = 9 then 9 else 0
def finalM (s : Int) : Bool := inS 896 s

/-! The reference. -/
def rStates (k : Int) (root : Bool) (s : Int) : Bool :=
  if !(decide (0 ≤ k) && decide (k ≤ 7)) || root && k != 0 then false
  else if root then [4, 5, 6, 7, 8, 9].contains s
  else if worksM k then decide (1 ≤ s) && decide (s ≤ 8)
  else [1, 6, 7, 8].contains s
def rFinal (s : Int) : Bool := [7, 8, 9].contains s
def rParent (k s b e : Int) : Int × Bool :=
  let waits := if worksM k then [1, 2, 3, 4, 5].contains s else [1].contains s
  let goes := if worksM k then [11, 12, 13, 14, 15].contains b else b == 11
  if e == 14 && !rFinal s then (8, true)
  else if e == 15 && waits then (6, true)
  else if e == 16 && s == 6 && goes then (b - 10, true)
  else (0, false)
def rWork (s b e : Int) : Int × Bool :=
  if e == 2 && s == 1 || e == 4 && s == 3 then (2, true)
  else if e == 5 && s == 1 || e == 6 && s == 2 || e == 9 && s == 5 then (4, true)
  else if e == 3 && s == 2 then (3, true)
  else if e == 7 && s == 4 then (7, true)
  else if e == 8 && s == 4 then (5, true)
  else if e == 10 && s == 4 then (6, true)
  else if e == 11 && s == 6 && b == 4 then (4, true)
  else if e == 12 && [4, 6, 5].contains s then (8, true)
  else if e == 13 && [1, 2, 3, 4, 5].contains s then (8, true)
  else (0, false)
def rPlan (s e : Int) : Int × Bool :=
  if e == 7 && s == 4 then (7, true)
  else if e == 10 && s == 4 then (6, true)
  else if e == 8 && s == 4 then (5, true)
  else if e == 9 && s == 5 || e == 11 && s == 6 then (4, true)
  else if e == 12 && [4, 5, 6].contains s || e == 13 && [4, 5].contains s then (8, true)
  else if e == 18 && [7, 8, 5, 6].contains s then (9, true)
  else (0, false)
def rMoment (s b e : Int) : Int × Bool :=
  if e == 17 && s == 1 then (7, true)
  else if e == 10 && s == 1 then (6, true)
  else if e == 11 && s == 6 && b == 1 then (1, true)
  else if e == 12 && [1, 6].contains s then (8, true)
  else (0, false)
def rNext (k : Int) (root : Bool) (s b e : Int) : Int × Bool :=
  if !rStates k root s then (0, false)
  else if root then rPlan s e
  else if [14, 15, 16].contains e then rParent k s b e
  else if worksM k then rWork s b e
  else rMoment s b e

/-! Whatever lies outside is as one value outside. -/
theorem inS_far {m : Nat} (hm : m < 1024) {s : Int} (h : s < 0 ∨ 9 < s) : inS m s = false := by
  unfold inS
  rcases h with h | h
  · rw [decide_eq_false (by omega)]; rfl
  · rw [Nat.testBit_lt_two_pow (show m < 2 ^ s.toNat from Nat.lt_of_lt_of_le (show m < 2 ^ 10 from hm) (Nat.pow_le_pow_right (by omega) (by omega))), Bool.and_false]

theorem stM_lt (k : Int) (root : Bool) : stM k root < 1024 := by unfold stM; split <;> (try split) <;> (try split) <;> omega
theorem ite_lt {c : Prop} [Decidable c] {a b : Nat × Int} (ha : a.1 < 1024) (hb : b.1 < 1024) : (if c then a else b).1 < 1024 := by split <;> assumption
theorem stepM_lt (k : Int) (root : Bool) (e : Int) : (stepM k root e).1 < 1024 := by
  unfold stepM
  have h1 : (planM e).1 < 1024 := by unfold planM; repeat' (first | decide | refine ite_lt ?_ ?_)
  have h2 : (workM e).1 < 1024 := by unfold workM; repeat' (first | decide | refine ite_lt ?_ ?_)
  have h3 : (occM e).1 < 1024 := by unfold occM; repeat' (first | decide | refine ite_lt ?_ ?_)
  split
  · exact h1
  · split
    · exact h2
    · exact h3

/-- All of the kinds, states, events and befores that matter. -/
def kinds : List Int := [0, 1, 2, 3, 4, 5, 6, 7, 8]
def states : List Int := [0, 1, 2, 3, 4, 5, 6, 7, 8, 9]
def events : List Int := [0, 1, 2, 3, 4, 5, 6, 7, 8, 9, 10, 11, 12, 13, 14, 15, 16, 17, 18]
def befores : List Int := [0, 1, 2, 3, 4, 5, 6, 7, 8, 9, 10, 11, 12, 13, 14, 15, 16, 17, 18, 19]

theorem kind_cases (k : Int) : k ∈ kinds ∨ ((∀ c ∈ kinds, (k == c) = false) ∧ (k < 0 ∨ 8 < k)) := by
  by_cases h : 0 ≤ k ∧ k ≤ 8
  · left; unfold kinds; simp only [List.mem_cons, List.not_mem_nil, or_false]; omega
  · right; refine ⟨fun c hc => ?_, by omega⟩
    unfold kinds at hc; simp only [List.mem_cons, List.not_mem_nil, or_false] at hc
    rw [beq_eq_false_iff_ne]; omega

def same1 : Bool := kinds.all fun k => states.all fun s => events.all fun e => befores.all fun b => [true, false].all fun r =>
  nextM k r s b e == rNext k r s b e
theorem same1_true : same1 = true := by decide +kernel

def cl (b : Int) : Int := if 0 ≤ b ∧ b ≤ 19 then b else 0

theorem inS_zero (s : Int) : inS 0 s = false := by unfold inS; rw [Nat.zero_testBit, Bool.and_false]

theorem stM_far {k : Int} (h : k < 0 ∨ 7 < k) (r : Bool) : stM k r = 0 := by
  unfold stM
  rw [if_neg (show ¬ k = 0 by omega)]
  cases r
  · have hw : worksM k = false := by
      unfold worksM
      rcases h with h | h
      · rw [decide_eq_false (by omega), Bool.false_and]
      · rw [decide_eq_false (p := k ≤ 4) (by omega), Bool.and_false]
    have ho : occursM k = false := by
      unfold occursM
      rcases h with h | h
      · rw [decide_eq_false (by omega), Bool.false_and]
      · rw [decide_eq_false (p := k ≤ 7) (by omega), Bool.and_false]
    rw [hw, ho]; rfl
  · rfl

theorem nextM_off {k : Int} {r : Bool} {s : Int} (b e : Int) (h : inS (stM k r) s = false) : nextM k r s b e = (0, false) := by
  unfold nextM; rw [h]; rfl

theorem backM_off (k b e : Int) (h : inS (stM k false) b = false) : backM k b e = (0, false) := by
  unfold backM oneM; rw [h]; rfl

theorem stM_zero_off (k : Int) : inS (stM k false) 0 = false := by
  unfold stM
  rw [if_neg (by decide)]
  split
  · rfl
  · split <;> rfl

theorem nextM_cl {b : Int} (hb : -9223372036854775808 ≤ b ∧ b ≤ 9223372036854775807) (k : Int) (r : Bool) (s e : Int) : nextM k r s b e = nextM k r s (cl b) e := by
  by_cases h : 0 ≤ b ∧ b ≤ 19
  · unfold cl; rw [if_pos h]
  · have hc : cl b = 0 := by unfold cl; rw [if_neg h]
    have h1 : inS (stM k false) b = false := inS_far (stM_lt _ _) (by omega)
    have hw : wr b < 0 ∨ 9 < wr b := by
      unfold wr RowKit.wrap64
      omega
    have h2 : inS (stM k false) (wr b) = false := inS_far (stM_lt _ _) hw
    have h3 : inS (stM k false) (wr 0) = false := inS_far (stM_lt _ _) (by unfold wr RowKit.wrap64; decide)
    rw [hc]
    unfold nextM
    rw [backM_off k b 10 h1, backM_off k _ 15 h2, backM_off k 0 10 (stM_zero_off k), backM_off k _ 15 h3]

theorem not_in {b : Int} {l : List Int} (h : ∀ c ∈ l, b ≠ c) : l.contains b = false := by
  rw [List.contains_eq_mem]
  exact decide_eq_false fun hm => h b hm rfl

theorem rNext_cl (b : Int) (k : Int) (r : Bool) (s e : Int) : rNext k r s b e = rNext k r s (cl b) e := by
  by_cases h : 0 ≤ b ∧ b ≤ 19
  · unfold cl; rw [if_pos h]
  · have hc : cl b = 0 := by unfold cl; rw [if_neg h]
    have h1 : [11, 12, 13, 14, 15].contains b = false := not_in (by intro c hc; simp only [List.mem_cons, List.not_mem_nil, or_false] at hc; omega)
    have h2 : (b == 11) = false := by rw [beq_eq_false_iff_ne]; omega
    have h3 : (b == 4) = false := by rw [beq_eq_false_iff_ne]; omega
    have h4 : (b == 1) = false := by rw [beq_eq_false_iff_ne]; omega
    have hp : rParent k s b e = rParent k s 0 e := by
      unfold rParent
      simp only [h1, h2, show [11, 12, 13, 14, 15].contains (0 : Int) = false from rfl, show ((0 : Int) == 11) = false from rfl, ite_self, Bool.and_false, Bool.false_eq_true, if_false]
    have hw : rWork s b e = rWork s 0 e := by
      unfold rWork
      rw [h3]; rfl
    have hm : rMoment s b e = rMoment s 0 e := by
      unfold rMoment
      rw [h4]; rfl
    rw [hc]
    unfold rNext
    rw [hp, hw, hm]

theorem mem_states {s : Int} (h : ¬ (s < 0 ∨ 9 < s)) : s ∈ states := by
  unfold states; simp only [List.mem_cons, List.not_mem_nil, or_false]; omega
theorem mem_kinds {s : Int} (h : ¬ (s < 0 ∨ 7 < s)) : s ∈ kinds := by
  unfold kinds; simp only [List.mem_cons, List.not_mem_nil, or_false]; omega
theorem mem_events {s : Int} (h : ¬ (s < 0 ∨ 18 < s)) : s ∈ events := by
  unfold events; simp only [List.mem_cons, List.not_mem_nil, or_false]; omega
theorem mem_befores (b : Int) : cl b ∈ befores := by
  unfold cl
  split
  · unfold befores; simp only [List.mem_cons, List.not_mem_nil, or_false]; omega
  · decide

theorem rStates_far {k s : Int} {r : Bool} (h : (k < 0 ∨ 7 < k) ∨ (s < 0 ∨ 9 < s)) : rStates k r s = false := by
  unfold rStates
  rcases h with h | h
  · rw [show (decide (0 ≤ k) && decide (k ≤ 7)) = false from by
      rcases h with h | h
      · rw [decide_eq_false (by omega), Bool.false_and]
      · rw [decide_eq_false (p := k ≤ 7) (by omega), Bool.and_false]]
    rfl
  · split
    · rfl
    · split
      · exact not_in (by intro c hc; simp only [List.mem_cons, List.not_mem_nil, or_false] at hc; omega)
      · split
        · rcases h with h | h
          · rw [decide_eq_false (by omega), Bool.false_and]
          · rw [decide_eq_false (p := s ≤ 8) (by omega), Bool.and_false]
        · exact not_in (by intro c hc; simp only [List.mem_cons, List.not_mem_nil, or_false] at hc; omega)

theorem stM_off {k s : Int} {r : Bool} (h : (k < 0 ∨ 7 < k) ∨ (s < 0 ∨ 9 < s)) : inS (stM k r) s = false := by
  rcases h with h | h
  · rw [stM_far h, inS_zero]
  · exact inS_far (stM_lt _ _) h

def ste : Bool := kinds.all fun k => states.all fun s => [true, false].all fun r => inS (stM k r) s == rStates k r s
theorem ste_true : ste = true := by decide +kernel
theorem states_eq (k : Int) (r : Bool) (s : Int) : inS (stM k r) s = rStates k r s := by
  by_cases h : (k < 0 ∨ 7 < k) ∨ (s < 0 ∨ 9 < s)
  · rw [stM_off h, rStates_far h]
  · have ht := ste_true
    unfold ste at ht
    simp only [List.all_eq_true] at ht
    have := ht k (mem_kinds (by omega)) s (mem_states (by omega)) r (by cases r <;> simp)
    simpa using this

/-- The events of which no table tells. -/
theorem event_far {e : Int} (h : e < 0 ∨ 18 < e) : (planM e = (0, 0) ∧ workM e = (0, 0) ∧ occM e = (0, 0)) ∧ (e == 11) = false ∧ (e == 16) = false := by
  refine ⟨⟨?_, ?_, ?_⟩, ?_, ?_⟩
  · unfold planM; repeat rw [if_neg (by omega)]
  · unfold workM; repeat rw [if_neg (by omega)]
  · unfold occM; repeat rw [if_neg (by omega)]
  · rw [beq_eq_false_iff_ne]; omega
  · rw [beq_eq_false_iff_ne]; omega

theorem nextM_far {e : Int} (h : e < 0 ∨ 18 < e) (k : Int) (r : Bool) (s b : Int) : nextM k r s b e = (0, false) := by
  obtain ⟨⟨h1, h2, h3⟩, h4, h5⟩ := event_far h
  have hs : stepM k r e = (0, 0) := by unfold stepM; rw [h1, h2, h3]; split <;> (try split) <;> rfl
  unfold nextM oneM
  rw [hs, h4, h5, inS_zero]
  simp

theorem rNext_far {e : Int} (h : e < 0 ∨ 18 < e) (k : Int) (r : Bool) (s b : Int) : rNext k r s b e = (0, false) := by
  have hf : ∀ c : Int, 0 ≤ c → c ≤ 18 → (e == c) = false := by intro c h1 h2; rw [beq_eq_false_iff_ne]; omega
  unfold rNext rPlan rWork rMoment
  rw [hf 2 (by omega) (by omega), hf 3 (by omega) (by omega), hf 4 (by omega) (by omega), hf 5 (by omega) (by omega), hf 6 (by omega) (by omega), hf 7 (by omega) (by omega), hf 8 (by omega) (by omega), hf 9 (by omega) (by omega), hf 10 (by omega) (by omega), hf 11 (by omega) (by omega), hf 12 (by omega) (by omega), hf 13 (by omega) (by omega), hf 17 (by omega) (by omega), hf 18 (by omega) (by omega)]
  rw [show [14, 15, 16].contains e = false from not_in (by intro c hc; simp only [List.mem_cons, List.not_mem_nil, or_false] at hc; omega)]
  simp

theorem next_eq {b : Int} (hb : -9223372036854775808 ≤ b ∧ b ≤ 9223372036854775807) (k : Int) (r : Bool) (s e : Int) : nextM k r s b e = rNext k r s b e := by
  rw [nextM_cl hb, rNext_cl]
  by_cases h : (k < 0 ∨ 7 < k) ∨ (s < 0 ∨ 9 < s)
  · rw [nextM_off _ _ (stM_off h)]
    unfold rNext
    rw [rStates_far h]; rfl
  · by_cases he : e < 0 ∨ 18 < e
    · rw [nextM_far he, rNext_far he]
    · have ht := same1_true
      unfold same1 at ht
      simp only [List.all_eq_true] at ht
      have := ht k (mem_kinds (by omega)) s (mem_states (by omega)) e (mem_events he) _ (mem_befores b) r (by cases r <;> simp)
      simpa using this

/-! What the laws say of it. -/
def good (k : Int) (r : Bool) (s b e : Int) : Bool :=
  let t := nextM k r s b e
  !t.2 || inS (stM k r) t.1 && (!finalM s || e == 18)
def good1 : Bool := kinds.all fun k => states.all fun s => events.all fun e => befores.all fun b => [true, false].all fun r => good k r s b e
theorem good1_true : good1 = true := by decide +kernel
theorem good_all {b : Int} (hb : -9223372036854775808 ≤ b ∧ b ≤ 9223372036854775807) (k : Int) (r : Bool) (s e : Int) : good k r s b e = true := by
  by_cases h : (k < 0 ∨ 7 < k) ∨ (s < 0 ∨ 9 < s)
  · unfold good; rw [nextM_off _ _ (stM_off h)]; rfl
  · by_cases he : e < 0 ∨ 18 < e
    · unfold good; rw [nextM_far he]; rfl
    · have ht := good1_true
      unfold good1 at ht
      simp only [List.all_eq_true] at ht
      have := ht k (mem_kinds (by omega)) s (mem_states (by omega)) e (mem_events he) _ (mem_befores b) r (by cases r <;> simp)
      unfold good at this ⊢
      rw [nextM_cl hb]; exact this

def rise1 : Bool := kinds.all fun k => states.all fun s => [2, 5, 7, 17, 13, 14].all fun e => befores.all fun b => [true, false].all fun r =>
  !(nextM k r s b e).2 || decide (rankM s < rankM (nextM k r s b e).1)
theorem rise1_true : rise1 = true := by decide +kernel
theorem rise_all {b : Int} (hb : -9223372036854775808 ≤ b ∧ b ≤ 9223372036854775807) (k : Int) (r : Bool) (s : Int) {e : Int} (he : e ∈ [2, 5, 7, 17, 13, 14]) (h2 : (nextM k r s b e).2 = true) :
    rankM s < rankM (nextM k r s b e).1 := by
  by_cases h : (k < 0 ∨ 7 < k) ∨ (s < 0 ∨ 9 < s)
  · rw [nextM_off _ _ (stM_off h)] at h2; exact absurd h2 (by decide)
  · have ht := rise1_true
    unfold rise1 at ht
    simp only [List.all_eq_true] at ht
    have := ht k (mem_kinds (by omega)) s (mem_states (by omega)) e he _ (mem_befores b) r (by cases r <;> simp)
    rw [← nextM_cl hb, h2] at this
    simpa using this

def go1 : Bool := kinds.all fun k => states.all fun s =>
  !(nextM k false s 0 15).2 || ((nextM k false s 0 15).1 == 6 && nextM k false 6 (s + 10) 16 == (s, true))
theorem go1_true : go1 = true := by decide +kernel
theorem go_all (k s : Int) (h2 : (nextM k false s 0 15).2 = true) : (nextM k false s 0 15).1 = 6 ∧ nextM k false 6 (s + 10) 16 = (s, true) ∧ 0 ≤ s ∧ s ≤ 9 := by
  by_cases h : (k < 0 ∨ 7 < k) ∨ (s < 0 ∨ 9 < s)
  · rw [nextM_off _ _ (stM_off h)] at h2; exact absurd h2 (by decide)
  · have ht := go1_true
    unfold go1 at ht
    simp only [List.all_eq_true] at ht
    have := ht k (mem_kinds (by omega)) s (mem_states (by omega))
    rw [h2] at this
    simp at this
    exact ⟨this.1, this.2, by omega, by omega⟩
end Go.Proofs.YtdagilkidklmaaaDoor
