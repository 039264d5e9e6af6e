/- vdisk: Crash. -/
import Derived.Test.YtfljpnfjndjhpaaVn
import Derived.Deep.LoopGhost
namespace Go.Proofs.Ytfljpnfjndjhpaa
open Go.RowKit
set_option linter.unusedVariables false

/-- A slice of one-cell elements as it lies. -/
def RdV (w : World) (v : Value) (cs : List Value) : Prop :=
  ∃ p c, v = .slice p cs.length c ∧ cs.length ≤ c ∧ c ≤ maxLen ∧ (p = none → c = 0) ∧ (0 < cs.length → ∃ b o, p = some ⟨b, o, none⟩ ∧ ∀ i (h : i < cs.length), w.cell? ⟨b, o + i, none⟩ = some cs[i])
theorem RdV.nil (w : World) : RdV w (.slice none 0 0) [] := ⟨none, 0, rfl, by simp, by simp, by simp, by simp⟩
theorem RdV.chg {w w' : World} {v : Value} {cs : List Value} {S : List Nat} (h : RdV w v cs) (hc : Chg S w w') (hs : 0 < cs.length → ∀ g, v.ownBlock = some g → g ∉ S) : RdV w' v cs := by
  obtain ⟨p, c, rfl, h1, h2, h3, h4⟩ := h
  refine ⟨p, c, rfl, h1, h2, h3, fun hp => ?_⟩
  obtain ⟨b, o, rfl, hx⟩ := h4 hp
  refine ⟨b, o, rfl, fun i hi => ?_⟩
  have := hx i hi
  rw [World.cell?_of_block (w := w) (hc.block b (World.block_lt_of_cell? w _ this) (hs hp b rfl))]
  exact this
theorem RdV.below {w w' : World} {v : Value} {cs : List Value} (h : RdV w v cs) (hb : Below w.heap.size w w') : RdV w' v cs := h.chg (S := []) (Chg.of_below hb) (by simp)
theorem RdV.of_own {w : World} {B : Nat} {e : TypeId} {v : Value} {n : Nat} {cs : List Value} (h : w.ownsRow B e 1 v n cs) : RdV w v cs := by
  have hl := h.1
  rw [Nat.mul_one] at hl
  rcases h.2 with ⟨rfl, rfl⟩ | ⟨g, cap, cur, rfl, hbg, hg, hnc, hcm, hcs, htake⟩
  · have : cs = [] := List.eq_nil_of_length_eq_zero hl
    subst this
    exact RdV.nil w
  · refine ⟨_, cap, by rw [hl], by omega, hcm, by simp, fun hp => ⟨g, 0, rfl, fun i hi => ?_⟩⟩
    have := h.cellAt i (by omega)
    rw [Nat.zero_add, this]
    simp [hi]

theorem RdV.lt {w : World} {v : Value} {cs : List Value} (h : RdV w v cs) (h0 : 0 < cs.length) : ∀ g, v.ownBlock = some g → g < w.heap.size := by
  obtain ⟨p, c, rfl, h1, h2, h3, h4⟩ := h
  obtain ⟨b, o, rfl, hx⟩ := h4 h0
  intro g hg
  simp only [Value.ownBlock, Option.some.injEq] at hg
  subst hg
  exact World.block_lt_of_cell? w _ (hx 0 h0)
theorem Rd.lt {w : World} {v : Value} {xs : List UInt8} (h : Rd w v xs) (h0 : 0 < xs.length) : ∀ g, v.ownBlock = some g → g < w.heap.size := by
  obtain ⟨p, c, rfl, h1, h2, h3, h4⟩ := h
  obtain ⟨b, o, rfl, hx⟩ := h4 h0
  intro g hg
  simp only [Value.ownBlock, Option.some.injEq] at hg
  subst hg
  exact World.block_lt_of_cell? w _ (hx 0 h0)

def icells (xs : List Int) : List Value := xs.map (Value.int .i64)

/-- The files behind k rounds. -/
def crk (keeps : List Int) (k : Nat) (l : Fs) : Fs := crashFs keeps 0 (l.take k) ++ l.drop k
theorem crk_zero (keeps : List Int) (l : Fs) : crk keeps 0 l = l := by simp [crk, crashFs]
theorem crk_all (keeps : List Int) (l : Fs) (k : Nat) (h : l.length ≤ k) : crk keeps k l = crashFs keeps 0 l := by simp [crk, List.take_of_length_le h, List.drop_eq_nil_of_le h]
theorem crash_snoc (keeps : List Int) (x : Fs) (y : List UInt8 × Fl) : ∀ j, crashFs keeps j (x ++ [y]) = crashFs keeps j x ++ [(y.1, crashF keeps (j + x.length) y.2)] := by
  induction x with
  | nil => intro j; simp [crashFs]
  | cons z r ih => intro j; simp only [List.cons_append, crashFs, ih, List.length_cons]; rw [show j + 1 + r.length = j + (r.length + 1) from by omega]
theorem crk_names (keeps : List Int) (k : Nat) (l : Fs) : (crk keeps k l).map (·.1) = l.map (·.1) := by
  unfold crk
  rw [List.map_append, crash_names, ← List.map_append, List.take_append_drop]
theorem crk_ris {keeps : List Int} {k : Nat} {l : Fs} (h : Ris l) : Ris (crk keeps k l) := by rw [ris_names, crk_names, ← ris_names]; exact h

theorem ins_mid {β : Type} {n : List UInt8} {f : β} : ∀ {a b : List (List UInt8 × β)}, (∀ p ∈ a, bytesBefore p.1 n = true) → (∀ p ∈ b, bytesBefore n p.1 = true) → insA (n, f) (a ++ b) = a ++ (n, f) :: b
  | [], [], _, _ => rfl
  | [], y :: r, _, h => by simp [insA, h y (by simp)]
  | z :: a, b, h, k => by
    have hz := bb_asymm (h z (by simp))
    simp only [List.cons_append, insA, hz, Bool.false_eq_true, if_false]
    rw [ins_mid (fun p hp => h p (by simp [hp])) k]
theorem put_mid {β : Type} {n : List UInt8} {f f' : β} {a b : List (List UInt8 × β)} (h : Ris (a ++ (n, f) :: b)) : putA n f' (a ++ (n, f) :: b) = a ++ (n, f') :: b := by
  obtain ⟨h1, h2, h3⟩ := List.pairwise_append.1 h
  obtain ⟨h4, h5⟩ := List.pairwise_cons.1 h2
  have ha : ∀ p ∈ a, bytesBefore p.1 n = true := fun p hp => h3 p hp (n, f) (by simp)
  have e : delA n (a ++ (n, f) :: b) = a ++ b := by
    unfold delA
    rw [List.filter_append, List.filter_eq_self.2 fun p hp => by simpa using bb_ne (ha p hp), List.filter_cons_of_neg (by simp), List.filter_eq_self.2 fun p hp => by simpa using (bb_ne (h4 p hp)).symm]
  unfold putA
  rw [e]
  exact ins_mid ha fun p hp => h4 p hp
theorem get_mid {β : Type} {n : List UInt8} {f : β} {a b : List (List UInt8 × β)} (h : Ris (a ++ (n, f) :: b)) : getA n (a ++ (n, f) :: b) = some f := getA_of_mem h (by simp)
theorem crk_split (keeps : List Int) (k : Nat) (l : Fs) (hk : k < l.length) : crk keeps k l = crashFs keeps 0 (l.take k) ++ (l[k].1, l[k].2) :: l.drop (k + 1) := by
  unfold crk
  rw [List.drop_eq_getElem_cons hk]
theorem crk_step {keeps : List Int} {k : Nat} {l : Fs} (h : Ris l) (hk : k < l.length) : putA l[k].1 (crashF keeps k l[k].2) (crk keeps k l) = crk keeps (k + 1) l ∧ fileA l[k].1 (crk keeps k l) = l[k].2 := by
  have hr := crk_ris (keeps := keeps) (k := k) h
  rw [crk_split keeps k l hk] at hr ⊢
  refine ⟨?_, by unfold fileA; rw [get_mid hr]; rfl⟩
  rw [put_mid hr]
  unfold crk
  rw [List.take_succ_eq_append_getElem hk, crash_snoc]
  simp [List.length_take, Nat.min_eq_left (Nat.le_of_lt hk)]
theorem crk_ok {s : DS} (h : s.Ok) (keeps : List Int) (k : Nat) : ({ s with fs := crk keeps k s.fs } : DS).Ok := by
  refine DS.Ok.files h (crk_ris h.ris) ?_ ?_ ?_
  · have h1 := crash_total keeps (s.fs.take k) 0
    have h2 : total (s.fs.take k) + total (s.fs.drop k) = total s.fs := by rw [← total_append, List.take_append_drop]
    have h3 := h.tot
    unfold crk
    rw [total_append]
    omega
  · intro p hp
    rcases List.mem_append.1 hp with hp | hp
    · exact Nat.le_of_eq (crash_sy keeps _ 0 (fun q hq => h.sy q (List.mem_of_mem_take hq)) p hp)
    · exact h.sy p (List.mem_of_mem_drop hp)
  · intro p hp
    have : p.1 ∈ (crk keeps k s.fs).map (·.1) := List.mem_map.2 ⟨p, hp, rfl⟩
    rw [crk_names] at this
    obtain ⟨q, hq, e⟩ := List.mem_map.1 this
    rw [← e]
    exact h.nm q hq
end Go.Proofs.Ytfljpnfjndjhpaa
