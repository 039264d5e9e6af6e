/- roles.May: what the map of first items holds; the lists are one. -/
import Derived.Test.YtkapelpbepejfaaGw
import Derived.Test.YtkapelpbepejfaaGs
import Derived.Test.YtkapelpbepejfaaVd
namespace Go.Proofs.Ytkapelpbepejfaa
open Go Go.RowKit Go.Deep Go.Shelf
set_option linter.unusedVariables false
set_option linter.unusedSimpArgs false

theorem bytesG_ext {a b : ByteArray} (h : a.toList = b.toList) : a = b := by
  rw [ByteArray.toList_eq, ByteArray.toList_eq] at h
  exact ByteArray.ext (Array.toList_inj.1 h)
theorem bytesG_iff (a b : ByteArray) : (a.toList == b.toList) = true ↔ a = b := by
  rw [beq_iff_eq]
  exact ⟨bytesG_ext, fun h => by rw [h]⟩
theorem bytesG_key {a b : ByteArray} (h : a.data.toList = b.data.toList) : a = b := ByteArray.ext (Array.toList_inj.1 h)
/-- The first item of an ID. -/
def firstB (B : List IT) (id : ByteArray) : Option IT := B.find? fun y => y.id.toList == id.toList
def okB (B : List IT) (role : ByteArray) (y : IT) : Bool := match firstB B y.id with
  | some b => openB b role
  | none => false
def mayB (B : List IT) (role : ByteArray) (l : List IT) : List ByteArray := (l.filter (okB B role)).map (·.id)
theorem mayB_snoc (B : List IT) (role : ByteArray) (l : List IT) (y : IT) : mayB B role (l ++ [y]) = mayB B role l ++ onlyIf (okB B role y) y.id := by
  unfold mayB
  rw [List.filter_append, List.map_append]
  congr 1
  cases h : okB B role y
  · simp [h, onlyIf]
  · simp [h, onlyIf]
theorem mayB_len (B : List IT) (role : ByteArray) (l : List IT) : (mayB B role l).length ≤ l.length := by
  unfold mayB
  rw [List.length_map]
  exact List.length_filter_le _ _
theorem mayB_mayF (d : Nat) (m : MT) (role : ByteArray) (hs : standsB m role = true) : mayB ((flatI d m.plan).map bare) role ((flatI d m.plan).map bare) = mayF d m role (flatI d m.plan) := by
  unfold mayB mayF
  rw [List.filter_map, List.map_map]
  have h : (flatI d m.plan).filter (okB ((flatI d m.plan).map bare) role ∘ bare) = (flatI d m.plan).filter (fun x => chkP d m x.id role == 0) := by
    refine List.filter_congr fun x hx => ?_
    show okB ((flatI d m.plan).map bare) role (bare x) = _
    have hf : firstB ((flatI d m.plan).map bare) (bare x).id = (firstI x.id d m.plan).map bare := by
      unfold firstB firstI
      rw [List.find?_map]
      rfl
    unfold okB chkP
    rw [hf, hs]
    cases hc : firstI x.id d m.plan with
    | none =>
      exfalso
      unfold firstI at hc
      have := List.find?_eq_none.1 hc x hx
      simp at this
    | some y =>
      show openB y role = (((if openB y role = true then 0 else 41) : Int) == 0)
      cases openB y role <;> rfl
  rw [h]
  rfl

/-- What the map holds behind some rows. -/
def MapOK (V : List (List UInt8 × Value)) (L : List (List Value × IT)) (j : Nat) : Prop :=
  Ris V ∧ V.length ≤ j ∧ ∀ id : ByteArray, getA id.data.toList V = ((L.take j).find? fun p => p.2.id.toList == id.toList).map fun p => .agg p.1.toArray
theorem MapOK.nil (L : List (List Value × IT)) : MapOK [] L 0 := ⟨List.Pairwise.nil, by simp, fun id => by simp [getA]⟩
theorem MapOK.first {V : List (List UInt8 × Value)} {L : List (List Value × IT)} {j : Nat} (h : MapOK V L j) (id : ByteArray) {c : Value} (hc : getA id.data.toList V = some c) : ∃ p ∈ L, c = .agg p.1.toArray ∧ firstB (L.map (·.2)) id = some p.2 := by
  rw [h.2.2 id] at hc
  obtain ⟨p, hp, rfl⟩ := Option.map_eq_some_iff.1 hc
  refine ⟨p, List.mem_of_mem_take (List.mem_of_find?_eq_some hp), rfl, ?_⟩
  unfold firstB
  rw [List.find?_map]
  have e : L = L.take j ++ L.drop j := (List.take_append_drop j L).symm
  have : L.find? ((fun y : IT => y.id.toList == id.toList) ∘ fun x => x.2) = some p := by
    rw [show L.find? ((fun y : IT => y.id.toList == id.toList) ∘ fun x => x.2) = (L.take j ++ L.drop j).find? ((fun y : IT => y.id.toList == id.toList) ∘ fun x => x.2) from congrArg _ e, List.find?_append]
    have hp' : (L.take j).find? ((fun y : IT => y.id.toList == id.toList) ∘ fun x => x.2) = some p := hp
    rw [hp']
    rfl
  rw [this]
  rfl
theorem MapOK.met {V : List (List UInt8 × Value)} {L : List (List Value × IT)} {j : Nat} (h : MapOK V L j) (hj : j < L.length) {c : Value} (hc : getA (L[j].2.id).data.toList V = some c) : MapOK V L (j + 1) := by
  refine ⟨h.1, by have := h.2.1; omega, fun id => ?_⟩
  rw [h.2.2 id, ← List.take_append_getElem hj, List.find?_append]
  cases hf : (L.take j).find? fun p => p.2.id.toList == id.toList with
  | some p => rfl
  | none =>
    rw [Option.none_or, List.find?_cons]
    cases hq : (L[j].2.id.toList == id.toList) with
    | false => rfl
    | true =>
      exfalso
      have e := (bytesG_iff _ _).1 hq
      rw [h.2.2, e, hf] at hc
      simp at hc
theorem MapOK.put {V : List (List UInt8 × Value)} {L : List (List Value × IT)} {j : Nat} (h : MapOK V L j) (hj : j < L.length) (hc : getA (L[j].2.id).data.toList V = none) : MapOK (putA (L[j].2.id).data.toList (.agg (L[j].1).toArray) V) L (j + 1) := by
  refine ⟨ris_putA h.1, by have := length_putA (L[j].2.id).data.toList (.agg (L[j].1).toArray) V; have := h.2.1; omega, fun id => ?_⟩
  rw [← List.take_append_getElem hj, List.find?_append]
  by_cases e : L[j].2.id = id
  · rw [← e, getA_putA_same]
    have hn : (L.take j).find? (fun p => p.2.id.toList == (L[j].2.id).toList) = none := by
      rw [h.2.2] at hc
      exact Option.map_eq_none_iff.1 hc
    rw [hn, Option.none_or, List.find?_cons]
    simp
  · rw [getA_putA_other _ h.1 (fun hk => e (bytesG_key hk).symm), h.2.2 id]
    have hq : (L[j].2.id.toList == id.toList) = false := by
      rw [Bool.eq_false_iff]
      exact fun hq => e ((bytesG_iff _ _).1 hq)
    rw [List.find?_cons, hq, List.find?_nil, Option.or_none]
theorem zeroItemG (w : World) : (zeroValue 27).run Try.prog w = .ok (.agg zero14.toArray) w := by kernel_rfl
end Go.Proofs.Ytkapelpbepejfaa
