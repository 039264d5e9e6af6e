/- shape: the order of two parts, of two lists of parts. -/
import Derived.Test.YtdnfoeoiommclaaDoorQt
import Derived.Deep.RegionHeld3
import Derived.Test.YtdnfoeoiommclaaDoorByS
import Derived.Test.YtdnfoeoiommclaaDoorNu
import Derived.Test.YtdnfoeoiommclaaDoorShelj
import Derived.OwnWalk
namespace Go.Proofs.YtdnfoeoiommclaaDoor.P
open Go Go.RowKit Go.Shelf
set_option linter.unusedVariables false

theorem cells2' {w : World} {b : Nat} {u v : Value} {T : TypeId} (h : w.heap[b]? = some (.cells #[u, v] T (0, 0))) : w.cell? ⟨b, 0, none⟩ = some u ∧ w.cell? ⟨b, 1, none⟩ = some v := by
  constructor <;> simp [World.cell?, h]

def orI (x y : Int) : Int := if x = 0 then y else x

def pVal (p : PT) : Value := .agg #[.string ⟨p.1.toArray⟩, .int .i64 p.2]
theorem cmpP_or (p q : PT) : orI (Lib.compareBytes p.1 q.1) (Lib.compareInt p.2 q.2) = cmpP p q := by
  unfold orI cmpP cmpI Lib.compareInt
  rfl

end Go.Proofs.YtdnfoeoiommclaaDoor.P

/- shape: Order. -/
namespace Go.Proofs.YtdnfoeoiommclaaDoor.P
open Go Go.RowKit Go.Shelf
set_option linter.unusedVariables false

theorem _root_.Go.Proofs.YtdnfoeoiommclaaDoor.OwnS.below {w w' : World} {base : Nat} {e : TypeId} {size : Nat} {v : Value} {n : Nat} {xs : List Value} (h : OwnS w base e size v n xs) (hb : Below w.heap.size w w') : OwnS w' base e size v n xs :=
  h.keep fun g hg => hb.block g (h.lt g hg)
theorem pcells_get (L : List PT) (k : Nat) (hk : k < L.length) : (pcells L)[k * 2]? = some (.string ⟨L[k].1.toArray⟩) ∧ (pcells L)[k * 2 + 1]? = some (.int .i64 L[k].2) := by
  induction L generalizing k with
  | nil => simp at hk
  | cons p r ih =>
    cases k with
    | zero => simp [pcells]
    | succ k =>
      have := ih k (by simpa using hk)
      rw [show (k + 1) * 2 = k * 2 + 2 from by omega]
      simpa [pcells, show k * 2 + 2 + 1 = k * 2 + 1 + 2 from rfl] using this
theorem _root_.Go.Proofs.YtdnfoeoiommclaaDoor.OwnS.part {w : World} {base : Nat} {v : Value} {L : List PT} (h : OwnS w base 110 2 v L.length (pcells L)) {k : Nat} (hk : k < L.length) : ∃ g off c, v = .slice (some ⟨g, off, none⟩) L.length c ∧ g < w.heap.size ∧
    w.cell? ⟨g, off + k * 2, none⟩ = some (.string ⟨L[k].1.toArray⟩) ∧ w.cell? ⟨g, off + k * 2 + 1, none⟩ = some (.int .i64 L[k].2) := by
  rcases h.2 with ⟨rfl, h0⟩ | ⟨g, off, cap, cur, hv, _⟩
  · omega
  · refine ⟨g, off, cap, hv, h.lt g (by rw [hv]; rfl), h.cell hv (k * 2) _ (pcells_get L k hk).1, ?_⟩
    have := h.cell hv (k * 2 + 1) _ (pcells_get L k hk).2
    rwa [← Nat.add_assoc] at this

end Go.Proofs.YtdnfoeoiommclaaDoor.P

/- shape: Order, Join, Up, Last, Base. -/
namespace Go.Proofs.YtdnfoeoiommclaaDoor.P
open Go Go.RowKit Go.Shelf
set_option linter.unusedVariables false

/-- read, where the text is a path. -/
theorem read_some (a : ByteArray) (ha : a.size ≤ 2097152) (x : List PT) (hx : readF a.data.toList = some x) (w : World) :
    Calls Tryd.prog 39 #[.string a] w fun e w' => ∃ v, e = .returned (.tuple #[v, .bool true]) ∧ OwnS w' w.heap.size 110 2 v x.length (pcells x) ∧ Below w.heap.size w w' := by
  refine (read_c a ha w).mono ?_
  rintro e w' ⟨v, rfl, h1, h2⟩
  exact ⟨v, by rw [hx]; rfl, OwnS.ofRow (h1 x hx), h2⟩
theorem read_none (a : ByteArray) (ha : a.size ≤ 2097152) (hx : readF a.data.toList = none) (w : World) :
    Calls Tryd.prog 39 #[.string a] w fun e w' => ∃ v, e = .returned (.tuple #[v, .bool false]) ∧ Below w.heap.size w w' := by
  refine (read_c a ha w).mono ?_
  rintro e w' ⟨v, rfl, h1, h2⟩
  exact ⟨v, by rw [hx]; rfl, h2⟩
theorem read_len (a : ByteArray) (ha : a.size ≤ 2097152) (x : List PT) (hx : readF a.data.toList = some x) : x.length ≤ 2097153 := by
  have h1 := allF_length _ _ hx
  have h2 := splitD_length a.data.toList
  have h3 : a.data.toList.length = a.size := Array.length_toList
  omega

theorem catB (a b : ByteArray) : (a ++ b).data.toList = a.data.toList ++ b.data.toList := by simp [ByteArray.data_append]
theorem joinB (up name t : ByteArray) (n : Int) (ht : t = ⟨(txt n).toArray⟩) :
    (up.size = 0 → joinF up.data.toList name.data.toList n = (name ++ ⟨#[35]⟩ ++ t).data.toList) ∧ (0 < up.size → joinF up.data.toList name.data.toList n = (up ++ ⟨#[46]⟩ ++ (name ++ ⟨#[35]⟩ ++ t)).data.toList) := by
  have htt : t.data.toList = txt n := by rw [ht]
  constructor
  · intro h
    have : up.data.toList = [] := List.eq_nil_of_length_eq_zero (by rw [size_list]; exact h)
    unfold joinF
    rw [if_pos this, catB, catB, htt]
    simp
  · intro h
    have : up.data.toList ≠ [] := fun e => by have := size_list up; rw [e] at this; simp at this; omega
    unfold joinF
    rw [if_neg this, catB, catB, catB, catB, htt]
    simp
theorem list_of (s : ByteArray) (l : List UInt8) (h : l = s.data.toList) : (⟨l.toArray⟩ : ByteArray) = s := by rw [h]

end Go.Proofs.YtdnfoeoiommclaaDoor.P

/- shape: Base. -/
namespace Go.Proofs.YtdnfoeoiommclaaDoor.P
open Go Go.RowKit Go.Shelf
set_option linter.unusedVariables false

def names (ps : List PT) : List (List UInt8) := ps.map fun p => p.1
/-- The base of an instance's path. -/
def baseV (l : List UInt8) : Value := match readF l with
  | some ps => .tuple #[.string ⟨(joinD (names ps)).toArray⟩, .bool true]
  | none => .tuple #[.string ⟨#[]⟩, .bool false]
theorem joinD_lib (L : List (List UInt8)) : Lib.join L [46] = joinD L := by
  induction L with
  | nil => rfl
  | cons x r ih =>
    cases r with
    | nil => rw [Lib.join_one]; rfl
    | cons y r =>
      rw [joinD_cons _ _ (by simp), ← ih, Lib.join_cons, Lib.join_cons]
      simp [Lib.joinTail]
theorem names_len (ls : List (List UInt8)) (ps : List PT) (h : allF ls = some ps) : (joinD (names ps)).length ≤ (joinD ls).length := by
  induction ls generalizing ps with
  | nil => simp [allF] at h; subst h; simp [names, joinD]
  | cons x r ih =>
    rw [allF] at h
    cases hp : partF x with
    | none => simp [hp] at h
    | some p =>
      cases hr : allF r with
      | none => simp [hp, hr] at h
      | some t =>
        simp [hp, hr] at h
        subst h
        have h1 := ih t hr
        have h2 := allF_length _ _ hr
        have h3 : p.1.length ≤ x.length := by
          have := (partF_text x p hp).1
          have e : x.length = (partT p).length := by rw [this]
          rw [e]
          unfold partT
          simp
        cases r with
        | nil =>
          have : t = [] := List.eq_nil_of_length_eq_zero (by simpa using h2)
          subst this
          simpa [names, joinD] using h3
        | cons y r =>
          have ht : names t ≠ [] := by
            intro e
            have : (names t).length = 0 := by rw [e]; rfl
            simp [names] at this
            rw [this] at h2
            simp at h2
          show (joinD (p.1 :: names t)).length ≤ _
          rw [joinD_cons _ _ ht, joinD_cons _ _ (by simp)]
          simp only [List.length_append, List.length_cons]
          omega

def ncells (ps : List PT) : List Value := ps.map fun p => .string ⟨p.1.toArray⟩
theorem infoStr : (Tryd.prog.info? 9).map (fun i => (i.zero, i.size, i.bytes)) = some (some (.string ⟨#[]⟩), 1, 16) := by kernel_rfl
/-- The names up to k, blanks behind. -/
def nrow (ps : List PT) (k : Nat) : List Value := (ncells ps).take k ++ List.replicate (ps.length - k) (.string ⟨#[]⟩)
theorem nrow_set (ps : List PT) (k : Nat) (hk : k < ps.length) : (nrow ps k).set k (.string ⟨ps[k].1.toArray⟩) = nrow ps (k + 1) := by
  unfold nrow
  have hl : (ncells ps).length = ps.length := List.length_map ..
  have htl : ((ncells ps).take k).length = k := by rw [List.length_take]; omega
  rw [List.set_append, if_neg (by omega), htl, Nat.sub_self, show ps.length - k = (ps.length - (k + 1)) + 1 from by omega, List.replicate_succ, List.set_cons_zero,
    List.take_add_one, List.getElem?_eq_getElem (by omega), List.append_assoc]
  congr 1
  simp [ncells]
theorem nrow_zero (ps : List PT) : nrow ps 0 = List.replicate ps.length (.string ⟨#[]⟩) := by simp [nrow]
theorem nrow_all (ps : List PT) : nrow ps ps.length = ncells ps := by
  have hl : (ncells ps).length = ps.length := List.length_map ..
  unfold nrow
  rw [List.take_of_length_le (by omega)]
  simp
theorem nrow_len (ps : List PT) (k : Nat) (hk : k ≤ ps.length) : (nrow ps k).length = ps.length := by
  have hl : (ncells ps).length = ps.length := List.length_map ..
  unfold nrow
  rw [List.length_append, List.length_take, List.length_replicate]
  omega

theorem joinN_c (w : World) (base g : Nat) (ps : List PT) (h : w.ownsRow base 9 1 (.slice (some ⟨g, 0, none⟩) ps.length ps.length) ps.length (ncells ps)) (hM : ps.length ≤ 4194304) (hl : (joinD (names ps)).length ≤ 140737488355328) (hg : g < w.heap.size) :
    Calls Tryd.prog 40 #[.slice (some ⟨g, 0, none⟩) ps.length ps.length, .string ⟨#[46]⟩] w fun e w' => e = .returned (.string ⟨(joinD (names ps)).toArray⟩) ∧ Below w.heap.size w w' := by
  have ho := OwnS.ofRow h
  have hlen : (ps.map fun p => (⟨p.1.toArray⟩ : ByteArray)).length = ps.length := List.length_map ..
  have hmm : ((ps.map fun p => (⟨p.1.toArray⟩ : ByteArray))).map (·.data.toList) = names ps := by
    rw [List.map_map]
    rfl
  have hj := Tryd.strings_Join g 0 ps.length (ps.map fun p => (⟨p.1.toArray⟩ : ByteArray)) ⟨#[46]⟩ w (fun j x hx => ho.cell rfl j (.string x) (by
      simp only [ncells, List.getElem?_map, Option.map_eq_some_iff] at hx ⊢
      obtain ⟨y, hy, rfl⟩ := hx
      exact ⟨y, hy, rfl⟩)) hg (by rw [hlen]; omega) (by rw [hlen]; exact Nat.le_refl _) (by rw [hmm]; show (Lib.join _ [46]).length ≤ _; rw [joinD_lib]; exact hl)
  rw [hlen, hmm, show (⟨#[46]⟩ : ByteArray).data.toList = [46] from rfl, joinD_lib] at hj
  exact hj

set_option maxRecDepth 100000 in
set_option maxHeartbeats 4000000 in
theorem base_c (w : World) (a : ByteArray) (ha : a.size ≤ 2097152) : Calls Tryd.prog 27 #[.string a] w fun e w' => e = .returned (baseV a.data.toList) ∧ Below w.heap.size w w' := by
  cases hx : readF a.data.toList with
  | none =>
    have HR := Lib.hid (fun w => read_none a ha hx w)
    have HO := Lib.hid (show baseV a.data.toList = .tuple #[.string ⟨#[]⟩, .bool false] from by unfold baseV; rw [hx])
    clear hx
    go_enter Tryd.func27, Tryd.ntmps27
    go_wp2_with (go_at_call 39; refine (HR.out _).mono ?_; rintro e w1 ⟨v1, rfl, hb1⟩; have HB1 := Lib.hid hb1; clear hb1)
    go_ret2
    exact ⟨by rw [HO.out]; rfl, HB1.out⟩
  | some x =>
    have HR := Lib.hid (fun w => read_some a ha x hx w)
    have HO := Lib.hid (show baseV a.data.toList = .tuple #[.string ⟨(joinD (names x)).toArray⟩, .bool true] from by unfold baseV; rw [hx])
    have lx := read_len a ha x hx
    have hnl : (joinD (names x)).length ≤ 140737488355328 := by
      have h1 := names_len _ _ hx
      rw [joinD_splitD] at h1
      have h3 : a.data.toList.length = a.size := Array.length_toList
      omega
    have HJ := Lib.hid (fun (w : World) (base g : Nat) (h : w.ownsRow base 9 1 (.slice (some ⟨g, 0, none⟩) x.length x.length) x.length (ncells x)) (hg : g < w.heap.size) => joinN_c w base g x h (by omega) hnl hg)
    obtain ⟨i0, hi, hz0, hz1, hz2⟩ := info_parts infoStr
    clear hx hnl
    go_enter Tryd.func27, Tryd.ntmps27
    go_wp2_with (first
      | (go_at_call 39; refine (HR.out _).mono ?_; rintro e w1 ⟨v1, rfl, ho1, hb1⟩; obtain ⟨a1, c1, rfl, l1, m1, _⟩ := ho1.form; have HB1 := Lib.hid hb1; have HO1 := Lib.hid ho1; clear ho1 hb1 m1)
      | (at_make; refine wpList_make_full w1 rfl _ _ 31 rfl w1.heap.size 9 i0 (.string ⟨#[]⟩) 1 Tryd.underlying31 hi hz0 hz1 .i64 .i64 _ _ x.length rfl rfl rfl rfl (by rw [hz2]; omega) (by unfold maxLen; omega) (Nat.le_refl _) ?_; intro w2 hown2 hgrow2
         have hz : (madeCells (Value.string ⟨#[]⟩).cells (x.length * 1)).toList = nrow x 0 := by
           rw [nrow_zero, Nat.mul_one]
           exact toList_madeCells_one _ _
         rw [hz] at hown2
         have HB2 := Lib.hid (show Below w1.heap.size w1 w2 from (Below.refl _ _).grown hgrow2 (Nat.le_refl _) (fun k e => by cases e))
         have HW2 := Lib.hid hown2
         have hs2 : w1.heap.size < w2.heap.size := (hown2.lt _ rfl).2
         have HS2 := Lib.hid hs2
         clear hown2 hgrow2 hz hs2))
    obtain ⟨g, hg⟩ : ∃ g, w1.heap.size = g := ⟨_, rfl⟩
    have HGE := Lib.hid hg
    rw [hg] at HB2 HW2 HS2 ⊢
    clear hg
    go_loopw [21] (fun i wr => ∃ k : Nat, i = .int .i64 k ∧ k ≤ x.length ∧ Below g w1 wr ∧ g < wr.heap.size ∧ wr.ownsRow g 9 1 (.slice (some ⟨g, 0, none⟩) x.length x.length) x.length (nrow x k)) (fun i _ => x.length - (intOf i).toNat)
    case atStart => exact ⟨0, rfl, by omega, HB2.out, HS2.out, HW2.out⟩
    case round =>
      obtain ⟨k, rfl, hk, hB, hgl, hN⟩ := hrel
      have HB := Lib.hid hB
      have HN := Lib.hid hN
      have HGL := Lib.hid hgl
      clear hB hN
      by_cases hlt : k < x.length
      · obtain ⟨h, off, c', e1, gl1, n1, n2⟩ := (HO1.out.below (by rw [HGE.out]; exact HB.out)).part hlt
        simp only [Value.slice.injEq, true_and] at e1
        obtain ⟨rfl, rfl⟩ := e1
        obtain ⟨old, hc⟩ : ∃ u, wr.cell? ⟨g, k, none⟩ = some u := ⟨(nrow x k)[k]'(by rw [nrow_len x k hk]; exact hlt), (HN.out.cellAt k (by omega)).trans (List.getElem?_eq_getElem _)⟩
        have hf := HN.out.frozenAt k
        have HST := Lib.hid (HN.out.stored k (.string ⟨x[k].1.toArray⟩)).1
        rw [nrow_set x k hlt] at HST
        generalize x[k] = p at *
        go_wp2_with fail
        go_roundw
        case rel => exact ⟨k + 1, by go_num, by omega, (HB.out.setCell (p := ⟨g, k, none⟩) (Nat.le_refl _) _).alloc (by have := HGL.out; simp; omega) _, by have := HGL.out; simp; omega, HST.out.alloc _⟩
        case measure => simp [intOf]; omega
      · have hke : k = x.length := by omega
        subst hke
        have HN2 := Lib.hid HN.out
        rw [nrow_all] at HN2
        clear hlt hk
        go_wp2_with fail
        go_wp2_with (go_at_call 40; refine (HJ.out _ _ _ HN2.out HGL.out).mono ?_; rintro e w3 ⟨rfl, hb3⟩; have HB3 := Lib.hid hb3; clear hb3)
        go_ret2
        refine ⟨by rw [HO.out]; rfl, ?_⟩
        have h1 := HB1.out.size
        have h2 : Below w.heap.size w1 _ := HB.out.mono (by have := HGE.out; omega)
        have h3 := h2.size
        exact (HB1.out.trans h2).trans (HB3.out.mono (by omega))
end Go.Proofs.YtdnfoeoiommclaaDoor.P
