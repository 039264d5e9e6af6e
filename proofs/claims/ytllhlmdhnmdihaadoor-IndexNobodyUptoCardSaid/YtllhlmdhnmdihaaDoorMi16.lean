/- shape: Order, Join, Up, Last, Base. -/
import Derived.Test.YtllhlmdhnmdihaaDoorMi15
import Derived.Test.YtllhlmdhnmdihaaDoorMi01
import Derived.OwnWalk
import Derived.Test.YtllhlmdhnmdihaaDoorMi09
import Derived.Test.YtllhlmdhnmdihaaDoorMi04
namespace Go.Proofs.YtllhlmdhnmdihaaDoor.P
open Go Go.RowKit Go.Shelf
set_option linter.unusedVariables false

/-- read, where the text is a path. -/
theorem read_some (a : ByteArray) (ha : a.size ≤ 2097152) (x : List PT) (hx : readF a.data.toList = some x) (w : World) :
    Calls Tryd.prog 41 #[.string a] w fun e w' => ∃ v, e = .returned (.tuple #[v, .bool true]) ∧ OwnS w' w.heap.size 110 2 v x.length (pcells x) ∧ Below w.heap.size w w' := by
  refine (read_c a ha w).mono ?_
  rintro e w' ⟨v, rfl, h1, h2⟩
  exact ⟨v, by rw [hx]; rfl, OwnS.ofRow (h1 x hx), h2⟩
theorem read_none (a : ByteArray) (ha : a.size ≤ 2097152) (hx : readF a.data.toList = none) (w : World) :
    Calls Tryd.prog 41 #[.string a] w fun e w' => ∃ v, e = .returned (.tuple #[v, .bool false]) ∧ Below w.heap.size w w' := by
  refine (read_c a ha w).mono ?_
  rintro e w' ⟨v, rfl, h1, h2⟩
  exact ⟨v, by rw [hx]; rfl, h2⟩
theorem read_len (a : ByteArray) (ha : a.size ≤ 2097152) (x : List PT) (hx : readF a.data.toList = some x) : x.length ≤ 2097153 := by
  have h1 := allF_length _ _ hx
  have h2 := splitD_length a.data.toList
  have h3 : a.data.toList.length = a.size := Array.length_toList
  omega

theorem catB (a b : ByteArray) : (a ++ b).data.toList = a.data.toList ++ b.data.toList := by simp [ByteArray.data_append]
theorem joinB (up name t : ByteArray) (n : Int) (ht : t = ⟨(txt n).toArray⟩) :
    (up.size = 0 → joinF up.data.toList name.data.toList n = (name ++ ⟨#[35]⟩ ++ t).data.toList) ∧ (0 < up.size → joinF up.data.toList name.data.toList n = (up ++ ⟨#[46]⟩ ++ (name ++ ⟨#[35]⟩ ++ t)).data.toList) := by
  have htt : t.data.toList = txt n := by rw [ht]
  constructor
  · intro h
    have : up.data.toList = [] := List.eq_nil_of_length_eq_zero (by rw [size_list]; exact h)
    unfold joinF
    rw [if_pos this, catB, catB, htt]
    simp
  · intro h
    have : up.data.toList ≠ [] := fun e => by have := size_list up; rw [e] at this; simp at this; omega
    unfold joinF
    rw [if_neg this, catB, catB, catB, catB, htt]
    simp
theorem list_of (s : ByteArray) (l : List UInt8) (h : l = s.data.toList) : (⟨l.toArray⟩ : ByteArray) = s := by rw [h]

end Go.Proofs.YtllhlmdhnmdihaaDoor.P

/- shape: Base. -/
namespace Go.Proofs.YtllhlmdhnmdihaaDoor.P
open Go Go.RowKit Go.Shelf
set_option linter.unusedVariables false

def names (ps : List PT) : List (List UInt8) := ps.map fun p => p.1
/-- The base of an instance's path. -/
def baseV (l : List UInt8) : Value := match readF l with
  | some ps => .tuple #[.string ⟨(joinD (names ps)).toArray⟩, .bool true]
  | none => .tuple #[.string ⟨#[]⟩, .bool false]
theorem joinD_lib (L : List (List UInt8)) : Lib.join L [46] = joinD L := by
  induction L with
  | nil => rfl
  | cons x r ih =>
    cases r with
    | nil => rw [Lib.join_one]; rfl
    | cons y r =>
      rw [joinD_cons _ _ (by simp), ← ih, Lib.join_cons, Lib.join_cons]
      simp [Lib.joinTail]
theorem names_len (ls : List (List UInt8)) (ps : List PT) (h : allF ls = some ps) : (joinD (names ps)).length ≤ (joinD ls).length := by
  induction ls generalizing ps with
  | nil => simp [allF] at h; subst h; simp [names, joinD]
  | cons x r ih =>
    rw [allF] at h
    cases hp : partF x with
    | none => simp [hp] at h
    | some p =>
      cases hr : allF r with
      | none => simp [hp, hr] at h
      | some t =>
        simp [hp, hr] at h
        subst h
        have h1 := ih t hr
        have h2 := allF_length _ _ hr
        have h3 : p.1.length ≤ x.length := by
          have := (partF_text x p hp).1
          have e : x.length = (partT p).length := by rw [this]
          rw [e]
          unfold partT
          simp
        cases r with
        | nil =>
          have : t = [] := List.eq_nil_of_length_eq_zero (by simpa using h2)
          subst this
          simpa [names, joinD] using h3
        | cons y r =>
          have ht : names t ≠ [] := by
            intro e
            have : (names t).length = 0 := by rw [e]; rfl
            simp [names] at this
            rw [this] at h2
            simp at h2
          show (joinD (p.1 :: names t)).length ≤ _
          rw [joinD_cons _ _ ht, joinD_cons _ _ (by simp)]
          simp only [List.length_append, List.length_cons]
          omega

def ncells (ps : List PT) : List Value := ps.map fun p => .string ⟨p.1.toArray⟩
theorem infoStr : (Tryd.prog.info? 9).map (fun i => (i.zero, i.size, i.bytes)) = some (some (.string ⟨#[]⟩), 1, 16) := by kernel_rfl
/-- The names up to k, blanks behind. -/
def nrow (ps : List PT) (k : Nat) : List Value := (ncells ps).take k ++ List.replicate (ps.length - k) (.string ⟨#[]⟩)
theorem nrow_set (ps : List PT) (k : Nat) (hk : k < ps.length) : (nrow ps k).set k (.string ⟨ps[k].1.toArray⟩) = nrow ps (k + 1) := by
  unfold nrow
  have hl : (ncells ps).length = ps.length := List.length_map ..
  have htl : ((ncells ps).take k).length = k := by rw [List.length_take]; omega
  rw [List.set_append, if_neg (by omega), htl, Nat.sub_self, show ps.length - k = (ps.length - (k + 1)) + 1 from by omega, List.replicate_succ, List.set_cons_zero,
    List.take_add_one, List.getElem?_eq_getElem (by omega), List.append_assoc]
  congr 1
  simp [ncells]
theorem nrow_zero (ps : List PT) : nrow ps 0 = List.replicate ps.length (.string ⟨#[]⟩) := by simp [nrow]
theorem nrow_all (ps : List PT) : nrow ps ps.length = ncells ps := by
  have hl : (ncells ps).length = ps.length := List.length_map ..
  unfold nrow
  rw [List.take_of_length_le (by omega)]
  simp
theorem nrow_len (ps : List PT) (k : Nat) (hk : k ≤ ps.length) : (nrow ps k).length = ps.length := by
  have hl : (ncells ps).length = ps.length := List.length_map ..
  unfold nrow
  rw [List.length_append, List.length_take, List.length_replicate]
  omega

theorem joinN_c (w : World) (base g : Nat) (ps : List PT) (h : w.ownsRow base 9 1 (.slice (some ⟨g, 0, none⟩) ps.length ps.length) ps.length (ncells ps)) (hM : ps.length ≤ 4194304) (hl : (joinD (names ps)).length ≤ 140737488355328) (hg : g < w.heap.size) :
    Calls Tryd.prog 42 #[.slice (some ⟨g, 0, none⟩) ps.length ps.length, .string ⟨#[46]⟩] w fun e w' => e = .returned (.string ⟨(joinD (names ps)).toArray⟩) ∧ Below w.heap.size w w' := by
  have ho := OwnS.ofRow h
  have hlen : (ps.map fun p => (⟨p.1.toArray⟩ : ByteArray)).length = ps.length := List.length_map ..
  have hmm : ((ps.map fun p => (⟨p.1.toArray⟩ : ByteArray))).map (·.data.toList) = names ps := by
    rw [List.map_map]
    rfl
  have hj := Tryd.strings_Join g 0 ps.length (ps.map fun p => (⟨p.1.toArray⟩ : ByteArray)) ⟨#[46]⟩ w (fun j x hx => ho.cell rfl j (.string x) (by
      simp only [ncells, List.getElem?_map, Option.map_eq_some_iff] at hx ⊢
      obtain ⟨y, hy, rfl⟩ := hx
      exact ⟨y, hy, rfl⟩)) hg (by rw [hlen]; omega) (by rw [hlen]; exact Nat.le_refl _) (by rw [hmm]; show (Lib.join _ [46]).length ≤ _; rw [joinD_lib]; exact hl)
  rw [hlen, hmm, show (⟨#[46]⟩ : ByteArray).data.toList = [46] from rfl, joinD_lib] at hj
  exact hj

set_option maxRecDepth 100000 in
set_option maxHeartbeats 4000000 in
theorem base_c (w : World) (a : ByteArray) (ha : a.size ≤ 2097152) : Calls Tryd.prog 28 #[.string a] w fun e w' => e = .returned (baseV a.data.toList) ∧ Below w.heap.size w w' := by
  cases hx : readF a.data.toList with
  | none =>
    have HR := Lib.hid (fun w => read_none a ha hx w)
    have HO := Lib.hid (show baseV a.data.toList = .tuple #[.string ⟨#[]⟩, .bool false] from by unfold baseV; rw [hx])
    clear hx
    go_enter Tryd.func28, Tryd.ntmps28
    go_wp2_with (go_at_call 41; refine (HR.out _).mono ?_; rintro e w1 ⟨v1, rfl, hb1⟩; have HB1 := Lib.hid hb1; clear hb1)
    go_ret2
    exact ⟨by rw [HO.out]; rfl, HB1.out⟩
  | some x =>
    have HR := Lib.hid (fun w => read_some a ha x hx w)
    have HO := Lib.hid (show baseV a.data.toList = .tuple #[.string ⟨(joinD (names x)).toArray⟩, .bool true] from by unfold baseV; rw [hx])
    have lx := read_len a ha x hx
    have hnl : (joinD (names x)).length ≤ 140737488355328 := by
      have h1 := names_len _ _ hx
      rw [joinD_splitD] at h1
      have h3 : a.data.toList.length = a.size := Array.length_toList
      omega
    have HJ := Lib.hid (fun (w : World) (base g : Nat) (h : w.ownsRow base 9 1 (.slice (some ⟨g, 0, none⟩) x.length x.length) x.length (ncells x)) (hg : g < w.heap.size) => joinN_c w base g x h (by omega) hnl hg)
    obtain ⟨i0, hi, hz0, hz1, hz2⟩ := info_parts infoStr
    clear hx hnl
    go_enter Tryd.func28, Tryd.ntmps28
    go_wp2_with (first
      | (go_at_call 41; refine (HR.out _).mono ?_; rintro e w1 ⟨v1, rfl, ho1, hb1⟩; obtain ⟨a1, c1, rfl, l1, m1, _⟩ := ho1.form; have HB1 := Lib.hid hb1; have HO1 := Lib.hid ho1; clear ho1 hb1 m1)
      | (at_make; refine wpList_make_full w1 rfl _ _ 31 rfl w1.heap.size 9 i0 (.string ⟨#[]⟩) 1 Tryd.underlying31 hi hz0 hz1 .i64 .i64 _ _ x.length rfl rfl rfl rfl (by rw [hz2]; omega) (by unfold maxLen; omega) (Nat.le_refl _) ?_; intro w2 hown2 hgrow2
         have hz : (madeCells (Value.string ⟨#[]⟩).cells (x.length * 1)).toList = nrow x 0 := by
           rw [nrow_zero, Nat.mul_one]
           exact toList_madeCells_one _ _
         rw [hz] at hown2
         have HB2 := Lib.hid (show Below w1.heap.size w1 w2 from (Below.refl _ _).grown hgrow2 (Nat.le_refl _) (fun k e => by cases e))
         have HW2 := Lib.hid hown2
         have hs2 : w1.heap.size < w2.heap.size := (hown2.lt _ rfl).2
         have HS2 := Lib.hid hs2
         clear hown2 hgrow2 hz hs2))
    obtain ⟨g, hg⟩ : ∃ g, w1.heap.size = g := ⟨_, rfl⟩
    have HGE := Lib.hid hg
    rw [hg] at HB2 HW2 HS2 ⊢
    clear hg
    go_loopw [21] (fun i wr => ∃ k : Nat, i = .int .i64 k ∧ k ≤ x.length ∧ Below g w1 wr ∧ g < wr.heap.size ∧ wr.ownsRow g 9 1 (.slice (some ⟨g, 0, none⟩) x.length x.length) x.length (nrow x k)) (fun i _ => x.length - (intOf i).toNat)
    case atStart => exact ⟨0, rfl, by omega, HB2.out, HS2.out, HW2.out⟩
    case round =>
      obtain ⟨k, rfl, hk, hB, hgl, hN⟩ := hrel
      have HB := Lib.hid hB
      have HN := Lib.hid hN
      have HGL := Lib.hid hgl
      clear hB hN
      by_cases hlt : k < x.length
      · obtain ⟨h, off, c', e1, gl1, n1, n2⟩ := (HO1.out.below (by rw [HGE.out]; exact HB.out)).part hlt
        simp only [Value.slice.injEq, true_and] at e1
        obtain ⟨rfl, rfl⟩ := e1
        obtain ⟨old, hc⟩ : ∃ u, wr.cell? ⟨g, k, none⟩ = some u := ⟨(nrow x k)[k]'(by rw [nrow_len x k hk]; exact hlt), (HN.out.cellAt k (by omega)).trans (List.getElem?_eq_getElem _)⟩
        have hf := HN.out.frozenAt k
        have HST := Lib.hid (HN.out.stored k (.string ⟨x[k].1.toArray⟩)).1
        rw [nrow_set x k hlt] at HST
        generalize x[k] = p at *
        go_wp2_with fail
        go_roundw
        case rel => exact ⟨k + 1, by go_num, by omega, (HB.out.setCell (p := ⟨g, k, none⟩) (Nat.le_refl _) _).alloc (by have := HGL.out; simp; omega) _, by have := HGL.out; simp; omega, HST.out.alloc _⟩
        case measure => simp [intOf]; omega
      · have hke : k = x.length := by omega
        subst hke
        have HN2 := Lib.hid HN.out
        rw [nrow_all] at HN2
        clear hlt hk
        go_wp2_with fail
        go_wp2_with (go_at_call 42; refine (HJ.out _ _ _ HN2.out HGL.out).mono ?_; rintro e w3 ⟨rfl, hb3⟩; have HB3 := Lib.hid hb3; clear hb3)
        go_ret2
        refine ⟨by rw [HO.out]; rfl, ?_⟩
        have h1 := HB1.out.size
        have h2 : Below w.heap.size w1 _ := HB.out.mono (by have := HGE.out; omega)
        have h3 := h2.size
        exact (HB1.out.trans h2).trans (HB3.out.mono (by omega))
end Go.Proofs.YtllhlmdhnmdihaaDoor.P

/- An index: keyOf, For. -/
namespace Go.Proofs.YtllhlmdhnmdihaaDoor
open Go Go.RowKit Go.Shelf Go.ChangeMaps
set_option linter.unusedVariables false
set_option linter.unusedSimpArgs false

theorem baseX_form (l : List UInt8) : ∃ b ok, P.baseV l = .tuple #[.string b, .bool ok] := by
  unfold P.baseV
  split
  · exact ⟨_, _, rfl⟩
  · exact ⟨_, _, rfl⟩
theorem lastX_form (s : ByteArray) : ∃ b n, pairV (lastB s) = .tuple #[.string b, .int .i64 n] := ⟨_, _, rfl⟩
theorem infoK3 : (Tryd.prog.info? 73).map (·.size) = some 3 := by kernel_rfl
theorem three_at {w : World} {b : Nat} {z0 z1 z2 : Value} {T : TypeId} (h : w.heap[b]? = some (.cells #[z0, z1, z2] T (0, 0))) (c0 c1 c2 : Value) :
    (((w.setCell ⟨b, 0, none⟩ c0).setCell ⟨b, 1, none⟩ c1).setCell ⟨b, 2, none⟩ c2).heap[b]? = some (.cells #[c0, c1, c2] T (0, 0)) := by
  simp [World.setCell, Array.getElem?_modify, h]
theorem cells3x {w : World} {b : Nat} {c0 c1 c2 : Value} {T : TypeId} (h : w.heap[b]? = some (.cells #[c0, c1, c2] T (0, 0))) : w.cell? ⟨b, 0, none⟩ = some c0 ∧ w.cell? ⟨b, 1, none⟩ = some c1 ∧ w.cell? ⟨b, 2, none⟩ = some c2 ∧ (∀ o, w.frozen? ⟨b, o, none⟩ = false) := by
  refine ⟨?_, ?_, ?_, fun o => ?_⟩ <;> simp [World.cell?, World.frozen?, h]

def KeyC (w : World) (k : Value) (e : Ending) (w' : World) : Prop := e = .returned k ∧ Below w.heap.size w w'
set_option maxRecDepth 100000 in
theorem keyOf_file (w : World) (p : ByteArray) (n : Int) (hp : p.size ≤ 2097152) : Calls Tryd.prog 13 #[.agg #[.string p, .bool true, .int .i64 n]] w fun e w' => ∃ b, KeyC w (.agg #[.bool true, .string b, .int .i64 n]) e w' := by
  obtain ⟨b, ok, hb⟩ := baseX_form p.data.toList
  have HP := Lib.hid (fun W => P.base_c W p hp)
  rw [hb] at HP
  clear hb hp
  go_enter Tryd.func13, Tryd.ntmps13
  go_wp2_with fail
  refine (HP.out _).mono ?_
  rintro e w2 ⟨rfl, hb2⟩
  have HB2 := Lib.hid (((((Below.refl w.heap.size w).alloc (Nat.le_refl _) _).alloc (by simp) _).trans (hb2.mono (by simp; omega))))
  have h1 := (hb2.block w.heap.size (by simp; omega)).trans (two_old w _ _)
  have h2 := (hb2.block (w.heap.size + 1) (by simp)).trans (two_new w _ _)
  obtain ⟨a0, a1, a2, az⟩ := cells3x h1
  obtain ⟨b0, b1, b2, bz⟩ := cells3x h2
  have H2 := Lib.hid h2
  clear hb2 h1 h2
  go_wp2_with fail
  refine bodyPost_ret (results_cell_row Tryd.results13 _ _ (w.heap.size + 1) 73 _ (0, 0) _ rfl (three_at H2.out _ _ _) Tryd.underlying73 rfl infoK3) rfl ?_
  exact ⟨b, rfl, ((HB2.out.setCell (p := ⟨w.heap.size + 1, 0, none⟩) (by simp) _).setCell (p := ⟨w.heap.size + 1, 1, none⟩) (by simp) _).setCell (p := ⟨w.heap.size + 1, 2, none⟩) (by simp) _⟩
set_option maxRecDepth 100000 in
theorem keyOf_item (w : World) (p b : ByteArray) (n m : Int) (hp : p.size ≤ 2097152) (hl : pairV (lastB p) = .tuple #[.string b, .int .i64 m]) : Calls Tryd.prog 13 #[.agg #[.string p, .bool false, .int .i64 n]] w (KeyC w (.agg #[.bool false, .string b, .int .i64 n])) := by
  have HP := Lib.hid (fun W => lastT_c W p (by omega))
  rw [hl] at HP
  clear hl hp
  go_enter Tryd.func13, Tryd.ntmps13
  go_wp2_with fail
  refine (HP.out _).mono ?_
  rintro e w2 ⟨rfl, hb2⟩
  have HB2 := Lib.hid (((((Below.refl w.heap.size w).alloc (Nat.le_refl _) _).alloc (by simp) _).trans (hb2.mono (by simp; omega))))
  have h1 := (hb2.block w.heap.size (by simp; omega)).trans (two_old w _ _)
  have h2 := (hb2.block (w.heap.size + 1) (by simp)).trans (two_new w _ _)
  obtain ⟨a0, a1, a2, az⟩ := cells3x h1
  obtain ⟨b0, b1, b2, bz⟩ := cells3x h2
  have H2 := Lib.hid h2
  clear hb2 h1 h2
  go_wp2_with fail
  refine bodyPost_ret (results_cell_row Tryd.results13 _ _ (w.heap.size + 1) 73 _ (0, 0) _ rfl (three_at H2.out _ _ _) Tryd.underlying73 rfl infoK3) rfl ?_
  exact ⟨rfl, ((HB2.out.setCell (p := ⟨w.heap.size + 1, 0, none⟩) (by simp) _).setCell (p := ⟨w.heap.size + 1, 1, none⟩) (by simp) _).setCell (p := ⟨w.heap.size + 1, 2, none⟩) (by simp) _⟩
/-- The key of whatever event. -/
theorem keyOf_any (w : World) (p : ByteArray) (f : Bool) (n : Int) (hp : p.size ≤ 2097152) : Calls Tryd.prog 13 #[.agg #[.string p, .bool f, .int .i64 n]] w fun e w' => ∃ b, e = .returned (.agg #[.bool f, .string b, .int .i64 n]) ∧ Below w.heap.size w w' := by
  cases f
  · obtain ⟨b, m, hl⟩ := lastX_form p
    exact (keyOf_item w p b n m hp hl).mono fun _ _ h => ⟨b, h.1, h.2⟩
  · exact (keyOf_file w p n hp).mono fun _ _ h => h
end Go.Proofs.YtllhlmdhnmdihaaDoor

/- An index: For of an index that no call made; the law's awake. -/
namespace Go.Proofs.YtllhlmdhnmdihaaDoor
open Go Go.RowKit Go.Shelf Go.ChangeMaps
set_option linter.unusedVariables false
set_option linter.unusedSimpArgs false

/-- The cells of an index that no call made. -/
def zeroX : Array Value := #[.string ⟨#[]⟩, .string ⟨#[]⟩, .slice none 0 0, .slice none 0 0, .string ⟨#[]⟩, .string ⟨#[]⟩, .int .i64 0, .slice none 0 0, .slice none 0 0, .string ⟨#[]⟩, .string ⟨#[]⟩, .string ⟨#[]⟩, .bool false, .bool false, .int .i64 0, .slice none 0 0, .slice none 0 0, .slice none 0 0, .map none]
/-- An index that no call made: nil, or zero. -/
def Nobody (w : World) (x : Value) : Prop := x = .pointer none ∨ ∃ X, x = .pointer (some ⟨X, 0, none⟩) ∧ w.heap[X]? = some (.cells zeroX 41 (0, 0))
theorem Nobody.below {w W : World} {x : Value} (h : Nobody w x) (hb : Below w.heap.size w W) : Nobody W x := by
  rcases h with h | ⟨X, h, hx⟩
  · exact .inl h
  · exact .inr ⟨X, h, (hb.block X (Array.getElem?_eq_some_iff.1 hx).1).trans hx⟩

set_option maxRecDepth 100000 in
theorem for_none (w : World) (x : Value) (hx : Nobody w x) (p : ByteArray) (f : Bool) (n : Int) (hp : p.size ≤ 2097152) : Calls Tryd.prog 7 #[x, .agg #[.string p, .bool f, .int .i64 n]] w fun e w' => e = .returned (.slice none 0 0) ∧ Below w.heap.size w w' := by
  rcases hx with rfl | ⟨X, rfl, hx⟩
  · go_enter Tryd.func7, Tryd.ntmps7
    go_wp2_with fail
    go_ret
    exact ⟨rfl, (Below.refl _ _).alloc (Nat.le_refl _) _⟩
  · have HK := Lib.hid (fun W => keyOf_any W p f n hp)
    have HL := Lib.hid lookX_nil
    have HC := Lib.hid cloneHook_nil
    have hXl := (Array.getElem?_eq_some_iff.1 hx).1
    have x18 : w.cell? ⟨X, 18, none⟩ = some (.map none) := by simp [World.cell?, hx, zeroX]
    have HX := Lib.hid hx
    clear hx
    go_enter Tryd.func7, Tryd.ntmps7
    go_wp2_with fail
    go_region_law (first
      | (go_simp; go_at_call 13; refine (HK.out _).mono ?_
         rintro e w2 ⟨b, rfl, hb2⟩
         have HB2 := Lib.hid ((((Below.refl w.heap.size w).alloc (Nat.le_refl _) _).drew).trans (hb2.mono (by simp)))
         have y18 : w2.cell? ⟨X, 18, none⟩ = some (.map none) := (HB2.out.cell (p := ⟨X, 18, none⟩) hXl).trans x18
         have hlk := HL.out w2 f b n
         clear hb2)
      | (go_simp; go_at_call 12; refine (HC.out _).mono ?_; rintro e w' ⟨rfl, rfl⟩)
      | fail "no arm")
    all_goals
      go_wp2_with fail
      go_ret
      exact ⟨rfl, HB2.out⟩
end Go.Proofs.YtllhlmdhnmdihaaDoor

/- An index: the law's awake. -/
namespace Go.Proofs.YtllhlmdhnmdihaaDoor
open Go Go.RowKit Go.Shelf Go.ChangeMaps
set_option linter.unusedVariables false
set_option linter.unusedSimpArgs false

theorem lastX_a : pairV (lastB ⟨#[112, 46, 49, 47, 97, 46, 49]⟩) = .tuple #[.string ⟨#[97]⟩, .int .i64 1] := by
  rw [show lastB ⟨#[112, 46, 49, 47, 97, 46, 49]⟩ = ([97], 1) from by decide +kernel]
  rfl
def ForC (w : World) (e : Ending) (w' : World) : Prop := ∃ g off c, e = .returned (.slice (some ⟨g, off, none⟩) 1 c) ∧ Row w.heap.size w' (.slice (some ⟨g, off, none⟩) 1 c) 1 4 hookX ∧ Below w.heap.size w w'
set_option maxRecDepth 100000 in
theorem for_one (w : World) (X M B : Nat) (v : Value) (hx : w.cell? ⟨X, 18, none⟩ = some (.map (some M))) (hXl : X < w.heap.size) (hm : w.heap[M]? = some (.map #[⟨keyA, v, 0⟩] 1)) (hr : Row B w v 1 4 hookX) :
    Calls Tryd.prog 7 #[.pointer (some ⟨X, 0, none⟩), .agg #[.string ⟨#[112, 46, 49, 47, 97, 46, 49]⟩, .bool false, .int .i64 7]] w (ForC w) := by
  have HK := Lib.hid (fun W => keyOf_item W ⟨#[112, 46, 49, 47, 97, 46, 49]⟩ ⟨#[97]⟩ 7 1 (by decide) lastX_a)
  have HL := Lib.hid (fun W h => lookX_one W M v h)
  have HC := Lib.hid (fun (W : World) (hb : Below w.heap.size w W) => cloneHook_c W v 1 _ B (hr.below hb) (by omega))
  have HMl := Lib.hid (Array.getElem?_eq_some_iff.1 hm).1
  have x18 := hx
  have HM := Lib.hid hm
  obtain ⟨g, o, c, hv⟩ := rowX_form hr
  subst hv
  clear hx hm hr
  go_enter Tryd.func7, Tryd.ntmps7
  go_wp2_with fail
  go_region_law (first
    | (go_simp; go_at_call 13; refine (HK.out _).mono ?_
       rintro e w2 ⟨rfl, hb2⟩
       have HB2 := Lib.hid ((((Below.refl w.heap.size w).alloc (Nat.le_refl _) _).drew).trans (hb2.mono (by simp)))
       have y18 : w2.cell? ⟨X, 18, none⟩ = some (.map (some M)) := (HB2.out.cell (p := ⟨X, 18, none⟩) hXl).trans x18
       have hlk := HL.out w2 ((HB2.out.block M HMl.out).trans HM.out)
       clear hb2)
    | (go_simp; go_at_call 12; refine (HC.out _ HB2.out).mono ?_; rintro e w3 ⟨v3, rfl, ho3, hb3⟩; obtain ⟨g3, o3, c3, hv3, hg3, hl3, ow3⟩ := ho3.own1 (by omega); subst hv3; have HR3 := Lib.hid (ow3.row (by simp [hookX, Value.oneCell']) w.heap.size (by have := HB2.out.size; omega)); have HB3 := Lib.hid (HB2.out.trans (hb3.mono HB2.out.size)); clear ho3 hb3 ow3 hg3 hl3)
    | fail "no arm")
  all_goals
    go_wp2_with fail
    go_ret
    exact ⟨_, _, _, rfl, HR3.out, HB3.out⟩

set_option maxRecDepth 100000 in
set_option maxHeartbeats 1000000 in
theorem awake_c (w : World) : Calls Tryd.prog 5 #[] w fun e w' => e = .returned (.bool true) ∧ Below w.heap.size w w' := by
  obtain ⟨w0, hw0⟩ : ∃ x, x = (((w.alloc (.cells #[.string ⟨#[97]⟩, .string ⟨#[]⟩, .int .i64 7] 57)).alloc (.cells #[.slice (some ⟨w.heap.size, 0, none⟩) 1 1, .string ⟨#[]⟩] 60)).alloc (.cells (cellsB (w.heap.size + 1)) 36)).alloc (.cells (cellsM (w.heap.size + 1 + 1)) 38) := ⟨_, rfl⟩
  obtain ⟨hm, hb, q3⟩ := modI_in w w0 hw0
  have HN := Lib.hid (new_x w0 _ hm)
  have HI := Lib.hid infoGM18
  have HQ := Lib.hid q3
  have HB := Lib.hid hb
  unfold cellsB cellsM at hw0
  unfold cellsM at HQ
  have HW0 := Lib.hid hw0
  have hq : ((⟨#[98]⟩ : ByteArray).toList == [98]) = true := by decide +kernel
  clear q3 hb hm hw0
  go_enter Tryd.func5, Tryd.ntmps5
  go_upto_region 3 with (fail)
  rw [← HW0.out]
  go_wp2_with (refine wpList_load_row rfl 38 (Operand.tmp 2) rfl (w.heap.size + 3) rfl 38 _ (0, 0) _ HQ.out Tryd.underlying38 rfl HI.out ?_)
  refine HN.out.mono ?_
  rintro e w1 ⟨X, M, v, rfl, hx, hXl, hm, hr, hb1⟩
  have HF := Lib.hid (for_one w1 X M _ v hx hXl hm hr)
  have HB1 := Lib.hid (HB.out.trans (hb1.mono HB.out.size))
  clear hx hXl hm hr hb1
  go_wp2_with fail
  refine HF.out.mono ?_
  rintro e w2 ⟨g, o, c, rfl, hr2, hb2⟩
  have HB2 := Lib.hid (HB1.out.trans (hb2.mono HB1.out.size))
  unfold hookX at hr2
  have k0 := hr2.at 0 _ rfl
  have k1 := hr2.at 1 _ rfl
  simp only [Nat.add_zero] at k0
  clear hr2 hb2
  go_wp2_with fail
  go_ret
  exact ⟨rfl, HB2.out⟩
end Go.Proofs.YtllhlmdhnmdihaaDoor
