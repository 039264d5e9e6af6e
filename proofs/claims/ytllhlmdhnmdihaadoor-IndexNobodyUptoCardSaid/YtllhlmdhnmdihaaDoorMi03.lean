/- tree: the program's Cut, Last, the order of two parts. -/
import Derived.Test.YtllhlmdhnmdihaaDoorMi02
import Derived.Test.YtllhlmdhnmdihaaDoorShelf
import Derived.Deep.RegionHeld3
import Derived.Deep.QuietTactic
import Derived.BigQuiet
import Derived.Test.YtllhlmdhnmdihaaDoorYi
import Derived.Shelf.Abstract
namespace Go.Proofs.YtllhlmdhnmdihaaDoor
open Go Go.RowKit Go.Shelf
set_option linter.unusedVariables false

theorem below_drewN {B : Nat} {a w : World} (h : Below B a w) (n : Nat) : Below B a (w.drewN n) := ⟨h.os, h.tape, h.output, h.size, h.block⟩
set_option maxRecDepth 100000 in
theorem cut1_c (s : ByteArray) (hs : s.size ≤ 140737488355328) (w : World) : Calls Tryd.prog 79 #[.string s, .string ⟨#[47]⟩] w fun e w' =>
    e = .returned (.tuple #[.string ⟨(cutS s.data.toList).1.toArray⟩, .string ⟨(cutS s.data.toList).2.toArray⟩, .bool (decide (47 ∈ s.data.toList))]) ∧ ∃ q, w' = w.drewN q := by
  have hrl : s.data.toList.length = s.size := Array.length_toList
  rcases idx_cases 47 s.data.toList with ⟨hi, hnot⟩ | ⟨k, hi, hk, hnot, hcut⟩
  · have HC := Lib.hid (fun w => Tryd.stringslite_Index_one s 47 w)
    rw [hi] at HC
    have HH := Lib.hid (cutS_none _ hnot)
    have HD := Lib.hid (show decide ((47 : UInt8) ∈ s.data.toList) = false from decide_eq_false hnot)
    clear hi hnot hrl
    go_enter Tryd.func79, Tryd.ntmps79
    go_wp2_with (go_at_call 83; refine (HC.out _).mono ?_; rintro e w' ⟨rfl, rfl⟩)
    go_ret3
    exact ⟨by rw [HH.out, HD.out]; rfl, 0, rfl⟩
  · have HC := Lib.hid (fun w => Tryd.stringslite_Index_one s 47 w)
    rw [hi] at HC
    have hh : cutS s.data.toList = (s.data.toList.take k, s.data.toList.drop (k + 1)) := by
      conv => lhs; rw [hcut]
      exact cutS_of _ _ hnot
    have HH := Lib.hid hh
    have HD := Lib.hid (show decide ((47 : UInt8) ∈ s.data.toList) = true from decide_eq_true (by rw [hcut]; simp))
    have hk0 : k ≤ s.size := by omega
    have hk1 : k + 1 ≤ s.size := by omega
    clear hi hnot hrl hcut hk hh
    go_enter Tryd.func79, Tryd.ntmps79
    go_wp2_with (go_at_call 83; refine (HC.out _).mono ?_; rintro e w' ⟨rfl, rfl⟩)
    go_quiet (fail)
    go_wp2_with fail
    go_ret3
    exact ⟨by rw [HH.out, HD.out, ← cutTo, ← cutFrom]; rfl, _, rfl⟩
theorem cut_c (s : ByteArray) (hs : s.size ≤ 140737488355328) (w : World) : Calls Tryd.prog 71 #[.string s, .string ⟨#[47]⟩] w fun e w' =>
    e = .returned (.tuple #[.string ⟨(cutS s.data.toList).1.toArray⟩, .string ⟨(cutS s.data.toList).2.toArray⟩, .bool (decide (47 ∈ s.data.toList))]) ∧ ∃ q, w' = w.drewN q := by
  have HC := fun w => cut1_c s hs w
  generalize (⟨(cutS s.data.toList).1.toArray⟩ : ByteArray) = A at *
  generalize (⟨(cutS s.data.toList).2.toArray⟩ : ByteArray) = D at *
  generalize decide ((47 : UInt8) ∈ s.data.toList) = b at *
  have HC' := Lib.hid HC
  clear HC
  go_enter Tryd.func71, Tryd.ntmps71
  go_wp2_with (go_at_call 79; refine (HC'.out _).mono ?_; rintro e w' ⟨rfl, q, rfl⟩)
  go_ret3
  exact ⟨rfl, _, rfl⟩

def pairV (p : PT) : Value := .tuple #[.string ⟨p.1.toArray⟩, .int .i64 p.2]

set_option maxRecDepth 100000 in
set_option maxHeartbeats 1000000 in
theorem last_c (w : World) (s : ByteArray) (hs : s.size ≤ 140737488355328) (hno : (47 : UInt8) ∉ s.data.toList) : Calls Tryd.prog 29 #[.string s] w fun e w' => e = .returned (pairV (lastP s.data.toList)) ∧ Below w.heap.size w w' := by
  have HL1 := fun w => Tryd.strings_LastIndex s ⟨#[47]⟩ (by omega) w
  rw [show (⟨#[47]⟩ : ByteArray).data.toList = [47] from rfl, lastIs_unique _ _ _ _ (lastIs_lib s.data.toList 47) (.inl ⟨rfl, hno⟩)] at HL1
  have HL1 := Lib.hid HL1
  have HL2 := fun w => Tryd.strings_LastIndex s ⟨#[46]⟩ (by omega) w
  rw [show (⟨#[46]⟩ : ByteArray).data.toList = [46] from rfl] at HL2
  obtain ⟨z, hz⟩ : ∃ z, Lib.lastIndex s.data.toList [46] = z := ⟨_, rfl⟩
  rw [hz] at HL2
  have HL2 := Lib.hid HL2
  clear hno
  by_cases h1 : z < 1
  · have hd : decide (z < 1) = true := decide_eq_true h1
    have HP := Lib.hid (lastP_off _ _ hz h1)
    clear hz
    go_enter Tryd.func29, Tryd.ntmps29
    go_wp2_with (first
      | (go_at_call 43; with_reducible refine (HL2.out _).mono ?_; rintro e w' ⟨rfl, rfl⟩)
      | (go_at_call 43; with_reducible refine (HL1.out _).mono ?_; rintro e w' ⟨rfl, rfl⟩))
    go_ret2
    exact ⟨by rw [HP.out]; rfl, Below.refl _ _⟩
  · obtain ⟨k, rfl⟩ : ∃ k : Nat, z = (k : Int) := ⟨z.toNat, by omega⟩
    have hk : k < s.size := by
      have := lastIs_lib s.data.toList 46
      rw [hz] at this
      rcases this with ⟨e, _⟩ | ⟨j, e, hj, _⟩
      · omega
      · have : s.data.toList.length = s.size := Array.length_toList
        omega
    have hd : decide ((k : Int) < 1) = false := decide_eq_false h1
    have hk1 : k + 1 ≤ s.size := hk
    have hk0 : k ≤ s.size := by omega
    have HN := Lib.hid (fun w => number_c w (s.extract (k + 1) s.size) (by rw [ByteArray.size_extract]; omega))
    have he : tb (s.extract (k + 1) s.size) = s.data.toList.drop (k + 1) := by rw [cutFrom]; rfl
    rw [he] at HN
    have HP1 := Lib.hid (lastP_bad _ _ hz)
    have HP2 := Lib.hid (lastP_ok _ _ hz (by omega))
    rw [show ((k : Int)).toNat = k from by omega] at HP1 HP2
    have HC := Lib.hid (cutTo s k)
    obtain ⟨n, hn⟩ : ∃ n, (num (s.data.toList.drop (k + 1))).1 = n := ⟨_, rfl⟩
    obtain ⟨q, hq⟩ : ∃ q, (num (s.data.toList.drop (k + 1))).2 = q := ⟨_, rfl⟩
    rw [hn, hq] at HN HP1 HP2
    clear hn hq hz he h1 hk
    by_cases hq0 : q = 0
    · subst hq0
      by_cases hn1 : n < 1
      · have hdn : decide (n < 1) = true := decide_eq_true hn1
        have HP := Lib.hid (HP1.out (.inr hn1))
        clear HP1 HP2 hn1
        go_enter Tryd.func29, Tryd.ntmps29
        go_wp2_with (first
          | (go_at_call 44; refine (HN.out _).mono ?_; rintro e w' ⟨rfl, rfl⟩)
          | (go_at_call 43; with_reducible refine (HL2.out _).mono ?_; rintro e w' ⟨rfl, rfl⟩)
          | (go_at_call 43; with_reducible refine (HL1.out _).mono ?_; rintro e w' ⟨rfl, rfl⟩))
        go_ret2
        exact ⟨by rw [HP.out]; rfl, Below.refl _ _⟩
      · have hdn : decide (n < 1) = false := decide_eq_false hn1
        have HP := Lib.hid (HP2.out rfl (by omega))
        clear HP1 HP2 hn1
        go_enter Tryd.func29, Tryd.ntmps29
        go_wp2_with (first
          | (go_at_call 44; refine (HN.out _).mono ?_; rintro e w' ⟨rfl, rfl⟩)
          | (go_at_call 43; with_reducible refine (HL2.out _).mono ?_; rintro e w' ⟨rfl, rfl⟩)
          | (go_at_call 43; with_reducible refine (HL1.out _).mono ?_; rintro e w' ⟨rfl, rfl⟩))
        go_ret2
        exact ⟨by rw [HP.out]; unfold pairV; rw [← HC.out]; rfl, Below.refl _ _⟩
    · have hqb : ((q : Int) != 0) = true := by simpa using hq0
      have HP := Lib.hid (HP1.out (.inl hq0))
      clear HP1 HP2 hq0
      go_enter Tryd.func29, Tryd.ntmps29
      go_wp2_with (first
        | (go_at_call 44; refine (HN.out _).mono ?_; rintro e w' ⟨rfl, rfl⟩)
        | (go_at_call 43; with_reducible refine (HL2.out _).mono ?_; rintro e w' ⟨rfl, rfl⟩)
        | (go_at_call 43; with_reducible refine (HL1.out _).mono ?_; rintro e w' ⟨rfl, rfl⟩))
      go_ret2
      exact ⟨by rw [HP.out]; rfl, Below.refl _ _⟩

def orI (x y : Int) : Int := if x = 0 then y else x
theorem cells3' {w : World} {b : Nat} {u v t : Value} {T : TypeId} (h : w.heap[b]? = some (.cells #[u, v, t] T (0, 0))) : w.cell? ⟨b, 0, none⟩ = some u ∧ w.cell? ⟨b, 1, none⟩ = some v ∧ w.cell? ⟨b, 2, none⟩ = some t := by
  refine ⟨?_, ?_, ?_⟩ <;> simp [World.cell?, h]

theorem cmpX_or (x y : List UInt8) : orI (Lib.compareBytes (lastP x).1 (lastP y).1) (orI (Lib.compareInt (lastP x).2 (lastP y).2) (Lib.compareBytes x y)) = cmpX x y := by
  have h : Lib.compareInt (lastP x).2 (lastP y).2 = cmpI (lastP x).2 (lastP y).2 := rfl
  rw [h]
  unfold orI cmpX cmpP
  by_cases h1 : Lib.compareBytes (lastP x).1 (lastP y).1 = 0
  · simp only [h1, if_true]
  · simp only [h1, if_false]

end Go.Proofs.YtllhlmdhnmdihaaDoor

/- tree: the reference's last, part, texts. -/
namespace Go.Proofs.YtllhlmdhnmdihaaDoor
open Go Go.RowKit Go.Shelf
set_option linter.unusedVariables false

theorem size_list (s : ByteArray) : s.data.toList.length = s.size := Array.length_toList
theorem drop_next (s : ByteArray) (k : Nat) (h : k < s.size) : s.data.toList.drop k = s[k] :: s.data.toList.drop (k + 1) := by
  rw [List.drop_eq_getElem_cons (by rw [size_list]; exact h)]
  rfl
theorem drop_all (s : ByteArray) : s.data.toList.drop s.size = [] := by rw [← size_list]; exact List.drop_length

end Go.Proofs.YtllhlmdhnmdihaaDoor

/- Cases: what is above a path, both sides. Written by tools/genyj.py. -/
namespace Go.Proofs.YtllhlmdhnmdihaaDoor
open Go Go.RowKit
set_option linter.unusedVariables false
set_option linter.unusedSimpArgs false

/-- What is above a path. -/
def upB (s : ByteArray) : ByteArray := s.extract 0 (max 0 (Lib.lastIndex s.data.toList [47])).toNat
theorem upB_no (s : ByteArray) (h : Lib.lastIndex s.data.toList [47] = -1) : upB s = ByteArray.empty := by unfold upB; rw [h]; show s.extract 0 0 = _; simp
theorem upB_at (s : ByteArray) (k : Nat) (h : Lib.lastIndex s.data.toList [47] = (k : Int)) : upB s = s.extract 0 k := by unfold upB; rw [h, show (max (0 : Int) (k : Int)).toNat = k from by omega]
theorem last47 (s : ByteArray) : Lib.lastIndex s.data.toList [47] = -1 ∨ ∃ k : Nat, Lib.lastIndex s.data.toList [47] = (k : Int) ∧ k ≤ s.size := by
  rcases lastIs_lib s.data.toList 47 with ⟨h, _⟩ | ⟨k, h, hk, _⟩
  · exact .inl h
  · exact .inr ⟨k, h, by rw [size_list] at hk; omega⟩

theorem one_cut47 (s : ByteArray) (h : 0 < s.size) : s.extract 0 1 = ⟨#[s[0]]⟩ := by
  rw [cutTo]
  have := drop_next s 0 h
  rw [List.drop_zero] at this
  rw [this]
  rfl
def slB : List UInt8 → Bool
  | c :: _ => decide (c.toNat = 47)
  | [] => false
/-- Whether a path is below one. -/
def underB (x up : ByteArray) : Bool := decide (up.size < x.size) && ((x.extract 0 (up.size + 1)).toList == (up ++ ⟨#[47]⟩).toList)
theorem cut_list (s : ByteArray) (k : Nat) : (s.extract 0 k).toList = s.data.toList.take k := by rw [ByteArray.toList_eq, cutTo]
theorem cat_list (u : ByteArray) : (u ++ ⟨#[47]⟩ : ByteArray).toList = u.data.toList ++ [47] := by rw [ByteArray.toList_eq, ByteArray.data_append]; simp
theorem under_no (x u : ByteArray) (h : Lib.hasPrefix x.data.toList u.data.toList = false) : underB x u = false := by
  unfold underB
  rw [cut_list, cat_list, Bool.and_eq_false_iff]
  refine .inr ?_
  rw [beq_eq_false_iff_ne]
  intro e
  have : u.data.toList <+: x.data.toList := by
    refine List.IsPrefix.trans ⟨[47], e.symm ▸ rfl⟩ (List.take_prefix (u.size + 1) x.data.toList)
  unfold Lib.hasPrefix at h
  rw [List.isPrefixOf_iff_prefix.2 this] at h
  cases h
theorem under_yes (x u : ByteArray) (h : Lib.hasPrefix x.data.toList u.data.toList = true) : underB x u = slB (Lib.trimPrefix x.data.toList u.data.toList) := by
  unfold Lib.trimPrefix
  rw [if_pos h]
  unfold Lib.hasPrefix at h
  obtain ⟨t, ht⟩ := List.isPrefixOf_iff_prefix.1 h
  unfold underB
  rw [cut_list, cat_list, ← size_list x, ← size_list u, ← ht, List.drop_left]
  cases t with
  | nil => simp [slB]
  | cons c t =>
    have h1 : (u.data.toList ++ c :: t).take (u.data.toList.length + 1) = u.data.toList ++ [c] := by
      rw [show u.data.toList ++ c :: t = (u.data.toList ++ [c]) ++ t from by simp]
      rw [List.take_left' (by simp)]
    rw [h1, decide_eq_true (by simp), Bool.true_and]
    show _ = decide (c.toNat = 47)
    by_cases hc : c.toNat = 47
    · rw [decide_eq_true hc, show c = 47 from UInt8.toNat_inj.1 hc]; simp
    · rw [decide_eq_false hc, beq_eq_false_iff_ne]
      intro e
      have := List.append_cancel_left e
      simp only [List.cons.injEq, and_true] at this
      exact hc (by rw [this]; rfl)

end Go.Proofs.YtllhlmdhnmdihaaDoor

/- Cases: lists of instances that a call made; those right below a path (the reference's). Written by tools/genyk.py. -/
namespace Go.Proofs.YtllhlmdhnmdihaaDoor
open Go Go.RowKit
set_option linter.unusedVariables false
set_option linter.unusedSimpArgs false

/-- An instance without the place of its latches. -/
def IV.bare (x : IV) : IV := { x with lv := .slice none 0 0 }
def flatI (l : List IV) : List Value := l.flatMap IV.cells
theorem flatI_snoc (l : List IV) (x : IV) : flatI (l ++ [x]) = flatI l ++ x.cells := by simp [flatI]
/-- A list of instances in memory from a block on. -/
def InstsOwn (w : World) (base : Nat) (v : Value) (l : List IV) : Prop :=
  ∃ l' : List IV, l'.map IV.bare = l.map IV.bare ∧ w.ownsRow base 51 6 v l'.length (flatI l') ∧ ∀ x ∈ l', OwnS w base 3 1 x.lv x.ls.length (icells x.ls)
theorem InstsOwn.nil (w : World) (base : Nat) : InstsOwn w base (.slice none 0 0) [] := ⟨[], rfl, World.ownsRow_nil _ _ _ _, by simp⟩
theorem InstsOwn.len {w : World} {base : Nat} {v : Value} {l : List IV} (h : InstsOwn w base v l) : ∃ l' : List IV, l'.length = l.length ∧ w.ownsRow base 51 6 v l.length (flatI l') := by
  obtain ⟨l', h1, h2, _⟩ := h
  have hl : l'.length = l.length := by simpa using congrArg List.length h1
  exact ⟨l', hl, hl ▸ h2⟩
theorem ownr_lt {w : World} {base n size : Nat} {e : TypeId} {v : Value} {xs : List Value} (h : w.ownsRow base e size v n xs) : ∀ g, v.ownBlock = some g → base ≤ g ∧ g < w.heap.size := by
  intro k hk
  rcases h.2 with ⟨rfl, _⟩ | ⟨g, cap, cur, rfl, hb, hg, _⟩
  · simp [Value.ownBlock] at hk
  · simp [Value.ownBlock] at hk
    subst hk
    exact ⟨hb, (Array.getElem?_eq_some_iff.1 hg).1⟩
theorem ownr_keep {w w' : World} {base n size : Nat} {e : TypeId} {v : Value} {xs : List Value} (h : w.ownsRow base e size v n xs) (hb : ∀ g, v.ownBlock = some g → w'.heap[g]? = w.heap[g]?) : w'.ownsRow base e size v n xs := by
  refine ⟨h.1, h.2.imp id ?_⟩
  rintro ⟨g, cap, cur, rfl, h2, h3, h4⟩
  exact ⟨g, cap, cur, rfl, h2, (hb g rfl).trans h3, h4⟩
theorem ownr_below {w w' : World} {base n size : Nat} {e : TypeId} {v : Value} {xs : List Value} (h : w.ownsRow base e size v n xs) (hb : Below w.heap.size w w') : w'.ownsRow base e size v n xs :=
  ownr_keep h fun g hg => hb.block g (ownr_lt h g hg).2
theorem ownS_below {w w' : World} {base : Nat} {e : TypeId} {size : Nat} {v : Value} {n : Nat} {xs : List Value} (h : OwnS w base e size v n xs) (hb : Below w.heap.size w w') : OwnS w' base e size v n xs :=
  h.keep fun g hg => hb.block g (h.lt g hg)
theorem InstsOwn.below {w w' : World} {base : Nat} {v : Value} {l : List IV} (h : InstsOwn w base v l) (hb : Below w.heap.size w w') : InstsOwn w' base v l := by
  obtain ⟨l', h1, h2, h3⟩ := h
  exact ⟨l', h1, ownr_below h2 hb, fun x hx => ownS_below (h3 x hx) hb⟩
/-- Rows of two types lie apart. -/
theorem own_apart {w : World} {b b2 n m s1 s2 : Nat} {e e2 : TypeId} {v v2 : Value} {xs ys : List Value} (hne : e ≠ e2) (h : w.ownsRow b e s1 v n xs) (h2 : OwnS w b2 e2 s2 v2 m ys) : ∀ g, v2.ownBlock = some g → some g ≠ v.ownBlock := by
  intro g hg
  rcases h.2 with ⟨rfl, _⟩ | ⟨g1, cap, cur, rfl, _, h3, _⟩
  · simp [Value.ownBlock]
  · rcases h2.2 with ⟨rfl, _⟩ | ⟨g2, off, cap2, cur2, rfl, _, h4, _⟩
    · simp [Value.ownBlock] at hg
    · simp [Value.ownBlock] at hg ⊢
      subst hg
      intro e
      subst e
      rw [h3] at h4
      simp only [Option.some.injEq, Obj.cells.injEq] at h4
      exact hne h4.2.1
theorem own_grow {W W' : World} {b b2 n m s1 s2 : Nat} {e e2 : TypeId} {v v2 : Value} {xs ys : List Value} (hne : e ≠ e2) (h : W.ownsRow b e s1 v n xs) (h2 : OwnS W b2 e2 s2 v2 m ys) (hg : W.grownBy W' v.ownBlock) : OwnS W' b2 e2 s2 v2 m ys :=
  h2.keep fun g hg2 => hg.block g (h2.lt g hg2) (own_apart hne h h2 g hg2)
theorem cells_new6 (W : World) (c0 c1 c2 c3 c4 c5 : Value) (T : TypeId) : ∀ (j : Nat) u, [c0, c1, c2, c3, c4, c5][j]? = some u → (W.alloc (.cells #[c0, c1, c2, c3, c4, c5] T)).cell? ((⟨W.heap.size, 0, none⟩ : Addr).add j) = some u := by
  intro j u hu
  rw [Addr.add_lit]
  simp only [World.cell?, heap_alloc_new, Nat.zero_add]
  simpa using hu
theorem infoInst : (Tryd.prog.info? 51).map (fun i => (i.zero, i.size, i.bytes)) = some (some (.agg #[.string ⟨#[]⟩, .string ⟨#[]⟩, .int .i64 0, .int .i64 0, .slice none 0 0, .int .i64 0]), 6, 80) := by kernel_rfl
/-- One more. -/
theorem InstsOwn.push {w W1 W3 W4 : World} {base : Nat} {v v2 : Value} {l : List IV} {y x : IV} {o : Obj} {l' : List IV} (h1 : l'.map IV.bare = l.map IV.bare) (h2 : w.ownsRow base 51 6 v l'.length (flatI l')) (h3 : ∀ x ∈ l', OwnS w base 3 1 x.lv x.ls.length (icells x.ls))
    (hb : Below w.heap.size w W3) (hx : OwnS W3 base 3 1 x.lv x.ls.length (icells x.ls)) (hxy : x.bare = y.bare)
    (hown : W4.ownsRow base 51 6 v2 (l'.length + 1) (flatI l' ++ x.cells)) (hg : (W3.alloc o).grownBy W4 v.ownBlock) : InstsOwn W4 base v2 (l ++ [y]) := by
  have h2' := ownr_below (ownr_below h2 hb) ((Below.refl _ W3).alloc (Nat.le_refl _) o)
  refine ⟨l' ++ [x], by simp [h1, hxy], by rw [flatI_snoc, List.length_append]; exact hown, fun z hz => ?_⟩
  rcases List.mem_append.1 hz with hz | hz
  · exact own_grow (by decide) h2' (ownS_below (ownS_below (h3 z hz) hb) ((Below.refl _ W3).alloc (Nat.le_refl _) o)) hg
  · rw [List.mem_singleton] at hz
    subst hz
    exact own_grow (by decide) h2' (ownS_below hx ((Below.refl _ W3).alloc (Nat.le_refl _) o)) hg
theorem filter_next {f : IV → Bool} {l : List IV} {k : Nat} (h : k < l.length) : (l.take (k + 1)).filter f = (l.take k).filter f ++ (if f l[k] = true then [l[k]] else []) := by
  rw [List.take_succ_eq_append_getElem h, List.filter_append]
  congr 1
  by_cases hf : f l[k] = true
  · rw [if_pos hf, List.filter_cons_of_pos hf]; rfl
  · rw [if_neg hf, List.filter_cons_of_neg hf]; rfl

def kidP (p : ByteArray) (x : IV) : Bool := (upB x.path).toList == p.toList
theorem InstsOwn.up {w : World} {base b' : Nat} {v : Value} {l : List IV} (h : InstsOwn w base v l) (hb : b' ≤ base) : InstsOwn w b' v l := by
  obtain ⟨l', h1, h2, h3⟩ := h
  refine ⟨l', h1, ⟨h2.1, h2.2.imp id ?_⟩, fun x hx => (h3 x hx).up hb⟩
  rintro ⟨g, cap, cur, e1, e2, e3⟩
  exact ⟨g, cap, cur, e1, Nat.le_trans hb e2, e3⟩

def belP (p : ByteArray) (x : IV) : Bool := underB x.path p

end Go.Proofs.YtllhlmdhnmdihaaDoor

/- Cases: those that a function tells of (the program's). Written by tools/genyl.py. -/
namespace Go.Proofs.YtllhlmdhnmdihaaDoor
open Go Go.RowKit Go.Shelf
set_option linter.unusedVariables false
set_option linter.unusedSimpArgs false

end Go.Proofs.YtllhlmdhnmdihaaDoor

/- Cases: those right below a path, all below it (the program's). Written by tools/genym.py. -/
namespace Go.Proofs.YtllhlmdhnmdihaaDoor
open Go Go.RowKit Go.Shelf
set_option linter.unusedVariables false
set_option linter.unusedSimpArgs false

end Go.Proofs.YtllhlmdhnmdihaaDoor

/- Cases: lists of instances that a call made are read; two that are the same (dossierplain.SameInsts). Written by tools/genyn.py. -/
namespace Go.Proofs.YtllhlmdhnmdihaaDoor
open Go Go.RowKit Go.Shelf
set_option linter.unusedVariables false
set_option linter.unusedSimpArgs false

theorem flatI_get (l : List IV) (k : Nat) (hk : k < l.length) (j : Nat) (hj : j < 6) : (flatI l)[k * 6 + j]? = (l[k].cells)[j]? := by
  induction l generalizing k with
  | nil => simp at hk
  | cons x r ih =>
    have hx : x.cells.length = 6 := rfl
    cases k with
    | zero =>
      show (x.cells ++ flatI r)[0 * 6 + j]? = _
      rw [List.getElem?_append_left (by omega), Nat.zero_mul, Nat.zero_add]
      rfl
    | succ k =>
      show (x.cells ++ flatI r)[(k + 1) * 6 + j]? = _
      rw [List.getElem?_append_right (by omega), show (k + 1) * 6 + j - x.cells.length = k * 6 + j from by omega, ih k (by simpa using hk)]
      rfl
theorem rdv_of_ownS {w : World} {base : Nat} {e : TypeId} {v : Value} {xs : List Value} (h : OwnS w base e 1 v xs.length xs) : RdV w v xs := by
  rcases h.2 with ⟨rfl, h0⟩ | ⟨g, off, cap, cur, hv, hb, hg, h1, h2, h3, h4⟩
  · rw [List.eq_nil_of_length_eq_zero h0]
    exact RdV.nil w
  · refine ⟨_, cap, hv, h1, h2, by simp, fun hp => ⟨g, off, rfl, fun i hi => ?_⟩⟩
    rw [h.cell hv i xs[i] (List.getElem?_eq_getElem hi)]
theorem InstsOwn.is {w w0 : World} {base : Nat} {v : Value} {l : List IV} (h : InstsOwn w base v l) (hl : ∀ x ∈ l, IVok w0 x) : ∃ l', InstsIs w v l' ∧ l'.map IV.bare = l.map IV.bare := by
  obtain ⟨l', h1, h2, h3⟩ := h
  refine ⟨l', ⟨?_, fun x hx => ?_⟩, h1⟩
  · rcases h2.2 with ⟨rfl, h0⟩ | ⟨g, cap, cur, hv, hb, hg, e1, e2, e3, e4⟩
    · rw [h0]
      exact ⟨none, 0, rfl, by simp, by simp, by simp, by simp⟩
    · refine ⟨_, cap, hv, e1, e2, by simp, fun hp => ⟨g, 0, rfl, (Array.getElem?_eq_some_iff.1 hg).1, fun k hk j hj => ?_⟩⟩
      rw [Nat.zero_add, cell_of_row w g _ cur 51 (0, 0) hg]
      have := flatI_get l' k hk j hj
      rw [← e4, List.getElem?_take, if_pos (by omega)] at this
      unfold rowI
      rw [List.getElem?_eq_getElem hk]
      show _ = (l'[k].cells)[j]?
      rw [← this]
      simp
  · obtain ⟨y, hy, hxy⟩ : ∃ y ∈ l, y.bare = x.bare := by
      have : x.bare ∈ l.map IV.bare := by rw [← h1]; exact List.mem_map.2 ⟨x, hx, rfl⟩
      obtain ⟨y, hy, he⟩ := List.mem_map.1 this
      exact ⟨y, hy, he⟩
    have hk := hl y hy
    obtain ⟨path, item, st, bf, lv, ls, due⟩ := x
    obtain ⟨path2, item2, st2, bf2, lv2, ls2, due2⟩ := y
    simp only [IV.bare, IV.mk.injEq] at hxy
    obtain ⟨rfl, rfl, rfl, rfl, _, rfl, rfl⟩ := hxy
    refine ⟨hk.path, hk.item, hk.st, hk.bf, hk.due, ?_⟩
    have h4 := h3 _ hx
    dsimp only at h4 ⊢
    rw [show ls2.length = (icells ls2).length from by simp [icells]] at h4
    exact rdv_of_ownS h4
theorem sameI_bare {x y : IV} (h : x.bare = y.bare) : sameI x y = true := by
  obtain ⟨path, item, st, bf, lv, ls, due⟩ := x
  obtain ⟨path2, item2, st2, bf2, lv2, ls2, due2⟩ := y
  simp only [IV.bare, IV.mk.injEq] at h
  obtain ⟨rfl, rfl, rfl, rfl, _, rfl, rfl⟩ := h
  simp [sameI]

end Go.Proofs.YtllhlmdhnmdihaaDoor

/- Cases: SameInsts; a path's last part (the reference's Last). Written by tools/genyo.py. -/
namespace Go.Proofs.YtllhlmdhnmdihaaDoor
open Go Go.RowKit Go.Shelf
set_option linter.unusedVariables false
set_option linter.unusedSimpArgs false

/-- The item and the number of a path's last part. -/
def lastB (s : ByteArray) : PT := lastP (s.data.toList.drop (Lib.lastIndex s.data.toList [47] + 1).toNat)
theorem last47' (s : ByteArray) : ∃ j : Nat, Lib.lastIndex s.data.toList [47] + 1 = (j : Int) ∧ j ≤ s.size := by
  rcases lastIs_lib s.data.toList 47 with ⟨h, _⟩ | ⟨k, h, hk, _⟩
  · exact ⟨0, by rw [h]; rfl, by omega⟩
  · exact ⟨k + 1, by rw [h]; omega, by rw [size_list] at hk; omega⟩
end Go.Proofs.YtllhlmdhnmdihaaDoor
