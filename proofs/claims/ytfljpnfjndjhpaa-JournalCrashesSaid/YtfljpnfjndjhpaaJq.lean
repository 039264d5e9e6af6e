/- journal: the mathematics: frames read again, the files of a journal, crashes. -/
import Derived.Test.YtfljpnfjndjhpaaJp
namespace Go.Proofs.Ytfljpnfjndjhpaa
open Go Go.Maps
set_option linter.unusedVariables false

/-! ### frames -/
theorem headB_length (b : List UInt8) : (headB b).length = 8 := rfl
/-- The number that four bytes are. -/
def num4 (l : List UInt8) : Nat := ((((l.getD 0 0).toNat * 256 + (l.getD 1 0).toNat) * 256 + (l.getD 2 0).toNat) * 256 + (l.getD 3 0).toNat)
theorem num4_be4 (n : Nat) (h : n < 4294967296) (t : List UInt8) : num4 (be4 n ++ t) = n := by
  have e : ∀ i, (UInt8.ofNat (bt n i)).toNat = bt n i := fun i => by
    have : bt n i < 256 := Nat.mod_lt _ (by omega)
    simp
    omega
  show ((((UInt8.ofNat (bt n 0)).toNat * 256 + (UInt8.ofNat (bt n 1)).toNat) * 256 + (UInt8.ofNat (bt n 2)).toNat) * 256 + (UInt8.ofNat (bt n 3)).toNat) = n
  rw [e, e, e, e]
  simp only [bt]
  omega
/-- What is in the frame with which bytes begin. -/
def unfM (b : List UInt8) : Option (List UInt8) :=
  if b.length < 8 then none
  else if (b.drop 8).length < num4 b then none
  else if headB ((b.drop 8).take (num4 b)) = b.take 8 then some ((b.drop 8).take (num4 b)) else none
theorem unfM_frame (x t : List UInt8) (h : x.length < 4294967296) : unfM (frameB x ++ t) = some x := by
  have hl := frameB_length x
  have hn : num4 (frameB x ++ t) = x.length := by
    unfold frameB headB
    rw [List.append_assoc, List.append_assoc]
    exact num4_be4 _ h _
  have hd : (frameB x ++ t).drop 8 = x ++ t := by
    unfold frameB
    rw [List.append_assoc, List.drop_left' (headB_length x)]
  have ht : (frameB x ++ t).take 8 = headB x := by
    unfold frameB
    rw [List.append_assoc, List.take_left' (headB_length x)]
  unfold unfM
  rw [if_neg (by simp; omega), hn, hd, if_neg (by simp), List.take_left' rfl, ht, if_pos rfl]
theorem num4_take (b : List UInt8) (k : Nat) (h : 4 ≤ k) : num4 (b.take k) = num4 b := by
  have e : ∀ i, i < 4 → (b.take k).getD i 0 = b.getD i 0 := fun i hi => by
    simp only [List.getD_eq_getElem?_getD, List.getElem?_take, if_pos (show i < k by omega)]
  unfold num4
  rw [e 0 (by omega), e 1 (by omega), e 2 (by omega), e 3 (by omega)]
theorem unfM_part (x : List UInt8) (k : Nat) (h : x.length < 4294967296) (hk : k < (frameB x).length) : unfM ((frameB x).take k) = none := by
  have hl := frameB_length x
  unfold unfM
  by_cases h8 : k < 8
  · rw [if_pos (by simp; omega)]
  · have hn : num4 ((frameB x).take k) = x.length := by
      rw [num4_take _ _ (by omega)]
      have := num4_be4 x.length h (be4 (crcOf x) ++ x)
      unfold frameB headB
      rw [List.append_assoc]
      exact this
    rw [if_neg (by simp; omega), hn, if_pos (by simp; omega)]
theorem unfM_len {b x : List UInt8} (h : unfM b = some x) : 8 + x.length ≤ b.length ∧ x = (b.drop 8).take x.length := by
  unfold unfM at h
  split at h
  · cases h
  split at h
  · cases h
  split at h
  · rename_i h1 h2 _
    simp only [Option.some.injEq] at h
    subst h
    have e : ((b.drop 8).take (num4 b)).length = num4 b := by
      rw [List.length_take]
      omega
    refine ⟨by rw [e]; simp at h2; omega, by rw [e]⟩
  · cases h
/-- The bodies of the frames with which bytes begin, and their size. -/
def splF : Nat → List UInt8 → List (List UInt8) × Nat
  | 0, _ => ([], 0)
  | f + 1, b => match unfM b with
    | none => ([], 0)
    | some x => (x :: (splF f (b.drop (8 + x.length))).1, 8 + x.length + (splF f (b.drop (8 + x.length))).2)
def splM (b : List UInt8) : List (List UInt8) × Nat := splF (b.length + 1) b
theorem splF_more : ∀ (f g : Nat) (b : List UInt8), b.length < f → b.length < g → splF f b = splF g b
  | 0, _, _, h, _ => by omega
  | _, 0, _, _, h => by omega
  | f + 1, g + 1, b, h1, h2 => by
    unfold splF
    cases hu : unfM b with
    | none => rfl
    | some x =>
      have hl := (unfM_len hu).1
      simp only []
      rw [splF_more f g (b.drop (8 + x.length)) (by simp; omega) (by simp; omega)]
theorem splM_none {b : List UInt8} (h : unfM b = none) : splM b = ([], 0) := by
  unfold splM splF
  rw [h]
theorem splM_some {b x : List UInt8} (h : unfM b = some x) : splM b = (x :: (splM (b.drop (8 + x.length))).1, 8 + x.length + (splM (b.drop (8 + x.length))).2) := by
  have hl := (unfM_len h).1
  have e : ∀ c : List UInt8, c.length < b.length → splF b.length c = splM c := fun c hc => splF_more _ _ _ hc (by omega)
  rw [← e (b.drop (8 + x.length)) (by simp; omega)]
  unfold splM
  rw [splF, h]
def frs (l : List (List UInt8)) : List UInt8 := l.flatMap frameB
theorem frs_cons (x : List UInt8) (l : List (List UInt8)) : frs (x :: l) = frameB x ++ frs l := rfl
theorem frs_snoc (l : List (List UInt8)) (x : List UInt8) : frs (l ++ [x]) = frs l ++ frameB x := by simp [frs]
theorem splM_frs (p : List UInt8) (hp : unfM p = none) : ∀ (l : List (List UInt8)), (∀ x ∈ l, x.length < 4294967296) → splM (frs l ++ p) = (l, (frs l).length)
  | [], _ => by rw [show frs [] ++ p = p from rfl, splM_none hp]; rfl
  | x :: l, h => by
    have hx := unfM_frame x (frs l ++ p) (h x (by simp))
    rw [frs_cons, List.append_assoc, splM_some hx]
    have hd : (frameB x ++ (frs l ++ p)).drop (8 + x.length) = frs l ++ p := List.drop_left' (frameB_length x)
    rw [hd, splM_frs p hp l (fun y hy => h y (by simp [hy]))]
    simp [frameB_length]

/-! ### the files of a journal -/
def Fl.full (c : List UInt8) : Fl := ⟨c, c.length⟩
def one (f : Fl) : Fs := [(curN, f)]
def two (f g : Fl) : Fs := [(curN, f), (draN, g)]
theorem cur_ne : curN ≠ draN := by decide
theorem cur_bb : bytesBefore curN draN = true := by decide
theorem dra_bb : bytesBefore draN curN = false := by decide
theorem cur_bb0 : bytesBefore curN curN = false := bb_irrefl _
theorem cur_eq : (draN == curN) = false := by decide
theorem cur_eq' : (curN == draN) = false := by decide
theorem ok_cur : namok curN = true := by decide
theorem ok_dra : namok draN = true := by decide
theorem get_one (f : Fl) : getA curN (one f) = some f := by simp [getA, one]
theorem get_oneD (f : Fl) : getA draN (one f) = none := by simp [getA, one, cur_eq']
theorem get_two (f g : Fl) : getA curN (two f g) = some f := by simp [getA, two]
theorem get_twoD (f g : Fl) : getA draN (two f g) = some g := by simp [getA, two, cur_eq']
theorem put_one (f g : Fl) : putA curN g (one f) = one g := by simp [putA, one, delA, insA]
theorem put_oneD (f g : Fl) : putA draN g (one f) = two f g := by simp [putA, one, two, delA, insA, cur_eq', dra_bb]
theorem put_twoD (f g h : Fl) : putA draN h (two f g) = two f h := by simp [putA, two, delA, insA, cur_eq', dra_bb]
theorem put_two (f g h : Fl) : putA curN h (two f g) = two h g := by simp [putA, two, delA, insA, cur_eq, cur_bb]
theorem del_two (f g : Fl) : delA draN (two f g) = one f := by simp [delA, two, one, cur_eq']
theorem ren_two (f g : Fl) : putA curN g (delA draN (two f g)) = one g := by rw [del_two, put_one]
theorem tot_one (f : Fl) : total (one f) = f.data.length := by simp [total, one]
theorem tot_two (f g : Fl) : total (two f g) = f.data.length + g.data.length := by simp [total, two]
theorem fileA_one (f : Fl) : fileA curN (one f) = f := by simp [fileA, get_one]
theorem fileA_oneD (f : Fl) : fileA draN (one f) = Fl.none := by simp [fileA, get_oneD]
theorem fileA_two (f g : Fl) : fileA curN (two f g) = f := by simp [fileA, get_two]
theorem fileA_twoD (f g : Fl) : fileA draN (two f g) = g := by simp [fileA, get_twoD]
theorem crash_full (keeps : List Int) (k : Nat) (c : List UInt8) : crashF keeps k (Fl.full c) = Fl.full c := by simp [crashF, keepN, Fl.full]
theorem crash_any (keeps : List Int) (k : Nat) (f : Fl) : ∃ j, f.sy ≤ j ∧ j ≤ max f.sy f.data.length ∧ crashF keeps k f = ⟨f.data.take j, j⟩ := ⟨_, Nat.le_add_right _ _, by omega, rfl⟩

/-! ### a journal on a disk, crashes -/
/-- A disk that works, with no more room than it ever has. -/
def Fl.has (c : List UInt8) (f : Fl) : Prop := f = Fl.full c
/-- The journal's file holds the frames of l and a part of one more; a draft may be there. All is synced. -/
def Inv (l : List (List UInt8)) (s : DS) : Prop :=
  s.dead = false ∧ ∃ x k, x.length < 4294967296 ∧ k < (frameB x).length ∧
    (s.fs = one (Fl.full (frs l ++ (frameB x).take k)) ∨ ∃ d, s.fs = two (Fl.full (frs l ++ (frameB x).take k)) (Fl.full d))
theorem Inv.fuse {l : List (List UInt8)} {s : DS} (h : Inv l s) (n : Int) : Inv l { s with fuse := n } := h
theorem crash_one (keeps : List Int) (s : DS) {c : List UInt8} (h : s.fs = one (Fl.full c)) : (s.crash keeps).fs = one (Fl.full c) := by
  simp only [DS.crash, h, one, crashFs, crash_full]
theorem crash_two (keeps : List Int) (s : DS) {c : List UInt8} {g : Fl} (h : s.fs = two (Fl.full c) g) (hg : g.sy ≤ g.data.length) : ∃ d, (s.crash keeps).fs = two (Fl.full c) (Fl.full d) := by
  obtain ⟨j, h1, h2, h3⟩ := crash_any keeps 1 g
  refine ⟨g.data.take j, ?_⟩
  simp only [DS.crash, h, two, crashFs, crash_full, h3]
  rw [show Fl.full (g.data.take j) = ⟨g.data.take j, j⟩ from by simp [Fl.full]; omega]
theorem Inv.crash {l : List (List UInt8)} {s : DS} {x : List UInt8} {k : Nat} (hx : x.length < 4294967296) (hk : k < (frameB x).length) (h : s.fs = one (Fl.full (frs l ++ (frameB x).take k)) ∨ ∃ g, g.sy ≤ g.data.length ∧ s.fs = two (Fl.full (frs l ++ (frameB x).take k)) g) (keeps : List Int) : Inv l (s.crash keeps) := by
  refine ⟨rfl, x, k, hx, hk, ?_⟩
  rcases h with h | ⟨g, hg, h⟩
  · exact .inl (crash_one keeps s h)
  · exact .inr (crash_two keeps s h hg)
/-- Frames alone. -/
theorem frs_part (l : List (List UInt8)) : frs l = frs l ++ (frameB []).take 0 := by simp
theorem part_lt : (0 : Nat) < (frameB []).length := by rw [frameB_length]; omega
theorem Inv.crash0 {l : List (List UInt8)} {s : DS} (h : s.fs = one (Fl.full (frs l)) ∨ ∃ g, g.sy ≤ g.data.length ∧ s.fs = two (Fl.full (frs l)) g) (keeps : List Int) : Inv l (s.crash keeps) := by
  rw [frs_part l] at h
  exact Inv.crash (by decide) part_lt h keeps

theorem room_one {s : DS} {c b : List UInt8} (hr : s.room = 1048576) (ht : total s.fs = c.length) (hb : c.length + b.length ≤ 1048576) : ¬ (0 < b.length ∧ s.room - total s.fs < b.length) := by omega
/-- Append to the journal's own file. -/
theorem app_cur (s : DS) (c b : List UInt8) (hd : s.dead = false) (hf : s.fs = one (Fl.full c)) (hr : s.room = 1048576) (hb : c.length + b.length ≤ 1048576) :
    s.append curN b = if s.fuse = 0 then (70, s.burn) else (0, { s.burn with fs := one ⟨c ++ b, c.length⟩ }) := by
  unfold DS.append
  have h1 : s.rdy (namok curN) = 0 := by simp [DS.rdy, ok_cur, hd]
  rw [if_neg (by simp [h1]), if_neg (room_one hr (by rw [hf, tot_one]; rfl) hb)]
  split
  · rfl
  · rw [hf, fileA_one, put_one]
    rfl
theorem app_dra (s : DS) (c b : List UInt8) (hd : s.dead = false) (hf : s.fs = one (Fl.full c)) (hr : s.room = 1048576) (hb : c.length + b.length ≤ 1048576) :
    s.append draN b = if s.fuse = 0 then (70, s.burn) else (0, { s.burn with fs := two (Fl.full c) ⟨b, 0⟩ }) := by
  unfold DS.append
  have h1 : s.rdy (namok draN) = 0 := by simp [DS.rdy, ok_dra, hd]
  rw [if_neg (by simp [h1]), if_neg (room_one hr (by rw [hf, tot_one]; rfl) hb)]
  split
  · rfl
  · rw [hf, fileA_oneD, put_oneD]
    rfl
theorem app_new (s : DS) (b : List UInt8) (hd : s.dead = false) (hf : s.fs = []) (hr : s.room = 1048576) (hb : b.length ≤ 1048576) :
    s.append draN b = if s.fuse = 0 then (70, s.burn) else (0, { s.burn with fs := [(draN, ⟨b, 0⟩)] }) := by
  unfold DS.append
  have h1 : s.rdy (namok draN) = 0 := by simp [DS.rdy, ok_dra, hd]
  rw [if_neg (by simp [h1]), if_neg (by rw [hf, hr]; simp [total]; omega)]
  split
  · rfl
  · rw [hf]
    rfl
/-- A change of a file that is there. -/
theorem chg_has (s : DS) (n : List UInt8) (v : Bool) (g : Fl → Fs) (hv : v = true) (hd : s.dead = false) (hn : (getA n s.fs).isSome = true) :
    s.change n v g = if s.fuse = 0 then (70, s.burn) else (0, { s.burn with fs := g (fileA n s.fs) }) := by
  have h1 : s.fnd n v = 0 := by simp [DS.fnd, DS.rdy, hv, hd, hn]
  unfold DS.change DS.beg DS.aft
  rw [h1]
  by_cases h : s.fuse = 0 <;> simp [h]
theorem burn_fuse (s : DS) (h : s.fuse ≠ 0) : s.burn = { s with fuse := if s.fuse = -1 then -1 else s.fuse - 1 } := by
  unfold DS.burn
  rw [if_neg h]
  by_cases h1 : s.fuse = -1
  · simp [h1]
    cases s
    simp_all
  · simp [h1]
theorem burn_zero (s : DS) (h : s.fuse = 0) : s.burn = { s with dead := true } := by unfold DS.burn; rw [if_pos h]

theorem app_is (j : JS) (s t : DS) (b : List UInt8) (e : Int) (h0 : j.rdy (decide (0 < b.length) && decide (b.length ≤ 4194304)) = 0) (h1 : (if (s.append curN (frameB b)).1 = 0 then (s.append curN (frameB b)).2.sync curN else s.append curN (frameB b)) = (e, t)) :
    (j.app s b).1 = e ∧ (j.app s b).2.2 = t := by
  unfold JS.app
  simp only []
  rw [h1, if_neg (by rw [h0]; decide)]
  by_cases he : e = 0 <;> simp [he]
theorem cmp_is (j : JS) (s t t2 : DS) (b : List UInt8) (e e2 : Int) (h0 : j.rdy (decide (b.length ≤ 4194304)) = 0) (h1 : (if (s.append draN (frameB b)).1 = 0 then (s.append draN (frameB b)).2.sync draN else s.append draN (frameB b)) = (e2, t2)) (h2 : (if e2 = 0 then t2.rename draN curN else (e2, t2)) = (e, t)) :
    (j.cmp s b).1 = e ∧ (j.cmp s b).2.2 = t := by
  unfold JS.cmp
  simp only []
  rw [h1]
  simp only []
  rw [h2, if_neg (by rw [h0]; decide)]
  by_cases he : e = 0 <;> simp [he]
/-- What an append to a journal leaves, on a disk that may stop: where it says OK, where it says dead, and else. -/
theorem app_crash (l : List (List UInt8)) (s : DS) (b : List UInt8) (j : JS) (hj : j.stop = false) (hd : s.dead = false) (hf : s.fs = one (Fl.full (frs l))) (hr : s.room = 1048576) (hu : -1 ≤ s.fuse) (h0 : 0 < b.length) (hb : (frs l).length + (frameB b).length ≤ 1048576) (hb4 : b.length ≤ 4194304) (keeps : List Int) :
    ((j.app s b).1 = 0 ∧ Inv (l ++ [b]) ((j.app s b).2.2.crash keeps)) ∨ ((j.app s b).1 = 70 ∧ (Inv l ((j.app s b).2.2.crash keeps) ∨ Inv (l ++ [b]) ((j.app s b).2.2.crash keeps))) := by
  have hr0 : j.rdy (decide (0 < b.length) && decide (b.length ≤ 4194304)) = 0 := by simp [JS.rdy, h0, hb4, hj]
  have ha := app_cur s (frs l) (frameB b) hd hf hr hb
  by_cases h1 : s.fuse = 0
  · rw [if_pos h1] at ha
    obtain ⟨e1, e2⟩ := app_is j s s.burn b 70 hr0 (by rw [ha]; simp)
    rw [e1, e2]
    exact .inr ⟨rfl, .inl (Inv.crash0 (.inl (by rw [DS.burn_fs]; exact hf)) keeps)⟩
  · rw [if_neg h1] at ha
    obtain ⟨s1, hs1⟩ : ∃ s1 : DS, s1 = { s.burn with fs := one ⟨frs l ++ frameB b, (frs l).length⟩ } := ⟨_, rfl⟩
    rw [← hs1] at ha
    have hd1 : s1.dead = false := by rw [hs1]; show s.burn.dead = false; rw [DS.burn_dead s h1]; exact hd
    have hf1 : s1.fs = one ⟨frs l ++ frameB b, (frs l).length⟩ := by rw [hs1]
    have hs := chg_has s1 curN true (fun f => putA curN ⟨f.data, f.data.length⟩ s1.fs) rfl hd1 (by rw [hf1, get_one]; rfl)
    have hs' : s1.sync curN = if s1.fuse = 0 then (70, s1.burn) else (0, { s1.burn with fs := one (Fl.full (frs (l ++ [b]))) }) := by
      unfold DS.sync
      rw [hs, hf1, fileA_one, put_one, frs_snoc]
      rfl
    by_cases h2 : s1.fuse = 0
    · rw [if_pos h2] at hs'
      obtain ⟨e1, e2⟩ := app_is j s s1.burn b 70 hr0 (by rw [ha]; simp [hs'])
      rw [e1, e2]
      refine .inr ⟨rfl, ?_⟩
      obtain ⟨i, i1, i2, i3⟩ := crash_any keeps 0 ⟨frs l ++ frameB b, (frs l).length⟩
      simp only [List.length_append] at i1 i2
      have hfs : (s1.burn.crash keeps).fs = one (Fl.full (frs l ++ (frameB b).take (i - (frs l).length))) := by
        simp only [DS.crash, DS.burn_fs, hf1, one, crashFs, i3]
        rw [List.take_append, List.take_of_length_le i1]
        simp only [Fl.full, List.length_append, List.length_take]
        congr 3
        omega
      by_cases hi : i - (frs l).length < (frameB b).length
      · exact .inl ⟨rfl, b, i - (frs l).length, by omega, hi, .inl hfs⟩
      · refine .inr ⟨rfl, [], 0, by decide, part_lt, .inl ?_⟩
        rw [hfs, List.take_of_length_le (by omega), frs_snoc]
        simp
    · rw [if_neg h2] at hs'
      obtain ⟨e1, e2⟩ := app_is j s _ b 0 hr0 (by rw [ha]; simp only [if_true]; exact hs')
      rw [e1, e2]
      exact .inl ⟨rfl, Inv.crash0 (.inl rfl) keeps⟩
/-- The same of a compaction. -/
theorem cmp_crash (l : List (List UInt8)) (s : DS) (b : List UInt8) (j : JS) (hj : j.stop = false) (hd : s.dead = false) (hf : s.fs = one (Fl.full (frs l))) (hr : s.room = 1048576) (hu : -1 ≤ s.fuse) (hb : (frs l).length + (frameB b).length ≤ 1048576) (hb4 : b.length ≤ 4194304) (keeps : List Int) :
    ((j.cmp s b).1 = 0 ∧ Inv [b] ((j.cmp s b).2.2.crash keeps)) ∨ ((j.cmp s b).1 = 70 ∧ Inv l ((j.cmp s b).2.2.crash keeps)) := by
  have hr0 : j.rdy (decide (b.length ≤ 4194304)) = 0 := by simp [JS.rdy, hb4, hj]
  have ha := app_dra s (frs l) (frameB b) hd hf hr hb
  by_cases h1 : s.fuse = 0
  · rw [if_pos h1] at ha
    obtain ⟨e1, e2⟩ := cmp_is j s s.burn s.burn b 70 70 hr0 (by rw [ha]; simp) (by simp)
    rw [e1, e2]
    exact .inr ⟨rfl, Inv.crash0 (.inl (by rw [DS.burn_fs]; exact hf)) keeps⟩
  · rw [if_neg h1] at ha
    obtain ⟨s1, hs1⟩ : ∃ s1 : DS, s1 = { s.burn with fs := two (Fl.full (frs l)) ⟨frameB b, 0⟩ } := ⟨_, rfl⟩
    rw [← hs1] at ha
    have hd1 : s1.dead = false := by rw [hs1]; show s.burn.dead = false; rw [DS.burn_dead s h1]; exact hd
    have hf1 : s1.fs = two (Fl.full (frs l)) ⟨frameB b, 0⟩ := by rw [hs1]
    have hs := chg_has s1 draN true (fun f => putA draN ⟨f.data, f.data.length⟩ s1.fs) rfl hd1 (by rw [hf1, get_twoD]; rfl)
    have hs' : s1.sync draN = if s1.fuse = 0 then (70, s1.burn) else (0, { s1.burn with fs := two (Fl.full (frs l)) (Fl.full (frameB b)) }) := by
      unfold DS.sync
      rw [hs, hf1, fileA_twoD, put_twoD]
      rfl
    by_cases h2 : s1.fuse = 0
    · rw [if_pos h2] at hs'
      obtain ⟨e1, e2⟩ := cmp_is j s s1.burn s1.burn b 70 70 hr0 (by rw [ha]; simp [hs']) (by simp)
      rw [e1, e2]
      exact .inr ⟨rfl, Inv.crash0 (.inr ⟨_, Nat.zero_le _, by rw [DS.burn_fs]; exact hf1⟩) keeps⟩
    · rw [if_neg h2] at hs'
      obtain ⟨s2, hs2⟩ : ∃ s2 : DS, s2 = { s1.burn with fs := two (Fl.full (frs l)) (Fl.full (frameB b)) } := ⟨_, rfl⟩
      rw [← hs2] at hs'
      have hd2 : s2.dead = false := by rw [hs2]; show s1.burn.dead = false; rw [DS.burn_dead s1 h2]; exact hd1
      have hf2 : s2.fs = two (Fl.full (frs l)) (Fl.full (frameB b)) := by rw [hs2]
      have hn := chg_has s2 draN (namok curN) (fun f => putA curN f (delA draN s2.fs)) ok_cur hd2 (by rw [hf2, get_twoD]; rfl)
      have hn' : s2.rename draN curN = if s2.fuse = 0 then (70, s2.burn) else (0, { s2.burn with fs := one (Fl.full (frs [b])) }) := by
        unfold DS.rename
        rw [hn, hf2, fileA_twoD, ren_two]
        simp [frs]
      by_cases h3 : s2.fuse = 0
      · rw [if_pos h3] at hn'
        obtain ⟨e1, e2⟩ := cmp_is j s s2.burn s2 b 70 0 hr0 (by rw [ha]; simp only [if_true]; exact hs') (by rw [if_pos rfl]; exact hn')
        rw [e1, e2]
        exact .inr ⟨rfl, Inv.crash0 (.inr ⟨Fl.full (frameB b), Nat.le_refl _, by rw [DS.burn_fs]; exact hf2⟩) keeps⟩
      · rw [if_neg h3] at hn'
        obtain ⟨e1, e2⟩ := cmp_is j s _ s2 b 0 0 hr0 (by rw [ha]; simp only [if_true]; exact hs') (by rw [if_pos rfl]; exact hn')
        rw [e1, e2]
        exact .inl ⟨rfl, Inv.crash0 (.inl rfl) keeps⟩

/-- Open of a disk that holds a journal: the error, the frames' bodies, the disk. -/
def DS.opn (s : DS) : Int × List (List UInt8) × DS :=
  if (s.disc draN).1 ≠ 0 then ((s.disc draN).1, [], (s.disc draN).2)
  else
    let s1 := (s.disc draN).2
    if (s1.read curN).2 ≠ 0 then ((s1.read curN).2, [], s1)
    else
      let r := splM (s1.read curN).1
      if r.1 = [] then (72, [], s1)
      else if r.2 < (s1.read curN).1.length then
        let t := s1.trunc curN r.2
        if t.1 ≠ 0 then (t.1, [], t.2) else (0, r.1, t.2)
      else (0, r.1, s1)
theorem read_has (s : DS) (n : List UInt8) (hd : s.dead = false) (hn : (getA n s.fs).isSome = true) : s.read n = ((fileA n s.fs).data, 0) := by
  have h1 : s.fnd n true = 0 := by simp [DS.fnd, DS.rdy, hd, hn]
  unfold DS.read
  rw [if_pos h1]
theorem read_not (s : DS) (n : List UInt8) (hd : s.dead = false) (hn : getA n s.fs = none) : s.read n = ([], 33) := by
  have h1 : s.fnd n true = 33 := by simp [DS.fnd, DS.rdy, hd, hn]
  unfold DS.read
  rw [if_neg (by rw [h1]; decide), h1]
/-- Opened: with a draft the first change removes it. -/
theorem disc_one (s : DS) {c : List UInt8} (hd : s.dead = false) (hf : s.fs = one (Fl.full c)) : s.disc draN = (0, s) := by
  unfold DS.disc
  rw [read_not s draN hd (by rw [hf]; exact get_oneD _)]
  simp
theorem disc_two (s : DS) {c d : List UInt8} (hd : s.dead = false) (hf : s.fs = two (Fl.full c) (Fl.full d)) : s.disc draN = if s.fuse = 0 then (70, s.burn) else (0, { s.burn with fs := one (Fl.full c) }) := by
  unfold DS.disc
  rw [read_has s draN hd (by rw [hf, get_twoD]; rfl)]
  simp only []
  rw [if_neg (by decide), if_neg (by decide)]
  unfold DS.remove
  rw [chg_has s draN true _ rfl hd (by rw [hf, get_twoD]; rfl), hf, del_two]
theorem opn_one (l : List (List UInt8)) (s : DS) (x : List UInt8) (k : Nat) (hl : l ≠ []) (hll : ∀ y ∈ l, y.length < 4294967296) (hx : x.length < 4294967296) (hk : k < (frameB x).length) (hd : s.dead = false) (hf : s.fs = one (Fl.full (frs l ++ (frameB x).take k))) :
    s.opn = if k = 0 then (0, l, s) else if s.fuse = 0 then (70, [], s.burn) else (0, l, { s.burn with fs := one (Fl.full (frs l)) }) := by
  have hsp := splM_frs ((frameB x).take k) (unfM_part x k hx hk) l hll
  have hrd : s.read curN = (frs l ++ (frameB x).take k, 0) := by rw [read_has s curN hd (by rw [hf, get_one]; rfl), hf, fileA_one]; rfl
  unfold DS.opn
  rw [disc_one s hd hf]
  simp only [hrd, hsp]
  rw [if_neg (by decide), if_neg (by decide), if_neg hl]
  by_cases h0 : k = 0
  · rw [if_pos h0, if_neg (by subst h0; simp)]
  · rw [if_neg h0, if_pos (by simp only [List.length_append, List.length_take]; omega)]
    have ht : s.trunc curN ((frs l).length : Int) = if s.fuse = 0 then (70, s.burn) else (0, { s.burn with fs := one (Fl.full (frs l)) }) := by
      unfold DS.trunc
      rw [chg_has s curN _ _ (decide_eq_true (Int.natCast_nonneg _)) hd (by rw [hf, get_one]; rfl), hf, fileA_one, put_one]
      congr 4
      simp only [Fl.cut, Fl.full, Int.toNat_natCast, List.length_append, List.length_take]
      rw [show min (frs l).length ((frs l).length + min k (frameB x).length) = (frs l).length from by omega]
      rw [show min (frs l).length ((frs l).length + min k (frameB x).length) = (frs l).length from by omega]
      rw [List.take_left' rfl]
    rw [ht]
    by_cases h1 : s.fuse = 0 <;> simp [h1]
/-- Whatever stops it, opening leaves a journal of the same; where nothing stops it, it says so. -/
theorem opn_inv (l : List (List UInt8)) (s : DS) (hl : l ≠ []) (hll : ∀ y ∈ l, y.length < 4294967296) (h : Inv l s) :
    (∀ keeps, Inv l (s.opn.2.2.crash keeps)) ∧ (s.fuse = -1 → s.opn.1 = 0 ∧ s.opn.2.1 = l) := by
  obtain ⟨hd, x, k, hx, hk, hf⟩ := h
  have one' : ∀ s : DS, s.dead = false → s.fs = one (Fl.full (frs l ++ (frameB x).take k)) → (∀ keeps, Inv l (s.opn.2.2.crash keeps)) ∧ (s.fuse = -1 → s.opn.1 = 0 ∧ s.opn.2.1 = l) := by
    intro s hd hf
    rw [opn_one l s x k hl hll hx hk hd hf]
    by_cases h0 : k = 0
    · rw [if_pos h0]
      exact ⟨fun keeps => Inv.crash hx hk (.inl hf) keeps, fun _ => ⟨rfl, rfl⟩⟩
    · rw [if_neg h0]
      by_cases h1 : s.fuse = 0
      · rw [if_pos h1]
        exact ⟨fun keeps => Inv.crash hx hk (.inl (by show s.burn.fs = _; rw [DS.burn_fs]; exact hf)) keeps, fun h => by omega⟩
      · rw [if_neg h1]
        exact ⟨fun keeps => Inv.crash0 (.inl rfl) keeps, fun _ => ⟨rfl, rfl⟩⟩
  rcases hf with hf | ⟨d, hf⟩
  · exact one' s hd hf
  · have hdc := disc_two s hd hf
    by_cases h1 : s.fuse = 0
    · rw [if_pos h1] at hdc
      have ho : s.opn = (70, [], s.burn) := by unfold DS.opn; rw [hdc]; simp
      rw [ho]
      exact ⟨fun keeps => Inv.crash hx hk (.inr ⟨_, Nat.le_refl _, by show s.burn.fs = _; rw [DS.burn_fs]; exact hf⟩) keeps, fun h => by omega⟩
    · rw [if_neg h1] at hdc
      obtain ⟨s1, hs1⟩ : ∃ s1 : DS, s1 = { s.burn with fs := one (Fl.full (frs l ++ (frameB x).take k)) } := ⟨_, rfl⟩
      rw [← hs1] at hdc
      have hd1 : s1.dead = false := by rw [hs1]; show s.burn.dead = false; rw [DS.burn_dead s h1]; exact hd
      have hf1 : s1.fs = one (Fl.full (frs l ++ (frameB x).take k)) := by rw [hs1]
      have ho : s.opn = s1.opn := by
        conv => lhs; unfold DS.opn
        conv => rhs; unfold DS.opn
        rw [hdc, disc_one s1 hd1 hf1]
      rw [ho]
      refine ⟨(one' s1 hd1 hf1).1, fun hu => (one' s1 hd1 hf1).2 ?_⟩
      rw [hs1]
      show s.burn.fuse = -1
      rw [burn_fuse s h1, hu]
      rfl
end Go.Proofs.Ytfljpnfjndjhpaa
