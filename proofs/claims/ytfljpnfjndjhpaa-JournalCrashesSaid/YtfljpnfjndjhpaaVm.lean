/- The plain side of vdisk: files by names in rising order, and what the calls of a disk do to them; no program. -/
import GoSem.ClaimWide
import GoSem.ClaimMapViews
import Derived.Sort.KeysCollected
namespace Go.Proofs.Ytfljpnfjndjhpaa
open Go.Maps
set_option linter.unusedVariables false

/-! ### lists by rising names -/
section
variable {α β : Type}

def getA (n : List UInt8) (l : List (List UInt8 × β)) : Option β := (l.find? fun p => p.1 == n).map (·.2)
def delA (n : List UInt8) (l : List (List UInt8 × β)) : List (List UInt8 × β) := l.filter fun p => !(p.1 == n)
def insA (x : List UInt8 × β) : List (List UInt8 × β) → List (List UInt8 × β)
  | [] => [x]
  | y :: r => if bytesBefore x.1 y.1 then x :: y :: r else y :: insA x r
def putA (n : List UInt8) (b : β) (l : List (List UInt8 × β)) : List (List UInt8 × β) := insA (n, b) (delA n l)
def mapA (f : β → α) (l : List (List UInt8 × β)) : List (List UInt8 × α) := l.map fun p => (p.1, f p.2)
/-- Rising. -/
def Ris (l : List (List UInt8 × β)) : Prop := l.Pairwise fun p q => bytesBefore p.1 q.1 = true

theorem bb_irrefl : ∀ a : List UInt8, bytesBefore a a = false
  | [] => rfl
  | x :: r => by simp [bytesBefore, bb_irrefl r]
theorem bb_trans : ∀ {a b c : List UInt8}, bytesBefore a b = true → bytesBefore b c = true → bytesBefore a c = true
  | [], [], _, h, _ => by simp [bytesBefore] at h
  | [], _ :: _, [], _, h => by simp [bytesBefore] at h
  | [], _ :: _, _ :: _, _, _ => by simp [bytesBefore]
  | _ :: _, [], _, h, _ => by simp [bytesBefore] at h
  | _ :: _, _ :: _, [], _, h => by simp [bytesBefore] at h
  | x :: a, y :: b, z :: c, h, k => by
    simp only [bytesBefore, Bool.or_eq_true, decide_eq_true_eq, Bool.and_eq_true, beq_iff_eq] at h k ⊢
    rcases h with h | ⟨rfl, h⟩ <;> rcases k with k | ⟨rfl, k⟩
    · exact .inl (UInt8.lt_trans h k)
    · exact .inl h
    · exact .inl k
    · exact .inr ⟨rfl, bb_trans h k⟩
theorem bb_total : ∀ (a b : List UInt8), bytesBefore a b = true ∨ a = b ∨ bytesBefore b a = true
  | [], [] => .inr (.inl rfl)
  | [], _ :: _ => .inl rfl
  | _ :: _, [] => .inr (.inr rfl)
  | x :: a, y :: b => by
    simp only [bytesBefore, Bool.or_eq_true, decide_eq_true_eq, Bool.and_eq_true, beq_iff_eq, List.cons.injEq]
    rcases bb_total a b with h | rfl | h <;> rcases Nat.lt_trichotomy x.toNat y.toNat with hx | hx | hx
    all_goals first
      | exact .inl (.inl (UInt8.lt_iff_toNat_lt.2 hx))
      | exact .inr (.inr (.inl (UInt8.lt_iff_toNat_lt.2 hx)))
      | (obtain rfl := UInt8.toNat_inj.1 hx; simp [h])
      | (obtain rfl := UInt8.toNat_inj.1 hx; simp)
theorem bb_asymm {a b : List UInt8} (h : bytesBefore a b = true) : bytesBefore b a = false := by
  cases k : bytesBefore b a
  · rfl
  · exact absurd (bb_trans h k) (by simp [bb_irrefl])
theorem bb_ne {a b : List UInt8} (h : bytesBefore a b = true) : a ≠ b := by rintro rfl; simp [bb_irrefl] at h

theorem bb_lt : ∀ {a b : List UInt8}, bytesBefore a b = true ↔ a < b
  | [], [] => by simp [bytesBefore]
  | [], _ :: _ => by simp [bytesBefore]
  | _ :: _, [] => by simp [bytesBefore]
  | x :: a, y :: b => by simp [bytesBefore, List.cons_lt_cons_iff, bb_lt (a := a) (b := b)]

theorem mem_insA {x y : List UInt8 × β} {l : List (List UInt8 × β)} : y ∈ insA x l ↔ y = x ∨ y ∈ l := by
  induction l with
  | nil => simp [insA]
  | cons z r ih =>
    unfold insA
    split
    · simp
    · simp [ih, or_left_comm]
theorem mem_delA {n : List UInt8} {y : List UInt8 × β} {l : List (List UInt8 × β)} : y ∈ delA n l ↔ y ∈ l ∧ y.1 ≠ n := by simp [delA]
theorem mem_putA {n : List UInt8} {b : β} {y : List UInt8 × β} {l : List (List UInt8 × β)} : y ∈ putA n b l ↔ y = (n, b) ∨ (y ∈ l ∧ y.1 ≠ n) := by simp [putA, mem_insA, mem_delA]
theorem perm_insA (x : List UInt8 × β) (l : List (List UInt8 × β)) : (insA x l).Perm (x :: l) := by
  induction l with
  | nil => exact .refl _
  | cons z r ih =>
    unfold insA
    split
    · exact .refl _
    · exact (ih.cons z).trans (.swap x z r)
theorem perm_putA (n : List UInt8) (b : β) (l : List (List UInt8 × β)) : (putA n b l).Perm ((n, b) :: delA n l) := perm_insA _ _
theorem length_delA (n : List UInt8) (l : List (List UInt8 × β)) : (delA n l).length ≤ l.length := List.length_filter_le _ _
theorem length_putA (n : List UInt8) (b : β) (l : List (List UInt8 × β)) : (putA n b l).length ≤ l.length + 1 := by
  have := (perm_putA n b l).length_eq
  have := length_delA n l
  simp at *
  omega

theorem ris_delA {n : List UInt8} {l : List (List UInt8 × β)} (h : Ris l) : Ris (delA n l) := List.Pairwise.filter _ h
theorem ris_insA {x : List UInt8 × β} {l : List (List UInt8 × β)} (h : Ris l) (hx : ∀ y ∈ l, y.1 ≠ x.1) : Ris (insA x l) := by
  unfold Ris at h ⊢
  induction l with
  | nil => simp [insA]
  | cons z r ih =>
    obtain ⟨h1, h2⟩ := List.pairwise_cons.1 h
    unfold insA
    split
    · rename_i hb
      refine List.pairwise_cons.2 ⟨fun q hq => ?_, h⟩
      rcases List.mem_cons.1 hq with rfl | hq
      · exact hb
      · exact bb_trans hb (h1 q hq)
    · rename_i hb
      refine List.pairwise_cons.2 ⟨fun q hq => ?_, ih h2 fun y hy => hx y (by simp [hy])⟩
      rcases mem_insA.1 hq with e | hq
      · rw [e]
        rcases bb_total x.1 z.1 with h' | h' | h'
        · exact absurd h' hb
        · exact absurd h'.symm (hx z (by simp))
        · exact h'
      · exact h1 q hq
theorem ris_putA {n : List UInt8} {b : β} {l : List (List UInt8 × β)} (h : Ris l) : Ris (putA n b l) :=
  ris_insA (x := (n, b)) (ris_delA h) fun y hy => (mem_delA.1 hy).2

theorem ris_names {l : List (List UInt8 × β)} : Ris l ↔ (l.map (·.1)).Pairwise (fun a b => bytesBefore a b = true) := by simp [Ris, List.pairwise_map]

theorem getA_mem {n : List UInt8} {b : β} {l : List (List UInt8 × β)} (h : getA n l = some b) : (n, b) ∈ l := by
  simp only [getA, Option.map_eq_some_iff] at h
  obtain ⟨p, hp, rfl⟩ := h
  have h1 := List.mem_of_find?_eq_some hp
  have h2 := List.find?_some hp
  simp only [beq_iff_eq] at h2
  subst h2
  exact h1
theorem getA_none {n : List UInt8} {l : List (List UInt8 × β)} (h : getA n l = none) : ∀ p ∈ l, p.1 ≠ n := by
  simpa [getA] using h
theorem delA_none {n : List UInt8} {l : List (List UInt8 × β)} (h : getA n l = none) : delA n l = l :=
  List.filter_eq_self.2 fun p hp => by simpa using getA_none h p hp
theorem ris_inj {l : List (List UInt8 × β)} (h : Ris l) {n : List UInt8} {b c : β} (hb : (n, b) ∈ l) (hc : (n, c) ∈ l) : b = c := by
  induction l with
  | nil => cases hb
  | cons z r ih =>
    obtain ⟨h1, h2⟩ := List.pairwise_cons.1 h
    rcases List.mem_cons.1 hb with e | kb <;> rcases List.mem_cons.1 hc with e' | kc
    · rw [← e] at e'; simpa using e'.symm
    · exact absurd (h1 _ kc) (by simp [← e, bb_irrefl])
    · exact absurd (h1 _ kb) (by simp [← e', bb_irrefl])
    · exact ih h2 kb kc
theorem getA_of_mem {l : List (List UInt8 × β)} (h : Ris l) {n : List UInt8} {b : β} (hb : (n, b) ∈ l) : getA n l = some b := by
  cases hg : getA n l with
  | none => exact absurd rfl (getA_none hg _ hb)
  | some c => rw [ris_inj h hb (getA_mem hg)]
theorem getA_insA_same {n : List UInt8} {b : β} {l : List (List UInt8 × β)} (hx : ∀ y ∈ l, y.1 ≠ n) : getA n (insA (n, b) l) = some b := by
  induction l with
  | nil => simp [getA, insA]
  | cons z r ih =>
    unfold insA
    have hz := hx z (by simp)
    split
    · simp [getA]
    · have := ih fun y hy => hx y (by simp [hy])
      simpa [getA, hz] using this
theorem getA_putA_same (n : List UInt8) (b : β) (l : List (List UInt8 × β)) : getA n (putA n b l) = some b :=
  getA_insA_same fun y hy => (mem_delA.1 hy).2
theorem getA_delA_same (n : List UInt8) (l : List (List UInt8 × β)) : getA n (delA n l) = none := by
  simp [getA, delA]
theorem getA_putA_other {n m : List UInt8} (b : β) {l : List (List UInt8 × β)} (h : Ris l) (hne : m ≠ n) : getA m (putA n b l) = getA m l := by
  cases hg : getA m l with
  | none =>
    cases hp : getA m (putA n b l) with
    | none => rfl
    | some c =>
      rcases mem_putA.1 (getA_mem hp) with e | ⟨e, _⟩
      · simp at e; exact absurd e.1 hne
      · exact absurd rfl (getA_none hg _ e)
  | some c => exact getA_of_mem (ris_putA h) (mem_putA.2 (.inr ⟨getA_mem hg, hne⟩))

theorem mapA_getA (f : β → α) (n : List UInt8) (l : List (List UInt8 × β)) : getA n (mapA f l) = (getA n l).map f := by
  induction l with
  | nil => rfl
  | cons z r ih =>
    by_cases h : z.1 = n
    · simp [getA, mapA, h]
    · simpa [getA, mapA, h] using ih
theorem mapA_delA (f : β → α) (n : List UInt8) (l : List (List UInt8 × β)) : mapA f (delA n l) = delA n (mapA f l) := by
  simp [delA, mapA, List.filter_map, Function.comp_def]
theorem mapA_insA (f : β → α) (x : List UInt8 × β) (l : List (List UInt8 × β)) : mapA f (insA x l) = insA (x.1, f x.2) (mapA f l) := by
  induction l with
  | nil => rfl
  | cons z r ih =>
    simp only [mapA, List.map_cons, insA] at ih ⊢
    split
    · simp
    · simp [ih]
theorem mapA_putA (f : β → α) (n : List UInt8) (b : β) (l : List (List UInt8 × β)) : mapA f (putA n b l) = putA n (f b) (mapA f l) := by
  simp [putA, mapA_insA, mapA_delA]
theorem mapA_ris (f : β → α) (l : List (List UInt8 × β)) : Ris (mapA f l) ↔ Ris l := by simp [Ris, mapA, List.pairwise_map]
theorem mapA_length (f : β → α) (l : List (List UInt8 × β)) : (mapA f l).length = l.length := by simp [mapA]

end

/-! ### files -/

/-- A file: its bytes, and how many of them are synced. -/
structure Fl where
  data : List UInt8
  sy : Nat

abbrev Fs := List (List UInt8 × Fl)

def total (l : Fs) : Nat := (l.map fun p => p.2.data.length).sum

theorem total_perm {l l' : Fs} (h : l.Perm l') : total l = total l' := (h.map _).sum_nat
theorem total_append (l l' : Fs) : total (l ++ l') = total l + total l' := by simp [total]
theorem total_del (n : List UInt8) (l : Fs) (h : Ris l) : total (delA n l) + ((getA n l).map (·.data.length)).getD 0 = total l := by
  induction l with
  | nil => rfl
  | cons z r ih =>
    obtain ⟨h1, h2⟩ := List.pairwise_cons.1 h
    by_cases hz : z.1 = n
    · have hr : getA n r = none := by
        cases hg : getA n r with
        | none => rfl
        | some c => exact absurd (h1 _ (getA_mem hg)) (by simp [hz, bb_irrefl])
      have hd := delA_none hr
      have e1 : delA n (z :: r) = r := by rw [← hd]; simp [delA, hz]
      have e2 : getA n (z :: r) = some z.2 := by simp [getA, hz]
      rw [e1, e2]
      simp [total]
      omega
    · have e1 : delA n (z :: r) = z :: delA n r := by simp [delA, hz]
      have e2 : getA n (z :: r) = getA n r := by simp [getA, hz]
      rw [e1, e2]
      have := ih h2
      simp [total] at this ⊢
      omega
theorem total_put (n : List UInt8) (f : Fl) (l : Fs) (h : Ris l) : total (putA n f l) + ((getA n l).map (·.data.length)).getD 0 = total l + f.data.length := by
  have := total_del n l h
  rw [total_perm (perm_putA n f l)]
  simp [total] at this ⊢
  omega
theorem total_mem {n : List UInt8} {f : Fl} {l : Fs} (h : (n, f) ∈ l) : f.data.length ≤ total l := by
  induction l with
  | nil => cases h
  | cons z r ih =>
    rcases List.mem_cons.1 h with rfl | h
    · simp [total]
    · have := ih h
      simp [total] at this ⊢
      omega

/-- A disk. -/
structure DS where
  room : Int
  fuse : Int
  dead : Bool
  fs : Fs

/-- What every disk keeps. -/
structure DS.Ok (s : DS) : Prop where
  room0 : 0 ≤ s.room
  room1 : s.room ≤ 4194304
  fuse0 : -1 ≤ s.fuse
  fuse1 : s.fuse ≤ 9223372036854775807
  ris : Ris s.fs
  tot : total s.fs ≤ 4194304
  sy : ∀ p ∈ s.fs, p.2.sy ≤ p.2.data.length
  nm : ∀ p ∈ s.fs, p.1.length ≤ 64

def DS.burn (s : DS) : DS := if s.fuse = 0 then { s with dead := true } else if s.fuse = -1 then s else { s with fuse := s.fuse - 1 }
def namok (n : List UInt8) : Bool := decide (1 ≤ n.length) && decide (n.length ≤ 64)
/-- The errors that do not depend on the files. -/
def DS.rdy (s : DS) (valid : Bool) : Int := if valid then if s.dead then 70 else 0 else 1
/-- The errors of a change of a file that is there. -/
def DS.fnd (s : DS) (n : List UInt8) (valid : Bool) : Int := if s.rdy valid = 0 then if (getA n s.fs).isSome then 0 else 33 else s.rdy valid
/-- The error of a change, and the disk behind what the change does if it may: at fuse 0 it stops. -/
def DS.beg (s : DS) (n : List UInt8) (valid : Bool) : Int := if s.fnd n valid = 0 then if s.fuse = 0 then 70 else 0 else s.fnd n valid
def DS.aft (s : DS) (n : List UInt8) (valid : Bool) : DS := if s.fnd n valid = 0 then s.burn else s

def Fl.none : Fl := ⟨[], 0⟩
def Fl.cut (f : Fl) (n : Nat) : Fl := ⟨f.data.take n, min n f.sy⟩
def fileA (n : List UInt8) (l : Fs) : Fl := (getA n l).getD Fl.none

def DS.append (s : DS) (n b : List UInt8) : Int × DS :=
  if s.rdy (namok n) ≠ 0 then (s.rdy (namok n), s)
  else if 0 < b.length ∧ s.room - total s.fs < b.length then (71, s)
  else if s.fuse = 0 then (70, s.burn)
  else (0, { s.burn with fs := putA n ⟨(fileA n s.fs).data ++ b, (fileA n s.fs).sy⟩ s.fs })
def DS.change (s : DS) (n : List UInt8) (valid : Bool) (g : Fl → Fs) : Int × DS :=
  if s.beg n valid = 0 then (0, { s.burn with fs := g (fileA n s.fs) }) else (s.beg n valid, s.aft n valid)
def DS.sync (s : DS) (n : List UInt8) : Int × DS := s.change n true fun f => putA n ⟨f.data, f.data.length⟩ s.fs
def DS.rename (s : DS) (n m : List UInt8) : Int × DS := s.change n (namok m) fun f => putA m f (delA n s.fs)
def DS.trunc (s : DS) (n : List UInt8) (k : Int) : Int × DS := s.change n (decide (0 ≤ k)) fun f => putA n (f.cut (min k.toNat f.data.length)) s.fs
def DS.remove (s : DS) (n : List UInt8) : Int × DS := s.change n true fun _ => delA n s.fs
def DS.setFuse (s : DS) (n : Int) : Int × DS := if n < 0 then (1, s) else (0, { s with fuse := n })
def DS.setRoom (s : DS) (n : Int) : Int × DS := if 0 ≤ n ∧ n ≤ 4194304 then (0, { s with room := n }) else (1, s)
/-- How many of a file's bytes stay. -/
def keepN (keeps : List Int) (k : Nat) (f : Fl) : Nat := f.sy + min (keeps.getD k 0).toNat (f.data.length - f.sy)
def crashF (keeps : List Int) (k : Nat) (f : Fl) : Fl := ⟨f.data.take (keepN keeps k f), keepN keeps k f⟩
def crashFs (keeps : List Int) : Nat → Fs → Fs
  | _, [] => []
  | k, p :: r => (p.1, crashF keeps k p.2) :: crashFs keeps (k + 1) r
def DS.crash (s : DS) (keeps : List Int) : DS := { s with fs := crashFs keeps 0 s.fs, dead := false, fuse := -1 }
def DS.read (s : DS) (n : List UInt8) : List UInt8 × Int := if s.fnd n true = 0 then ((fileA n s.fs).data, 0) else ([], s.fnd n true)

theorem DS.Ok.burn {s : DS} (h : s.Ok) : s.burn.Ok := by
  unfold DS.burn
  split
  · exact ⟨h.room0, h.room1, h.fuse0, h.fuse1, h.ris, h.tot, h.sy, h.nm⟩
  · split
    · exact h
    · have := h.fuse0; have := h.fuse1
      exact ⟨h.room0, h.room1, by simp; omega, by simp; omega, h.ris, h.tot, h.sy, h.nm⟩
theorem DS.burn_fs (s : DS) : s.burn.fs = s.fs := by
  unfold DS.burn
  split
  · rfl
  · split <;> rfl
theorem DS.burn_room (s : DS) : s.burn.room = s.room := by
  unfold DS.burn
  split
  · rfl
  · split <;> rfl
theorem DS.burn_dead (s : DS) (h : s.fuse ≠ 0) : s.burn.dead = s.dead := by unfold DS.burn; rw [if_neg h]; split <;> rfl

theorem DS.Ok.files {s : DS} (h : s.Ok) {l : Fs} (h1 : Ris l) (h2 : total l ≤ 4194304) (h3 : ∀ p ∈ l, p.2.sy ≤ p.2.data.length) (h4 : ∀ p ∈ l, p.1.length ≤ 64) : ({ s with fs := l } : DS).Ok :=
  ⟨h.room0, h.room1, h.fuse0, h.fuse1, h1, h2, h3, h4⟩

theorem fileA_mem {n : List UInt8} {l : Fs} (h : (getA n l).isSome = true) : (n, fileA n l) ∈ l := by
  obtain ⟨f, hf⟩ := Option.isSome_iff_exists.1 h
  have := getA_mem hf
  simpa [fileA, hf] using this
theorem fileA_len (n : List UInt8) (l : Fs) : ((getA n l).map (·.data.length)).getD 0 = (fileA n l).data.length := by
  unfold fileA
  cases getA n l <;> rfl
theorem fileA_sy {n : List UInt8} {l : Fs} (h : ∀ p ∈ l, p.2.sy ≤ p.2.data.length) : (fileA n l).sy ≤ (fileA n l).data.length := by
  cases hg : getA n l with
  | none => simp [fileA, hg, Fl.none]
  | some f => have := h _ (getA_mem hg); simpa [fileA, hg] using this
theorem fileA_tot (n : List UInt8) {l : Fs} (h : Ris l) : (fileA n l).data.length ≤ total l := by
  have := total_del n l h
  rw [fileA_len] at this
  omega
theorem put_sy {n : List UInt8} {f : Fl} {l : Fs} (h : ∀ p ∈ l, p.2.sy ≤ p.2.data.length) (hf : f.sy ≤ f.data.length) : ∀ p ∈ putA n f l, p.2.sy ≤ p.2.data.length := by
  intro p hp
  rcases mem_putA.1 hp with rfl | ⟨hp, _⟩
  · exact hf
  · exact h p hp
theorem put_nm {n : List UInt8} {f : Fl} {l : Fs} (h : ∀ p ∈ l, p.1.length ≤ 64) (hf : n.length ≤ 64) : ∀ p ∈ putA n f l, p.1.length ≤ 64 := by
  intro p hp
  rcases mem_putA.1 hp with rfl | ⟨hp, _⟩
  · exact hf
  · exact h p hp
theorem namok_le {n : List UInt8} (h : namok n = true) : n.length ≤ 64 := by simp [namok] at h; exact h.2

theorem DS.rdy_ok {s : DS} {v : Bool} (h : s.rdy v = 0) : v = true ∧ s.dead = false := by
  unfold DS.rdy at h
  split at h
  · rename_i hv
    split at h
    · cases h
    · rename_i hd
      exact ⟨hv, by simpa using hd⟩
  · cases h
theorem DS.fnd_ok {s : DS} {n : List UInt8} {v : Bool} (h : s.fnd n v = 0) : s.rdy v = 0 ∧ (getA n s.fs).isSome = true := by
  unfold DS.fnd at h
  split at h
  · rename_i hv
    split at h
    · rename_i hd
      exact ⟨hv, hd⟩
    · cases h
  · rename_i hv
    exact absurd h hv
theorem DS.beg_ok {s : DS} {n : List UInt8} {v : Bool} (h : s.beg n v = 0) : s.fnd n v = 0 ∧ s.fuse ≠ 0 := by
  unfold DS.beg at h
  split at h
  · rename_i hv
    split at h
    · cases h
    · rename_i hd
      exact ⟨hv, hd⟩
  · rename_i hv
    exact absurd h hv

theorem DS.Ok.append {s : DS} (h : s.Ok) (n b : List UInt8) : (s.append n b).2.Ok := by
  unfold DS.append
  split
  · exact h
  · rename_i h1
    split
    · exact h
    · rename_i h2
      split
      · exact h.burn
      · rename_i h3
        have hn := (DS.rdy_ok (by simpa using h1)).1
        have ht := total_put n ⟨(fileA n s.fs).data ++ b, (fileA n s.fs).sy⟩ s.fs h.ris
        rw [fileA_len] at ht
        simp only [List.length_append] at ht
        have h4 := h.room1
        have h5 := h.tot
        have hs := fileA_sy (n := n) h.sy
        refine DS.Ok.files (s := s.burn) h.burn (ris_putA h.ris) (by omega) (put_sy h.sy (by simp; omega)) (put_nm h.nm (namok_le hn))
theorem DS.Ok.change {s : DS} (h : s.Ok) (n : List UInt8) (v : Bool) (g : Fl → Fs) (hg : s.beg n v = 0 → Ris (g (fileA n s.fs)) ∧ total (g (fileA n s.fs)) ≤ 4194304 ∧ (∀ p ∈ g (fileA n s.fs), p.2.sy ≤ p.2.data.length) ∧ ∀ p ∈ g (fileA n s.fs), p.1.length ≤ 64) : (s.change n v g).2.Ok := by
  unfold DS.change
  split
  · rename_i hb
    obtain ⟨h1, h2, h3, h4⟩ := hg hb
    exact DS.Ok.files (s := s.burn) h.burn h1 h2 h3 h4
  · unfold DS.aft
    split
    · exact h.burn
    · exact h
theorem nm_of {s : DS} (h : s.Ok) {n : List UInt8} {v : Bool} (hb : s.beg n v = 0) : n.length ≤ 64 := h.nm _ (fileA_mem (DS.fnd_ok (DS.beg_ok hb).1).2)
theorem DS.Ok.sync {s : DS} (h : s.Ok) (n : List UInt8) : (s.sync n).2.Ok := by
  refine h.change _ _ _ fun hb => ⟨ris_putA h.ris, ?_, put_sy h.sy (Nat.le_refl _), put_nm h.nm (nm_of h hb)⟩
  have ht := total_put n ⟨(fileA n s.fs).data, (fileA n s.fs).data.length⟩ s.fs h.ris
  rw [fileA_len] at ht
  have := h.tot
  simp only at ht
  omega
theorem DS.Ok.remove {s : DS} (h : s.Ok) (n : List UInt8) : (s.remove n).2.Ok := by
  refine h.change _ _ _ fun hb => ⟨ris_delA h.ris, ?_, fun p hp => h.sy p (mem_delA.1 hp).1, fun p hp => h.nm p (mem_delA.1 hp).1⟩
  have ht := total_del n s.fs h.ris
  have := h.tot
  omega
theorem DS.Ok.rename {s : DS} (h : s.Ok) (n m : List UInt8) : (s.rename n m).2.Ok := by
  refine h.change _ _ _ fun hb => ⟨ris_putA (ris_delA h.ris), ?_, put_sy (fun p hp => h.sy p (mem_delA.1 hp).1) (fileA_sy h.sy), put_nm (fun p hp => h.nm p (mem_delA.1 hp).1) ?_⟩
  · have h1 := total_put m (fileA n s.fs) (delA n s.fs) (ris_delA h.ris)
    have h2 := total_del n s.fs h.ris
    rw [fileA_len] at h1 h2
    have := h.tot
    omega
  · have := DS.rdy_ok (DS.fnd_ok (DS.beg_ok hb).1).1
    exact namok_le this.1
theorem DS.Ok.trunc {s : DS} (h : s.Ok) (n : List UInt8) (k : Int) : (s.trunc n k).2.Ok := by
  refine h.change _ _ _ fun hb => ⟨ris_putA h.ris, ?_, put_sy h.sy ?_, put_nm h.nm (nm_of h hb)⟩
  · have ht := total_put n ((fileA n s.fs).cut (min k.toNat (fileA n s.fs).data.length)) s.fs h.ris
    rw [fileA_len] at ht
    have := h.tot
    simp only [Fl.cut, List.length_take] at ht
    simp only [Fl.cut]
    omega
  · simp only [Fl.cut, List.length_take]
    omega
theorem crash_names (keeps : List Int) : ∀ (l : Fs) (k : Nat), (crashFs keeps k l).map (·.1) = l.map (·.1)
  | [], _ => rfl
  | p :: r, k => by simp [crashFs, crash_names keeps r]
theorem keepN_le (keeps : List Int) (k : Nat) (f : Fl) (h : f.sy ≤ f.data.length) : keepN keeps k f ≤ f.data.length := by unfold keepN; omega
theorem crash_total (keeps : List Int) : ∀ (l : Fs) (k : Nat), total (crashFs keeps k l) ≤ total l
  | [], _ => Nat.le_refl _
  | p :: r, k => by
    have := crash_total keeps r (k + 1)
    simp only [total, crashFs, List.map_cons, List.sum_cons, crashF, List.length_take] at this ⊢
    omega
theorem crash_sy (keeps : List Int) : ∀ (l : Fs) (k : Nat), (∀ p ∈ l, p.2.sy ≤ p.2.data.length) → ∀ p ∈ crashFs keeps k l, p.2.sy = p.2.data.length
  | [], _, _ => by simp [crashFs]
  | p :: r, k, h => by
    intro q hq
    rcases List.mem_cons.1 hq with rfl | hq
    · have := keepN_le keeps k p.2 (h p (by simp))
      simp only [crashF, List.length_take]
      omega
    · exact crash_sy keeps r (k + 1) (fun x hx => h x (by simp [hx])) q hq
theorem DS.Ok.crash {s : DS} (h : s.Ok) (keeps : List Int) : (s.crash keeps).Ok := by
  refine ⟨h.room0, h.room1, by simp [DS.crash], by simp [DS.crash], ?_, Nat.le_trans (crash_total keeps s.fs 0) h.tot, fun p hp => Nat.le_of_eq (crash_sy keeps s.fs 0 h.sy p hp), ?_⟩
  · rw [ris_names, show (s.crash keeps).fs.map (·.1) = s.fs.map (·.1) from crash_names keeps s.fs 0, ← ris_names]
    exact h.ris
  · intro p hp
    have : p.1 ∈ (s.crash keeps).fs.map (·.1) := List.mem_map.2 ⟨p, hp, rfl⟩
    rw [show (s.crash keeps).fs.map (·.1) = s.fs.map (·.1) from crash_names keeps s.fs 0] at this
    obtain ⟨q, hq, e⟩ := List.mem_map.1 this
    rw [← e]
    exact h.nm q hq
theorem DS.Ok.setFuse {s : DS} (h : s.Ok) (n : Int) (hn : n ≤ 9223372036854775807) : (s.setFuse n).2.Ok := by
  unfold DS.setFuse
  split
  · exact h
  · exact ⟨h.room0, h.room1, by simp; omega, by simpa using hn, h.ris, h.tot, h.sy, h.nm⟩
theorem DS.Ok.setRoom {s : DS} (h : s.Ok) (n : Int) : (s.setRoom n).2.Ok := by
  unfold DS.setRoom
  split
  · rename_i hn
    exact ⟨hn.1, hn.2, h.fuse0, h.fuse1, h.ris, h.tot, h.sy, h.nm⟩
  · exact h
theorem DS.Ok.new {room : Int} (h0 : 0 ≤ room) (h1 : room ≤ 4194304) : (⟨room, -1, false, []⟩ : DS).Ok :=
  ⟨h0, h1, by simp, by simp, List.Pairwise.nil, by simp [total], by simp, by simp⟩

/-! ### the map's datum -/

/-- The datum of a map from names to values. -/
def Dof (V : List (List UInt8 × Value)) : DataW Value := .map (V.map fun p => (.string p.1, .held p.2))

theorem dof_insert (n : List UInt8) (v : Value) (V : List (List UInt8 × Value)) :
    DataW.insert (Lit.string n, DataW.held v) (V.map fun p => (Lit.string p.1, DataW.held p.2)) = (insA (n, v) V).map fun p => (Lit.string p.1, DataW.held p.2) := by
  induction V with
  | nil => rfl
  | cons z r ih =>
    by_cases h : bytesBefore n z.1 = true
    · simp [DataW.insert, insA, Lit.before, h]
    · simp [DataW.insert, insA, Lit.before, h, ih]
theorem dof_put (n : List UInt8) (v : Value) (V : List (List UInt8 × Value)) : (Dof V).put (.string n) (.held v) = Dof (putA n v V) := by
  unfold Dof putA
  rw [← dof_insert]
  simp only [DataW.put, delA, List.filter_map, Function.comp_def, Lit.sameKey]
theorem dof_del (n : List UInt8) (V : List (List UInt8 × Value)) : (Dof V).del (.string n) = Dof (delA n V) := by
  simp only [Dof, DataW.del, delA, List.filter_map, Function.comp_def, Lit.sameKey]
theorem dof_at (n : List UInt8) (V : List (List UInt8 × Value)) (z : Value) : (Dof V).atKey (.string n) (.held z) = .held ((getA n V).getD z) := by
  simp only [Dof, DataW.atKey, getA, List.find?_map, Function.comp_def, Lit.sameKey]
  cases V.find? fun p => p.1 == n <;> rfl
theorem dof_has (n : List UInt8) (V : List (List UInt8 × Value)) : Maps.has (Dof V) (.string n) = (getA n V).isSome := by
  simp only [Dof, Maps.has, getA, List.any_map, Function.comp_def, Lit.sameKey]
  induction V with
  | nil => rfl
  | cons z r ih =>
    by_cases h : z.1 = n
    · simp [h]
    · have h' : (z.1 == n) = false := by simpa using h
      simpa [h'] using ih
theorem dof_keys (V : List (List UInt8 × Value)) : strKeys (Dof V) = V.map (·.1) := by simp [Dof, strKeys, strOf, Function.comp_def]
theorem dof_size (V : List (List UInt8 × Value)) : Maps.size (Dof V) = V.length := by simp [Dof, Maps.size]

theorem sort_names {V : List (List UInt8 × Value)} {ss : List (List UInt8)} (h : Ris V) (hp : ss.Perm (strKeys (Dof V))) : ss.mergeSort (fun x y => decide (x ≤ y)) = V.map (·.1) := by
  rw [dof_keys] at hp
  have h1 := mergeSort_of_perm hp
  have h2 : (V.map (·.1)).mergeSort leB = V.map (·.1) := by
    refine List.mergeSort_of_pairwise ?_
    rw [ris_names] at h
    refine h.imp fun {a b} hab => ?_
    simp only [leB, decide_eq_true_eq]
    exact List.le_of_lt (bb_lt.1 hab)
  exact h1.trans h2
end Go.Proofs.Ytfljpnfjndjhpaa
