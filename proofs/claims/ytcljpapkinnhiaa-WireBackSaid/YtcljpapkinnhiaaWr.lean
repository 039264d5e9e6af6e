/- wire: the reader. -/
import Derived.Test.YtcljpapkinnhiaaWt
namespace Go.Proofs.Ytcljpapkinnhiaa
open Go.RowKit
set_option linter.unusedVariables false

/-- w' is w but for block b, and with new blocks. -/
abbrev Tch (b : Nat) (w w' : World) : Prop := w.grownBy w' (some b)
theorem Tch.refl (b : Nat) (w : World) : Tch b w w := ⟨rfl, rfl, rfl, Nat.le_refl _, fun _ _ _ => rfl⟩
theorem Tch.trans {b : Nat} {w w1 w2 : World} (h : Tch b w w1) (k : Tch b w1 w2) : Tch b w w2 :=
  ⟨k.os.trans h.os, k.tape.trans h.tape, k.output.trans h.output, Nat.le_trans h.size k.size, fun i hi hne => (k.block i (Nat.lt_of_lt_of_le hi h.size) hne).trans (h.block i hi hne)⟩
theorem Tch.set (b o : Nat) (w : World) (u : Value) : Tch b w (w.setCell ⟨b, o, none⟩ u) :=
  ⟨rfl, rfl, rfl, by simp [World.setCell], fun k hk hne => Below.heap_setCell _ _ _ _ (fun e => hne (by rw [e]))⟩
theorem Tch.below {b B : Nat} {w w' : World} (h : Tch b w w') (hb : B ≤ b) (hB : B ≤ w.heap.size) : Below B w w' :=
  (Below.refl B w).grown h hB fun k hk => by simp at hk; omega

/-- The reader in block b: the bytes that are left, and the error. -/
def RS (w : World) (b : Nat) (xs : List UInt8) (e : Int) : Prop :=
  ∃ v, w.heap[b]? = some (.cells #[v, .int .i64 e, .bool true] 40 (0, 0)) ∧ Rd w v xs

theorem heap_mod {w : World} {b o : Nat} {cs : Array Value} {u : Value} {T : TypeId} (h : w.heap[b]? = some (.cells cs T (0, 0))) :
    (w.setCell ⟨b, o, none⟩ u).heap[b]? = some (.cells (cs.setIfInBounds o u) T (0, 0)) := by
  have hlt := lt_of_block h
  have h' : w.heap[b] = .cells cs T (0, 0) := by simpa [Array.getElem?_eq_getElem hlt] using h
  show (w.heap.modify b _)[b]? = _
  rw [Array.getElem?_eq_getElem (by simpa using hlt), Array.getElem_modify_self, h']
  rfl

theorem cell_of_heap3 {w : World} {b : Nat} {c0 c1 c2 : Value} {T : TypeId} (h : w.heap[b]? = some (.cells #[c0, c1, c2] T (0, 0))) :
    w.cell? ⟨b, 0, none⟩ = some c0 ∧ w.cell? ⟨b, 1, none⟩ = some c1 ∧ w.cell? ⟨b, 2, none⟩ = some c2 ∧ (∀ o, w.frozen? ⟨b, o, none⟩ = false) := by
  refine ⟨?_, ?_, ?_, fun o => ?_⟩ <;> simp [World.cell?, World.frozen?, h]

/-- No byte lies in a reader's block. -/
theorem no_byte {w : World} {b : Nat} {xs : List UInt8} {e : Int} (h : RS w b xs e) (o : Nat) (x : UInt8) : w.cell? ⟨b, o, none⟩ ≠ some (.int .u8 (x.toNat : Int)) := by
  obtain ⟨v, hh, p, c, rfl, _⟩ := h
  intro hc
  simp only [World.cell?, hh] at hc
  match o, hc with
  | 0, hc => simp at hc
  | 1, hc => simp at hc
  | 2, hc => simp at hc
  | o + 3, hc => simp at hc

theorem Rd.stored {w : World} {b : Nat} {xs : List UInt8} {e : Int} (h : RS w b xs e) {v : Value} {ys : List UInt8} (hr : Rd w v ys) (o : Nat) (u : Value) : Rd (w.setCell ⟨b, o, none⟩ u) v ys := by
  obtain ⟨p, c, hv, h1, h2, h3, h4⟩ := hr
  refine ⟨p, c, hv, h1, h2, h3, fun hp => ?_⟩
  obtain ⟨b', o', hb, hx⟩ := h4 hp
  refine ⟨b', o', hb, fun i hi => ?_⟩
  have hc := hx i hi
  by_cases hbb : b' = b
  · subst hbb
    exact absurd hc (no_byte h _ _)
  · rw [World.cell?_of_block (w := w) (Below.heap_setCell _ _ _ _ (by simpa using hbb))]
    exact hc

theorem RS.set {w : World} {b : Nat} {xs ys : List UInt8} {e : Int} (h : RS w b xs e) {v : Value} (hr : Rd w v ys) : RS (w.setCell ⟨b, 0, none⟩ v) b ys e := by
  have hk := Rd.stored h hr 0 v
  obtain ⟨v0, hh, _⟩ := h
  exact ⟨v, heap_mod hh, hk⟩

theorem RS.fail {w : World} {b : Nat} {xs : List UInt8} {e : Int} (h : RS w b xs e) (e' : Int) : RS ((w.setCell ⟨b, 1, none⟩ (.int .i64 e')).setCell ⟨b, 0, none⟩ (.slice none 0 0)) b [] e' := by
  obtain ⟨v0, hh, _⟩ := h
  exact ⟨_, heap_mod (heap_mod hh), Rd.nil _⟩

theorem RS.below {w w' : World} {b : Nat} {xs : List UInt8} {e : Int} (h : RS w b xs e) (hb : Below w.heap.size w w') : RS w' b xs e := by
  obtain ⟨v, hh, hr⟩ := h
  exact ⟨v, by rw [hb.block b (lt_of_block hh)]; exact hh, hr.below hb⟩

theorem RS.lt {w : World} {b : Nat} {xs : List UInt8} {e : Int} (h : RS w b xs e) : b < w.heap.size := by
  obtain ⟨v, hh, _⟩ := h
  exact lt_of_block hh

/-- Another slice of bytes is not touched. -/
theorem Rd.tch {w w' : World} {b : Nat} {xs ys : List UInt8} {e : Int} {v : Value} (hr : Rd w v ys) (h : RS w b xs e) (ht : Tch b w w') : Rd w' v ys := by
  obtain ⟨p, c, hv, h1, h2, h3, h4⟩ := hr
  refine ⟨p, c, hv, h1, h2, h3, fun hp => ?_⟩
  obtain ⟨b', o', hb, hx⟩ := h4 hp
  refine ⟨b', o', hb, fun i hi => ?_⟩
  have hc := hx i hi
  by_cases hbb : b' = b
  · subst hbb
    exact absurd hc (no_byte h _ _)
  · exact ht.cell hc (by simpa using hbb)

section
variable {w : World} {b : Nat} {xs : List UInt8} {e : Int}

theorem err_c (h : RS w b xs e) : Calls Try.prog 21 #[.pointer (some ⟨b, 0, none⟩)] w fun r w' => r = .returned (.int .i64 e) ∧ w = w' := by
  obtain ⟨v, hh, p, c, rfl, _⟩ := h
  obtain ⟨c0, c1, c2, cf⟩ := cell_of_heap3 hh
  clear hh
  go_enter Try.func21, Try.ntmps21
  go_wp2
  go_ret
  exact ⟨rfl, rfl⟩

theorem left_c (h : RS w b xs e) : Calls Try.prog 22 #[.pointer (some ⟨b, 0, none⟩)] w fun r w' => r = .returned (.int .i64 xs.length) ∧ w = w' := by
  obtain ⟨v, hh, p, c, rfl, _⟩ := h
  obtain ⟨c0, c1, c2, cf⟩ := cell_of_heap3 hh
  clear hh
  go_enter Try.func22, Try.ntmps22
  go_wp2
  go_ret
  exact ⟨rfl, rfl⟩

theorem fail_c (h : RS w b xs e) (x : Int) : Calls Try.prog 27 #[.pointer (some ⟨b, 0, none⟩), .int .i64 x] w fun r w' => r = .returned (.tuple #[]) ∧ RS w' b [] x ∧ Tch b w w' := by
  have HF := Lib.hid (h.fail x)
  obtain ⟨v, hh, p, c, rfl, _⟩ := h
  obtain ⟨c0, c1, c2, cf⟩ := cell_of_heap3 hh
  have cf0 := cf 0
  have cf1 := cf 1
  clear hh cf
  go_enter Try.func27, Try.ntmps27
  go_wp2
  go_end0
  exact ⟨rfl, HF.out, (Tch.set _ _ _ _).trans (Tch.set _ _ _ _)⟩

/-- What Int reads of bytes: the number, what is left, the error. -/
def rInt (xs : List UInt8) (lo hi : Int) : Int × List UInt8 × Int :=
  if (gi 0 0 xs).2.2 = 0 then if (gi 0 0 xs).1 < lo ∨ hi < (gi 0 0 xs).1 then (0, [], 4) else ((gi 0 0 xs).1, xs.drop (gi 0 0 xs).2.1, 0) else (0, [], (gi 0 0 xs).2.2)

theorem int_e (h : RS w b xs e) (he : (e != 0) = true) (lo hi : Int) : Calls Try.prog 18 #[.pointer (some ⟨b, 0, none⟩), .int .i64 lo, .int .i64 hi] w fun r w' => r = .returned (.int .i64 0) ∧ w = w' := by
  go_enter Try.func18, Try.ntmps18
  go_wp2_with (go_at_call 21; refine (err_c h).mono ?_; rintro r w' ⟨rfl, rfl⟩)
  go_ret
  exact ⟨rfl, rfl⟩

theorem gi_le (xs : List UInt8) (n : Int) (s : Nat) (h : gi 0 0 xs = (n, s, 0)) : s ≤ xs.length := by
  obtain ⟨_, _, rfl, rest, rfl⟩ := enc_of_gi xs n s h
  simp

set_option maxHeartbeats 800000 in
theorem int_r (h : RS w b xs 0) (lo hi : Int) (hlo : -9223372036854775808 ≤ lo) (hhi : hi ≤ 9223372036854775807) :
    Calls Try.prog 18 #[.pointer (some ⟨b, 0, none⟩), .int .i64 lo, .int .i64 hi] w fun r w' => r = .returned (.int .i64 (rInt xs lo hi).1) ∧ RS w' b (rInt xs lo hi).2.1 (rInt xs lo hi).2.2 ∧ Tch b w w' := by
  have HS := Lib.hid h
  clear hlo hhi
  rcases hgi : gi 0 0 xs with ⟨n, s, er⟩
  have HG := Lib.hid hgi
  obtain ⟨v, hh, hr⟩ := h
  have HC := Lib.hid (show Calls Try.prog 26 #[v] w fun e w' => e = .returned (.tuple #[.int .i64 n, .int .i64 s, .int .i64 er]) ∧ w = w' from by have := getInt_c w v xs hr; rw [hgi] at this; exact this)
  have HR := Lib.hid hr
  obtain ⟨c0, c1, c2, cf⟩ := cell_of_heap3 hh
  have cf0 := cf 0
  clear hh cf hr
  by_cases he : er = 0
  · subst he
    have hs := gi_le xs n s hgi
    clear hgi
    by_cases hout : n < lo ∨ hi < n
    · have HX := Lib.hid (show rInt xs lo hi = (0, [], 4) from by unfold rInt; rw [HG.out]; simp [hout])
      by_cases h1 : n < lo
      · clear hout
        go_enter Try.func18, Try.ntmps18
        go_wp2_with (first
          | (go_at_call 21; refine (err_c HS.out).mono ?_; rintro r w' ⟨rfl, rfl⟩)
          | (go_at_call 26; refine HC.out.mono ?_; rintro r w' ⟨rfl, rfl⟩)
          | (go_at_call 27; refine (fail_c HS.out _).mono ?_; rintro r w' ⟨rfl, hrs, ht⟩; have HT := Lib.hid (And.intro hrs ht); clear hrs ht))
        go_ret
        rw [HX.out]
        exact ⟨rfl, HT.out⟩
      · have h2 : hi < n := by omega
        clear hout
        go_enter Try.func18, Try.ntmps18
        go_wp2_with (first
          | (go_at_call 21; refine (err_c HS.out).mono ?_; rintro r w' ⟨rfl, rfl⟩)
          | (go_at_call 26; refine HC.out.mono ?_; rintro r w' ⟨rfl, rfl⟩)
          | (go_at_call 27; refine (fail_c HS.out _).mono ?_; rintro r w' ⟨rfl, hrs, ht⟩; have HT := Lib.hid (And.intro hrs ht); clear hrs ht))
        go_ret
        rw [HX.out]
        exact ⟨rfl, HT.out⟩
    · have HX := Lib.hid (show rInt xs lo hi = (n, xs.drop s, 0) from by unfold rInt; rw [HG.out]; simp [hout])
      have h1 : lo ≤ n := by omega
      have h2 : n ≤ hi := by omega
      clear hout
      obtain ⟨p, c, rfl, hlc, hcm, _⟩ := HR.out
      have HD := Lib.hid (HR.out.from s hs)
      unfold maxLen at hcm
      by_cases hcs : c = s
      · have HE := Lib.hid hcs
        clear hcs
        obtain rfl := HE.out
        go_enter Try.func18, Try.ntmps18
        go_wp2_with (first
          | (go_at_call 21; refine (err_c HS.out).mono ?_; rintro r w' ⟨rfl, rfl⟩)
          | (go_at_call 26; refine HC.out.mono ?_; rintro r w' ⟨rfl, rfl⟩))
        go_ret
        rw [HX.out]
        have := HD.out
        simp only [if_true] at this
        rw [show xs.length - c = 0 from by omega] at this
        exact ⟨rfl, by simpa using HS.out.set this, Tch.set _ _ _ _⟩
      · go_enter Try.func18, Try.ntmps18
        go_wp2_with (first
          | (go_at_call 21; refine (err_c HS.out).mono ?_; rintro r w' ⟨rfl, rfl⟩)
          | (go_at_call 26; refine HC.out.mono ?_; rintro r w' ⟨rfl, rfl⟩))
        go_ret
        rw [HX.out]
        have := HD.out
        rw [if_neg hcs] at this
        exact ⟨rfl, by simpa using HS.out.set this, Tch.set _ _ _ _⟩
  · have t1 : (er == 0) = false := by simpa using he
    have t2 : (er != 0) = true := by simpa using he
    have HX := Lib.hid (show rInt xs lo hi = (0, [], er) from by unfold rInt; rw [HG.out]; simp [he])
    clear hgi he
    go_enter Try.func18, Try.ntmps18
    go_wp2_with (first
      | (go_at_call 21; refine (err_c HS.out).mono ?_; rintro r w' ⟨rfl, rfl⟩)
      | (go_at_call 26; refine HC.out.mono ?_; rintro r w' ⟨rfl, rfl⟩)
      | (go_at_call 27; refine (fail_c HS.out _).mono ?_; rintro r w' ⟨rfl, hrs, ht⟩; have HT := Lib.hid (And.intro hrs ht); clear hrs ht))
    go_ret
    rw [HX.out]
    exact ⟨rfl, HT.out⟩

/-- What Text reads. -/
def rText (xs : List UInt8) (most : Int) : List UInt8 × List UInt8 × Int :=
  if (rInt xs 0 most).2.2 = 0 then
    if ((rInt xs 0 most).2.1.length : Int) < (rInt xs 0 most).1 then ([], [], 3)
    else ((rInt xs 0 most).2.1.take (rInt xs 0 most).1.toNat, (rInt xs 0 most).2.1.drop (rInt xs 0 most).1.toNat, 0)
  else ([], [], (rInt xs 0 most).2.2)

theorem rInt_lo (xs : List UInt8) (lo hi : Int) (h : (rInt xs lo hi).2.2 = 0) : lo ≤ (rInt xs lo hi).1 ∧ (rInt xs lo hi).1 ≤ hi := by
  unfold rInt at h ⊢
  split at h
  · split at h
    · simp at h
    · rename_i h1 h2
      rw [if_pos h1, if_neg h2]
      simp only
      omega
  · rename_i h1
    exact absurd h h1

theorem rInt_e (xs : List UInt8) (lo hi : Int) (h : (rInt xs lo hi).2.2 ≠ 0) : (rInt xs lo hi).2.1 = [] := by
  unfold rInt at h ⊢
  split
  · split
    · rfl
    · rename_i h1 h2
      rw [if_pos h1, if_neg h2] at h
      simp at h
  · rfl

set_option maxHeartbeats 800000 in
theorem text_r (h : RS w b xs 0) (most : Int) (hhi : most ≤ 9223372036854775807) :
    Calls Try.prog 19 #[.pointer (some ⟨b, 0, none⟩), .int .i64 most] w fun r w' => r = .returned (.string ⟨(rText xs most).1.toArray⟩) ∧ RS w' b (rText xs most).2.1 (rText xs most).2.2 ∧ Tch b w w' := by
  have HI := Lib.hid (int_r h 0 most (by omega) hhi)
  have HL := Lib.hid (rInt_lo xs 0 most)
  have HE := Lib.hid (rInt_e xs 0 most)
  rcases hri : rInt xs 0 most with ⟨n, ys, er⟩
  rw [hri] at HI HL HE
  have HQ := Lib.hid hri
  clear hri hhi
  simp only at HI HL HE
  by_cases he : er = 0
  · subst he
    have h0 := (HL.out rfl).1
    clear HL
    by_cases hbig : (ys.length : Int) < n
    · have HX := Lib.hid (show rText xs most = ([], [], 3) from by unfold rText; rw [HQ.out]; simp only [if_true]; rw [if_pos hbig])
      go_enter Try.func19, Try.ntmps19
      go_wp2_with fail
      refine HI.out.mono ?_
      rintro r w1 ⟨rfl, hrs, ht⟩
      have HS := Lib.hid hrs
      have HT := Lib.hid ht
      obtain ⟨v, hh, p, c, rfl, _⟩ := HS.out
      obtain ⟨c0, c1, c2, cf⟩ := cell_of_heap3 hh
      clear hrs ht hh c1 c2 cf
      go_wp2_with (first
        | (go_at_call 21; refine (err_c HS.out).mono ?_; rintro r w' ⟨rfl, rfl⟩)
        | (go_at_call 27; refine (fail_c HS.out _).mono ?_; rintro r w' ⟨rfl, hrs, ht⟩; have HU := Lib.hid (And.intro hrs ht); clear hrs ht))
      go_ret
      rw [HX.out]
      exact ⟨rfl, HU.out.1, HT.out.trans HU.out.2⟩
    · have hle : n ≤ ys.length := by omega
      obtain ⟨m, rfl⟩ := Int.eq_ofNat_of_zero_le h0
      have hlm : m ≤ ys.length := by omega
      have HX := Lib.hid (show rText xs most = (ys.take m, ys.drop m, 0) from by unfold rText; rw [HQ.out]; simp only [if_true]; rw [if_neg hbig]; rfl)
      clear hbig
      go_enter Try.func19, Try.ntmps19
      go_wp2_with fail
      refine HI.out.mono ?_
      rintro r w1 ⟨rfl, hrs, ht⟩
      have HS := Lib.hid hrs
      have HT := Lib.hid ht
      obtain ⟨v, hh, hrd⟩ := hrs
      have HR := Lib.hid hrd
      obtain ⟨p, c, rfl, hlc, hcm, _⟩ := hrd
      unfold maxLen at hcm
      obtain ⟨c0, c1, c2, cf⟩ := cell_of_heap3 hh
      have cf0 := cf 0
      have HD := Lib.hid (HR.out.from m hlm)
      have hcv := (HR.out.to m hlm).conv (P := Try.prog) 22 5 9 Try.underlying22 Try.underlying5 Try.underlying9
      clear ht hh cf
      by_cases hcs : c = m
      · have HF := Lib.hid hcs
        clear hcs
        obtain rfl := HF.out
        go_wp2_with (first
          | (go_at_call 21; refine (err_c HS.out).mono ?_; rintro r w' ⟨rfl, rfl⟩))
        go_ret
        rw [HX.out]
        have := HD.out
        simp only [if_true] at this
        rw [show ys.length - c = 0 from by omega] at this
        exact ⟨rfl, by simpa using HS.out.set this, HT.out.trans (Tch.set _ _ _ _)⟩
      · go_wp2_with (first
          | (go_at_call 21; refine (err_c HS.out).mono ?_; rintro r w' ⟨rfl, rfl⟩))
        go_ret
        rw [HX.out]
        have := HD.out
        rw [if_neg hcs] at this
        exact ⟨rfl, by simpa using HS.out.set this, HT.out.trans (Tch.set _ _ _ _)⟩
  · have t2 : (er != 0) = true := by simpa using he
    have HX := Lib.hid (show rText xs most = ([], [], er) from by unfold rText; rw [HQ.out]; simp only; rw [if_neg he])
    have HY := Lib.hid (HE.out he)
    clear he HL HE
    go_enter Try.func19, Try.ntmps19
    go_wp2_with fail
    refine HI.out.mono ?_
    rintro r w1 ⟨rfl, hrs, ht⟩
    have HS := Lib.hid hrs
    have HT := Lib.hid ht
    clear hrs ht
    go_wp2_with (go_at_call 21; refine (err_c HS.out).mono ?_; rintro r w' ⟨rfl, rfl⟩)
    go_ret
    rw [HX.out]
    exact ⟨rfl, by have := HS.out; rw [HY.out] at this; exact this, HT.out⟩

/-- What Flag reads. -/
def rFlag (xs : List UInt8) : Bool × List UInt8 × Int :=
  match xs with
  | [] => (false, [], 3)
  | x :: r => if 1 < x.toNat then (false, [], 5) else (x.toNat == 1, r, 0)

set_option maxHeartbeats 800000 in
theorem flag_r (h : RS w b xs 0) :
    Calls Try.prog 20 #[.pointer (some ⟨b, 0, none⟩)] w fun r w' => r = .returned (.bool (rFlag xs).1) ∧ RS w' b (rFlag xs).2.1 (rFlag xs).2.2 ∧ Tch b w w' := by
  have HS := Lib.hid h
  obtain ⟨v, hh, hr⟩ := h
  have HR := Lib.hid hr
  obtain ⟨p, c, rfl, hlc, hcm, hpn, hx⟩ := hr
  obtain ⟨c0, c1, c2, cf⟩ := cell_of_heap3 hh
  have cf0 := cf 0
  unfold maxLen at hcm
  clear hh cf c1 c2 hpn
  cases xs with
  | nil =>
    clear hx
    go_enter Try.func20, Try.ntmps20
    go_wp2_with (first
      | (go_at_call 21; refine (err_c HS.out).mono ?_; rintro r w' ⟨rfl, rfl⟩)
      | (go_at_call 27; refine (fail_c HS.out _).mono ?_; rintro r w' ⟨rfl, hrs, ht⟩; have HT := Lib.hid (And.intro hrs ht); clear hrs ht))
    go_ret
    exact ⟨rfl, HT.out⟩
  | cons x r =>
    obtain ⟨b', o, rfl, hx'⟩ := hx (by simp)
    have hc := hx' 0 (by simp)
    simp only [List.getElem_cons_zero, Nat.add_zero] at hc
    have hlen : ((((x :: r).length : Nat) : Int) == 0) = false := by simp; omega
    have hl1 : 1 ≤ (x :: r).length := by simp
    have HD := Lib.hid (HR.out.from 1 hl1)
    have hxl := x.toNat_lt
    clear hx hx'
    by_cases hb : 1 < x.toNat
    · have HX := Lib.hid (show rFlag (x :: r) = (false, [], 5) from by simp only [rFlag]; rw [if_pos hb])
      go_enter Try.func20, Try.ntmps20
      go_wp2_with (first
        | (go_at_call 21; refine (err_c HS.out).mono ?_; rintro r w' ⟨rfl, rfl⟩)
        | (go_at_call 27; refine (fail_c HS.out _).mono ?_; rintro r w' ⟨rfl, hrs, ht⟩; have HT := Lib.hid (And.intro hrs ht); clear hrs ht))
      go_ret
      rw [HX.out]
      exact ⟨rfl, HT.out⟩
    · have hb' : x.toNat ≤ 1 := by omega
      have HX := Lib.hid (show rFlag (x :: r) = (x.toNat == 1, r, 0) from by simp only [rFlag]; rw [if_neg hb])
      have HB := Lib.hid (show (((x.toNat : Nat) : Int) == 1) = (x.toNat == 1) from by rcases (show x.toNat = 0 ∨ x.toNat = 1 from by omega) with h | h <;> rw [h] <;> rfl)
      clear hb
      by_cases hcs : c = 1
      · have HF := Lib.hid hcs
        clear hcs
        obtain rfl := HF.out
        go_enter Try.func20, Try.ntmps20
        go_wp2_with (first
          | (go_at_call 21; refine (err_c HS.out).mono ?_; rintro r w' ⟨rfl, rfl⟩))
        go_ret
        rw [HX.out]
        have := HD.out
        simp only [if_true] at this
        exact ⟨by rw [← HB.out]; rfl, by simpa [Addr.add_lit] using HS.out.set this, Tch.set _ _ _ _⟩
      · go_enter Try.func20, Try.ntmps20
        go_wp2_with (first
          | (go_at_call 21; refine (err_c HS.out).mono ?_; rintro r w' ⟨rfl, rfl⟩))
        go_ret
        rw [HX.out]
        have := HD.out
        rw [if_neg hcs] at this
        exact ⟨by rw [← HB.out]; rfl, by simpa [Addr.add_lit] using HS.out.set this, Tch.set _ _ _ _⟩

theorem open_c (v : Value) (h : Rd w v xs) (hn : xs.length ≤ 140737488355328) :
    Calls Try.prog 17 #[v] w fun r w' => ∃ b, r = .returned (.pointer (some ⟨b, 0, none⟩)) ∧ RS w' b xs 0 ∧ w.heap.size ≤ b ∧ Below w.heap.size w w' := by
  have HR := Lib.hid h
  have HN := Lib.hid hn
  clear h hn
  go_enter Try.func17, Try.ntmps17
  go_wp2_with fail
  refine (clone_c _ _ xs HR.out HN.out).mono ?_
  rintro r w1 ⟨v1, rfl, hown, hb⟩
  have HO := Lib.hid hown
  have HB := Lib.hid hb
  have HV := Lib.hid (Rd.of_own hown)
  obtain ⟨p, c, rfl, _⟩ := Rd.of_own hown
  clear hown hb
  go_wp2
  go_ret
  exact ⟨w1.heap.size, rfl, ⟨_, heap_alloc_new w1 _, HV.out.alloc _⟩, HB.out.size, HB.out.alloc HB.out.size _⟩

end
theorem tb_back (s : ByteArray) : (⟨(tb s).toArray⟩ : ByteArray) = s := by simp [tb]

theorem rInt_enc (n : Int) (rest : List UInt8) (lo hi : Int) (h0 : -9223372036854775808 ≤ n) (h1 : n ≤ 9223372036854775807) (h2 : lo ≤ n) (h3 : n ≤ hi) : rInt (enc n ++ rest) lo hi = (n, rest, 0) := by
  unfold rInt
  rw [gi_of_enc n rest h0 h1]
  simp only [if_true]
  rw [if_neg (by omega)]
  simp

theorem rText_enc (s : List UInt8) (rest : List UInt8) (most : Int) (h : (s.length : Int) ≤ most) (hm : most ≤ 9223372036854775807) : rText (enc s.length ++ (s ++ rest)) most = (s, rest, 0) := by
  unfold rText
  rw [rInt_enc _ _ _ _ (by omega) (by omega) (by omega) h]
  simp only [if_true, List.length_append]
  rw [if_neg (by omega)]
  simp

theorem rFlag_enc (y : Bool) (rest : List UInt8) : rFlag (fb y ++ rest) = (y, rest, 0) := by cases y <;> simp [rFlag, fb]

theorem rInt_back (xs : List UInt8) (lo hi : Int) (h : (rInt xs lo hi).2.2 = 0) : xs = enc (rInt xs lo hi).1 ++ (rInt xs lo hi).2.1 ∧ -9223372036854775808 ≤ (rInt xs lo hi).1 ∧ (rInt xs lo hi).1 ≤ 9223372036854775807 := by
  unfold rInt at h ⊢
  split at h
  · split at h
    · simp at h
    · rename_i h1 h2
      rw [if_pos h1, if_neg h2]
      obtain ⟨a, b, c, rest, d⟩ := enc_of_gi xs (gi 0 0 xs).1 (gi 0 0 xs).2.1 (by rw [← h1])
      refine ⟨?_, a, b⟩
      simp only
      rw [c]
      generalize (gi 0 0 xs).1 = n at *
      subst d
      simp
  · rename_i h1
    exact absurd h h1

theorem rText_back (xs : List UInt8) (most : Int) (h : (rText xs most).2.2 = 0) : xs = enc (rText xs most).1.length ++ ((rText xs most).1 ++ (rText xs most).2.1) ∧ ((rText xs most).1.length : Int) ≤ most := by
  unfold rText at h ⊢
  split at h
  · split at h
    · simp at h
    · rename_i h1 h2
      rw [if_pos h1, if_neg h2]
      have hb := rInt_back xs 0 most h1
      have hl := rInt_lo xs 0 most h1
      have hlen : (((rInt xs 0 most).2.1.take (rInt xs 0 most).1.toNat).length : Int) = (rInt xs 0 most).1 := by rw [List.length_take]; omega
      simp only
      rw [hlen, List.take_append_drop]
      exact ⟨hb.1, hl.2⟩
  · rename_i h1
    exact absurd h h1

theorem rText_e (xs : List UInt8) (most : Int) (h : (rText xs most).2.2 ≠ 0) : (rText xs most).1 = [] ∧ (rText xs most).2.1 = [] := by
  unfold rText at h ⊢
  split
  · split
    · exact ⟨rfl, rfl⟩
    · rename_i h1 h2
      rw [if_pos h1, if_neg h2] at h
      simp at h
  · exact ⟨rfl, rfl⟩

theorem text_e {w : World} {b : Nat} {xs : List UInt8} {e : Int} (h : RS w b xs e) (he : (e != 0) = true) (most : Int) : Calls Try.prog 19 #[.pointer (some ⟨b, 0, none⟩), .int .i64 most] w fun r w' => r = .returned (.string ⟨#[]⟩) ∧ w = w' := by
  go_enter Try.func19, Try.ntmps19
  go_wp2_with (first
    | (go_at_call 21; refine (err_c h).mono ?_; rintro r w' ⟨rfl, rfl⟩)
    | (go_at_call 18; refine (int_e h he _ _).mono ?_; rintro r w' ⟨rfl, rfl⟩))
  go_ret
  exact ⟨rfl, rfl⟩
end Go.Proofs.Ytcljpapkinnhiaa
