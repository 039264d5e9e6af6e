/- xmllex: Skip. -/
import Derived.Test.YthlphmldghppmaaGreatDoorIa
import Derived.Test.YthlphmldghppmaaGreatDoorHp
import Derived.Test.YthlphmldghppmaaGreatDoorNx
import Derived.Test.YthlphmldghppmaaGreatDoorHl
namespace Go.Proofs.YthlphmldghppmaaGreatDoor
open Go.RowKit
set_option linter.unusedVariables false

/-- Where comments and instructions end, and the error. -/
def skA (ins : List UInt8 → Option Nat) (xs : List UInt8) (at_ : Int) : Nat × Nat :=
  if at_ < 0 ∨ (xs.length : Int) < at_ then (0, 1) else match skpF ins (xs.length + 1) (xs.drop at_.toNat) at_.toNat with
    | (k, false) => (k, 11)
    | (k, true) => (k, 0)
set_option maxRecDepth 100000 in
theorem skip1_c {w : World} {pb : Nat} {xs : List UInt8} {a f : Nat} (h : SC w pb xs a f) : Calls Tryz.prog 23 #[.pointer (some ⟨pb, 0, none⟩)] w
    (SkAft w pb xs (skpF insP (xs.length + 1) (xs.drop a) a)) := by
  have HSK := skip_c h
  obtain ⟨R, hR⟩ : ∃ R, R = skpF insP (xs.length + 1) (xs.drop a) a := ⟨_, rfl⟩
  rw [← hR] at HSK ⊢
  obtain ⟨k, ok⟩ := R
  clear h hR
  cases ok with
  | false =>
    have HSK2 : Hid (Calls Tryz.prog 20 #[.pointer (some ⟨pb, 0, none⟩)] w fun e w' => Boom k 11 e ∧ Chg [pb] w w') := HSK
    clear HSK
    go_enter Tryz.func23, Tryz.ntmps23
    go_wp2_with (go_at_call 20; refine (HSK2.out).mono ?_; rintro e w1 ⟨he, hc⟩; unfold Boom at he; subst he; have HC := Lib.hid hc; clear hc)
    exact ⟨rfl, rfl, HC.out⟩
  | true =>
    have HSK2 : Hid (Calls Tryz.prog 20 #[.pointer (some ⟨pb, 0, none⟩)] w fun e w' => e = .returned (.tuple #[]) ∧ SC w' pb xs k k ∧ Chg [pb] w w') := HSK
    clear HSK
    go_enter Tryz.func23, Tryz.ntmps23
    go_wp2_with fail
    refine HSK2.out.mono ?_
    rintro e w1 ⟨rfl, hs, hc⟩
    have HS := Lib.hid (And.intro hs hc)
    clear hs hc
    go_wp2_with fail
    go_end0
    exact ⟨rfl, HS.out.1, HS.out.2⟩
abbrev F23 : Value := .func (.func 23) #[] #[]
def SkEnd (w : World) (R : Nat × Nat) (e : Ending) (w' : World) : Prop := e = .returned (.tuple #[.int .i64 (R.1 : Nat), .int .i64 (R.2 : Nat)]) ∧ Below w.heap.size w w'
set_option maxRecDepth 100000 in
set_option maxHeartbeats 2000000 in
theorem scan_sk {w : World} (hw : BW w) {p : Option Addr} {n c : Nat} {xs : List UInt8} (hr : Rd w (.slice p n c) xs) (hl : xs.length ≤ 1048576) (at_ : Int) : Calls Tryz.prog 18 #[.slice p n c, .int .i64 at_, F23] w
    (SkEnd w (skA insP xs at_)) := by
  by_cases ho : at_ < 0 ∨ (xs.length : Int) < at_
  · rw [show skA insP xs at_ = (0, 1) from by unfold skA; rw [if_pos ho]]
    have hb := (Chg.of_below (S := []) (Below.refl w.heap.size w))
    obtain ⟨tw, tb, htb⟩ : ∃ (tw : World) (tb : Nat), tw = w ∧ tb = w.heap.size := ⟨_, _, rfl, rfl⟩
    have hn := hr.len
    obtain ⟨x0, xz⟩ := cells1 (W0_6 w)
    obtain ⟨y0, yz⟩ := cells1 (W0_7 w)
    have h1 : ((w.alloc RI).alloc (.cells #[.int .i64 1] 27)).heap[w.heap.size]? = some (.cells #[.int .i64 0] 3 (0, 0)) := ((bel_alloc (w.alloc RI) _).block w.heap.size (by simp)).trans (heap_alloc_new w _)
    have h2 : ((w.alloc RI).alloc (.cells #[.int .i64 1] 27)).heap[w.heap.size + 1]? = some (.cells #[.int .i64 1] 27 (0, 0)) := by
      have := heap_alloc_new (w.alloc RI) (.cells #[.int .i64 1] 27)
      rwa [show (w.alloc RI).heap.size = w.heap.size + 1 from by simp] at this
    have h3 : Below w.heap.size w ((w.alloc RI).alloc (.cells #[.int .i64 1] 27)) := (bel_alloc w RI).trans ((bel_alloc _ _).mono (by simp))
    have H1 := Lib.hid h1
    have H2 := Lib.hid h2
    have H3 := Lib.hid h3
    clear h1 h2 h3 hb htb hr hw
    by_cases h0 : at_ < 0
    · have t0 : decide (at_ < 0) = true := by simpa using h0
      clear ho
      go_enter_defers Tryz.func18, Tryz.ntmps18
      go_wp2_with fail
      refine ⟨_, results_scan _ _ w.heap.size (w.heap.size + 1) _ _ rfl rfl H1.out H2.out, ?_⟩
      exact ⟨rfl, H3.out⟩
    · have t0 : decide (at_ < 0) = false := by simpa using h0
      have t1 : decide ((n : Int) < at_) = true := by simp; omega
      clear ho
      go_enter_defers Tryz.func18, Tryz.ntmps18
      go_wp2_with fail
      refine ⟨_, results_scan _ _ w.heap.size (w.heap.size + 1) _ _ rfl rfl H1.out H2.out, ?_⟩
      exact ⟨rfl, H3.out⟩
  obtain ⟨a, rfl⟩ : ∃ a : Nat, at_ = (a : Int) := ⟨at_.toNat, by omega⟩
  have ha : a ≤ xs.length := by omega
  have hn := hr.len
  have hmf : ∀ (fn : Fn) (first cap : Array Value) (w : World), (Instr.makeFunc fn first cap).run Tryz.prog w = .ok (.func fn first cap) w := fun _ _ _ _ => rfl
  have HNX := Lib.hid (skip1_c (W1_sc hw hr hl ha))
  have HA : skA insP xs (a : Int) = match skpF insP (xs.length + 1) (xs.drop a) a with
    | (k, false) => (k, 11)
    | (k, true) => (k, 0) := by unfold skA; rw [if_neg ho]; rfl
  have h6 := (W1_at w p n c (a : Nat))
  have H67 := Lib.hid h6
  have HWB := Lib.hid (W1_below w p n c (a : Nat))
  obtain ⟨x0, xz⟩ := cells1 (W0_6 w)
  obtain ⟨y0, yz⟩ := cells1 (W0_7 w)
  have t0 : decide ((a : Int) < 0) = false := by simp
  have t1 : ¬ n < a := by omega
  have t2 : decide (n < a) = false := by simpa using t1
  rw [HA]
  obtain ⟨⟨k, ok⟩, hR⟩ : ∃ R, R = skpF insP (xs.length + 1) (xs.drop a) a := ⟨_, rfl⟩
  rw [← hR] at HNX ⊢
  clear hr hw hl h6 hn HA hR ho
  cases ok with
  | false =>
    dsimp only
    go_enter_defers Tryz.func18, Tryz.ntmps18
    go_wp2_with fail
    refine HNX.out.mono ?_
    rintro e w2 ⟨he, hc⟩
    unfold Boom at he
    subst he
    have hb6 := (hc.block w.heap.size (by simp; omega) (by simp)).trans H67.out.1
    have hb7 := (hc.block (w.heap.size + 1) (by simp) (by simp)).trans H67.out.2
    refine leaves_cons (f := 37) (args := #[.pointer (some ⟨w.heap.size, 0, none⟩), .pointer (some ⟨w.heap.size + 1, 0, none⟩)]) (by simp) (by simp [go_sem]) ?_
    refine (scatch_c w.heap.size (w.heap.size + 1) 0 0 (k : Nat) 11 [] w2 hb6 hb7).mono ?_
    rintro e u' w'' ⟨rfl, rfl, g1, g2, gc⟩
    refine ⟨_, results_scan _ w'' w.heap.size (w.heap.size + 1) _ _ rfl rfl g1 g2, ?_⟩
    have hcc : Chg [] w w'' := ((Chg.of_below HWB.out).then hc (fun i hi => by simp at hi; exact .inr (by omega))).then gc (fun i hi => by simp at hi; exact .inr (by omega))
    exact ⟨rfl, hcc.below (Nat.le_refl _) (by simp)⟩
  | true =>
    dsimp only
    go_enter_defers Tryz.func18, Tryz.ntmps18
    go_wp2_with fail
    refine HNX.out.mono ?_
    rintro e w2 ⟨rfl, hs, hc⟩
    obtain ⟨p2, c2', hbox, _⟩ := hs.box
    have hb6 := (hc.block w.heap.size (by simp; omega) (by simp)).trans H67.out.1
    have hb7 := (hc.block (w.heap.size + 1) (by simp) (by simp)).trans H67.out.2
    have h1 : ((w2.setCell ⟨w.heap.size, 0, none⟩ (.int .i64 (k : Nat))).setCell ⟨w.heap.size + 1, 0, none⟩ (.int .i64 0)).heap[w.heap.size]? = some (.cells #[.int .i64 (k : Nat)] 3 (0, 0)) := by
      rw [Below.heap_setCell _ _ _ _ (by simp), block_set _ _ _ _ _ _ _ hb6]
      rfl
    have h2 : ((w2.setCell ⟨w.heap.size, 0, none⟩ (.int .i64 (k : Nat))).setCell ⟨w.heap.size + 1, 0, none⟩ (.int .i64 0)).heap[w.heap.size + 1]? = some (.cells #[.int .i64 0] 27 (0, 0)) := by
      rw [block_set _ _ _ _ _ _ _ ((Below.heap_setCell _ _ _ _ (by simp)).trans hb7)]
      rfl
    have gc : Chg [w.heap.size, w.heap.size + 1] w2 ((w2.setCell ⟨w.heap.size, 0, none⟩ (.int .i64 (k : Nat))).setCell ⟨w.heap.size + 1, 0, none⟩ (.int .i64 0)) := ((Chg.refl _ _).set' _ _ _ (.inl (by simp))).set' _ _ _ (.inl (by simp))
    have H1 := Lib.hid h1
    have H2 := Lib.hid h2
    have HCC := Lib.hid (((Chg.of_below (S := []) HWB.out).then hc (fun i hi => by simp at hi; exact .inr (by omega))).then gc (fun i hi => by simp at hi; exact .inr (by omega)))
    obtain ⟨u0, uz⟩ := cells1 hb6
    obtain ⟨v0, vz⟩ := cells1 hb7
    obtain ⟨d0, d1, d2, dz⟩ := cells3 hbox
    clear h1 h2 gc hc hb6 hb7 hbox d0 d2 hs
    go_wp2_with fail
    refine leaves_cons (f := 37) (args := #[.pointer (some ⟨w.heap.size, 0, none⟩), .pointer (some ⟨w.heap.size + 1, 0, none⟩)]) (by simp) (by simp [go_sem]) ?_
    refine (sidle_c w.heap.size (w.heap.size + 1) _).mono ?_
    rintro e u' w'' ⟨rfl, rfl, rfl⟩
    refine ⟨_, results_scan _ _ w.heap.size (w.heap.size + 1) _ _ rfl rfl H1.out H2.out, ?_⟩
    exact ⟨rfl, HCC.out.below (Nat.le_refl _) (by simp)⟩
set_option maxRecDepth 100000 in
theorem xskip_c {w : World} (hw : BW w) {v : Value} {xs : List UInt8} (hr : Rd w v xs) (hl : xs.length ≤ 1048576) (at_ : Int) : Calls Tryz.prog 9 #[v, .int .i64 at_] w
    (SkEnd w (skA insP xs at_)) := by
  obtain ⟨p, c, rfl⟩ := rd_form hr
  obtain ⟨L, hL⟩ : ∃ L, L = xs.length := ⟨_, rfl⟩
  rw [← hL] at hr ⊢
  have HSC := Lib.hid (scan_sk hw hr hl at_)
  obtain ⟨⟨k, z⟩, hR⟩ : ∃ R, R = skA insP xs at_ := ⟨_, rfl⟩
  rw [← hR] at HSC ⊢
  clear hr hw hl hR hL
  go_enter Tryz.func9, Tryz.ntmps9
  go_wp2_with fail
  refine HSC.out.mono ?_
  rintro e w2 ⟨rfl, hb⟩
  have HB := Lib.hid hb
  clear hb
  go_wp2_with fail
  go_ret2
  exact ⟨rfl, HB.out⟩
end Go.Proofs.YthlphmldghppmaaGreatDoor

/- xmllex: the reference: begins, find, blanks, name. -/
namespace Go.Proofs.YthlphmldghppmaaGreatDoor
open Go.RowKit
set_option linter.unusedVariables false

theorem prefix_take (xs ms : List UInt8) : Lib.hasPrefix xs ms = (xs.take ms.length == ms) := by
  unfold Lib.hasPrefix
  by_cases h : ms <+: xs
  · rw [List.isPrefixOf_iff_prefix.2 h, List.prefix_iff_eq_take.1 h]
    simp
  · have h1 : ms.isPrefixOf xs = false := by
      cases hb : ms.isPrefixOf xs with
      | false => rfl
      | true => exact absurd (List.isPrefixOf_iff_prefix.1 hb) h
    rw [h1]
    refine (beq_eq_false_iff_ne.2 fun e => h ?_).symm
    rw [← e]
    exact List.take_prefix _ _
theorem slice_to {w : World} {p : Option Addr} {n c : Nat} {xs : List UInt8} (h : Rd w (.slice p n c) xs) (k : Nat) (hk : k ≤ n) :
    ∃ p' m c', (∀ W, (Instr.slice 22 (.slice p n c) none (some (.int .i64 (k : Int))) none).run Tryz.prog W = .ok (.slice p' m c') W) ∧ Rd w (.slice p' m c') (xs.take k) := by
  have hn := h.len
  have h1 := (h.from 0 (by omega)).to (k - 0) (by omega)
  rw [List.drop_zero, Nat.sub_zero] at h1
  obtain ⟨_, _, _, _, hc, _⟩ := rd_in h
  refine ⟨if c = 0 then p else p.map (·.add (0 * 1)), k - 0, c - 0, fun W => ?_, h1⟩
  have ht' : Tryz.prog.underlying 22 = some (.slice (Tryz.prog.elem 22)) := by simp [Program.elem, Tryz.underlying22]
  have he : Tryz.prog.elem 22 = 5 := by simp [Program.elem, Tryz.underlying22]
  rw [run_slice_h W 22 _ _ _ ht' .i64 _ (by omega) (by omega), he, sizeRun8]
  simp only [Result.andThen, sliced, Int.toNat_natCast]
set_option maxRecDepth 100000 in
theorem begins_c (w : World) (v : Value) (xs : List UInt8) (s : ByteArray) (h : Rd w v xs) : Calls Tryz.prog 24 #[v, .string s] w fun e w' => e = .returned (.bool (Lib.hasPrefix xs s.data.toList)) ∧ w' = w := by
  obtain ⟨p, c, rfl⟩ := rd_form h
  obtain ⟨L, hL⟩ : ∃ L, L = xs.length := ⟨_, rfl⟩
  rw [← hL] at h ⊢
  have hsl : s.data.toList.length = s.size := by rw [Array.length_toList]; rfl
  by_cases hle : s.size ≤ L
  · obtain ⟨p', m', c', hs, hr⟩ := slice_to h s.size hle
    have hcv := hr.conv (P := Tryz.prog) 22 5 9 Tryz.underlying22 Tryz.underlying5 Tryz.underlying9
    obtain ⟨X, hX⟩ : ∃ X, X = (⟨(xs.take s.size).toArray⟩ : ByteArray) := ⟨_, rfl⟩
    rw [← hX] at hcv
    obtain ⟨b, hb⟩ : ∃ b, b = Lib.hasPrefix xs s.data.toList := ⟨_, rfl⟩
    have tb : (X.toList == s.toList) = b := by
      rw [hb, prefix_take, hsl, ByteArray.toList_eq, ByteArray.toList_eq, hX]
    rw [← hb]
    have t1 : decide (s.size ≤ L) = true := by simpa using hle
    clear h hr hL hX hb hsl
    go_enter Tryz.func24, Tryz.ntmps24
    go_wp2_with fail
    go_ret
    exact ⟨rfl, rfl⟩
  · have hb : Lib.hasPrefix xs s.data.toList = false := by
      rw [prefix_take]
      refine beq_eq_false_iff_ne.2 fun e => ?_
      have := congrArg List.length e
      rw [List.length_take] at this
      omega
    rw [hb]
    have t1 : decide (s.size ≤ L) = false := by simpa using hle
    clear h hL hb hsl
    go_enter Tryz.func24, Tryz.ntmps24
    go_wp2_with fail
    go_ret
    exact ⟨rfl, rfl⟩
end Go.Proofs.YthlphmldghppmaaGreatDoor

/- xmllex: the reference: find, blanks, name. -/
namespace Go.Proofs.YthlphmldghppmaaGreatDoor
open Go.RowKit
set_option linter.unusedVariables false

def off (i : Int) (k : Nat) : Int := if i < 0 then -1 else i + (k : Nat)
theorem off_hit {xs ms : List UInt8} {k : Nat} (h : Lib.hasPrefix (xs.drop k) ms = true) : off (Lib.index (xs.drop k) ms) k = k := by
  have h0 : Lib.index (xs.drop k) ms = 0 := by
    unfold Lib.hasPrefix at h
    cases hd : xs.drop k with
    | nil =>
      rw [hd] at h
      have : ms = [] := by cases ms with
        | nil => rfl
        | cons a t => simp [List.isPrefixOf] at h
      subst this
      rfl
    | cons a t =>
      rw [hd] at h
      unfold Lib.index
      rw [if_pos h]
  rw [h0]
  unfold off
  rw [if_neg (by omega)]
  omega
theorem off_miss {xs ms : List UInt8} {k : Nat} (hk : k < xs.length) (h : Lib.hasPrefix (xs.drop k) ms = false) : off (Lib.index (xs.drop k) ms) k = off (Lib.index (xs.drop (k + 1)) ms) (k + 1) := by
  have hd : xs.drop k = xs[k] :: xs.drop (k + 1) := List.drop_eq_getElem_cons hk
  rw [hd] at h ⊢
  have hg := Lib.index_ge (xs.drop (k + 1)) ms
  unfold Lib.hasPrefix at h
  conv => lhs; unfold Lib.index
  rw [if_neg (by rw [h]; simp)]
  unfold off
  generalize Lib.index (xs.drop (k + 1)) ms = j at hg ⊢
  by_cases hj : j = -1
  · subst hj
    rfl
  · have : (j == -1) = false := by simpa using hj
    rw [this]
    simp only [Bool.false_eq_true, if_false]
    rw [if_neg (by omega), if_neg (by omega)]
    push_cast
    omega
theorem off_end {ms : List UInt8} {k : Nat} (h : ms ≠ []) : off (Lib.index [] ms) k = -1 := by
  cases ms with
  | nil => exact absurd rfl h
  | cons a t => rfl
set_option maxRecDepth 100000 in
set_option maxHeartbeats 1000000 in
theorem find_c (w : World) (v : Value) (xs : List UInt8) (s : ByteArray) (h : Rd w v xs) (hs : s.data.toList ≠ []) (hl : xs.length ≤ 16777216) : Calls Tryz.prog 25 #[v, .string s] w fun e w' => e = .returned (.int .i64 (Lib.index xs s.data.toList)) ∧ w' = w := by
  obtain ⟨p, c, rfl⟩ := rd_form h
  obtain ⟨L, hL⟩ : ∃ L, L = xs.length := ⟨_, rfl⟩
  rw [← hL] at h hl ⊢
  obtain ⟨ms, hms⟩ : ∃ ms, ms = s.data.toList := ⟨_, rfl⟩
  have HB := Lib.hid (fun (w : World) (v : Value) (xs : List UInt8) (h : Rd w v xs) => begins_c w v xs s h)
  rw [← hms] at hs HB ⊢
  obtain ⟨R, hR⟩ : ∃ R, R = Lib.index xs ms := ⟨_, rfl⟩
  have HI := Lib.hid (show R = off (Lib.index (xs.drop 0) ms) 0 from by
    rw [hR, List.drop_zero]
    have := Lib.index_ge xs ms
    unfold off
    split <;> omega)
  rw [← hR]
  have HL := Lib.hid hL
  have HS := Lib.hid hs
  have HR := Lib.hid h
  clear h hR hms hs hL
  go_enter Tryz.func25, Tryz.ntmps25
  go_wp2_with fail
  go_loopw [8] (fun s8 wr => ∃ k : Nat, s8 = .int .i64 k ∧ k ≤ L ∧ wr = w ∧ Hid (R = off (Lib.index (xs.drop k) ms) k)) (fun s8 _ => L - (intOf s8).toNat)
  case atStart => exact ⟨0, rfl, by omega, rfl, HI⟩
  case round =>
    obtain ⟨k, rfl, hk, rfl, hi⟩ := hrel
    by_cases hkn : k < L
    · obtain ⟨p', m', c', hsl, hr'⟩ := slice_from HR.out k hk
      have HBK := HB.out _ _ _ hr'
      cases hb : Lib.hasPrefix (xs.drop k) ms with
      | true =>
        rw [hb] at HBK
        have HBK := Lib.hid HBK
        have HE := Lib.hid (hi.out.trans (off_hit hb))
        clear hb hi hr'
        go_wp2_with fail
        refine HBK.out.mono ?_
        rintro e w2 ⟨rfl, rfl⟩
        go_wp2_with fail
        go_ret
        exact ⟨by rw [HE.out]; rfl, rfl⟩
      | false =>
        rw [hb] at HBK
        have HBK := Lib.hid HBK
        have HE := Lib.hid (hi.out.trans (off_miss (by have := HL.out; omega) hb))
        clear hb hi hr'
        go_wp2_with fail
        refine HBK.out.mono ?_
        rintro e w2 ⟨rfl, rfl⟩
        go_wp2_with fail
        go_roundw
        case rel => exact ⟨k + 1, by go_num, by omega, by first | rfl | trivial, HE⟩
        case measure => simp [intOf]; omega
    · have HE := Lib.hid (show R = -1 from by rw [hi.out, List.drop_eq_nil_of_le (by have := HL.out; omega)]; exact off_end HS.out)
      clear hi
      go_wp2_with fail
      go_ret
      exact ⟨by rw [HE.out]; rfl, rfl⟩
end Go.Proofs.YthlphmldghppmaaGreatDoor

/- xmllex: the reference: blanks, name. -/
namespace Go.Proofs.YthlphmldghppmaaGreatDoor
open Go.RowKit
set_option linter.unusedVariables false

set_option maxRecDepth 100000 in
set_option maxHeartbeats 1000000 in
theorem rblanks_c (w : World) (v : Value) (xs : List UInt8) (h : Rd w v xs) (hl : xs.length ≤ 16777216) : Calls Tryz.prog 27 #[v] w fun e w' => e = .returned (.int .i64 (blN xs : Nat)) ∧ w' = w := by
  obtain ⟨p, c, rfl⟩ := rd_form h
  obtain ⟨L, hL⟩ : ∃ L, L = xs.length := ⟨_, rfl⟩
  rw [← hL] at h hl ⊢
  obtain ⟨R, hR⟩ : ∃ R, R = blN xs := ⟨_, rfl⟩
  have HI := Lib.hid (show blN (xs.drop 0) + 0 = R from by rw [hR]; rfl)
  rw [← hR]
  have HL := Lib.hid hL
  have hR2 := h
  obtain ⟨p', c', hv, h1, h2, h3, h4⟩ := h
  have hpc : p = p' := by cases hv; rfl
  subst hpc
  have HX := Lib.hid h4
  clear hR hL hR2 h4 hv h1 h2 h3
  go_enter Tryz.func27, Tryz.ntmps27
  go_wp2_with fail
  go_loopw [3] (fun s3 wr => ∃ k : Nat, s3 = .int .i64 k ∧ k ≤ L ∧ wr = w ∧ Hid (blN (xs.drop k) + k = R)) (fun s3 _ => L - (intOf s3).toNat)
  case atStart => exact ⟨0, rfl, by omega, rfl, HI⟩
  case round =>
    obtain ⟨k, rfl, hk, rfl, hi⟩ := hrel
    by_cases hkn : k < L
    · obtain ⟨b, o, hp, hx⟩ := HX.out (by have := HL.out; omega)
      subst hp
      have hx1 := hx k (by have := HL.out; omega)
      obtain ⟨x, hxe⟩ : ∃ x, x = xs[k]'(by have := HL.out; omega) := ⟨_, rfl⟩
      rw [← hxe] at hx1
      have hx256 := x.toNat_lt
      have hkI : (k : Int) < (L : Int) := by omega
      have hd : xs.drop k = x :: xs.drop (k + 1) := by rw [hxe]; exact List.drop_eq_getElem_cons _
      have hi' := hi.out
      rw [hd, blN] at hi'
      cases hsp : spaceB (x.toNat : Int) with
      | true =>
        rw [hsp, if_pos rfl] at hi'
        have HE := Lib.hid (show blN (xs.drop (k + 1)) + (k + 1) = R from by omega)
        have HS := Lib.hid (fun w => rspace_c w (x.toNat : Int))
        rw [hsp] at HS
        clear hi' hi hd hxe hx hsp
        go_wp2_with fail
        refine (HS.out _).mono ?_
        rintro e w2 ⟨rfl, rfl⟩
        go_wp2_with fail
        go_roundw
        case rel => exact ⟨k + 1, by go_num, by omega, by first | rfl | trivial, HE⟩
        case measure => simp [intOf]; omega
      | false =>
        rw [hsp, if_neg (by simp)] at hi'
        have HE := Lib.hid (show k = R from by omega)
        have HS := Lib.hid (fun w => rspace_c w (x.toNat : Int))
        rw [hsp] at HS
        clear hi' hi hd hxe hx hsp
        go_wp2_with fail
        refine (HS.out _).mono ?_
        rintro e w2 ⟨rfl, rfl⟩
        go_wp2_with fail
        go_ret
        exact ⟨by rw [← HE.out]; rfl, rfl⟩
    · have HE := Lib.hid (show k = R from by
        have := hi.out
        rw [List.drop_eq_nil_of_le (by have := HL.out; omega), blN] at this
        omega)
      clear hi
      go_wp2_with fail
      go_ret
      exact ⟨by rw [← HE.out]; rfl, rfl⟩

set_option maxRecDepth 100000 in
set_option maxHeartbeats 1000000 in
theorem rname_c (w : World) (v : Value) (xs : List UInt8) (h : Rd w v xs) (hl : xs.length ≤ 16777216) : Calls Tryz.prog 47 #[v] w fun e w' => e = .returned (.int .i64 (tagR xs : Nat)) ∧ Below w.heap.size w w' := by
  obtain ⟨p, c, rfl⟩ := rd_form h
  obtain ⟨L, hL⟩ : ∃ L, L = xs.length := ⟨_, rfl⟩
  rw [← hL] at h ⊢
  have HN := Lib.hid (nameAt_c w _ xs h (by omega))
  have HR := Lib.hid h
  have hnl := nameAt_le xs
  rw [← hL] at hnl
  obtain ⟨n, hn⟩ : ∃ n, n = nameAt xs := ⟨_, rfl⟩
  rw [← hn] at HN hnl
  have e58 : (⟨#[58]⟩ : ByteArray).data.toList = [58] := rfl
  have HL := Lib.hid (And.intro hL hl)
  clear h hL hl
  by_cases h0 : n = 0
  · have HT := Lib.hid (show tagR xs = n from by unfold tagR; rw [← hn, if_pos (.inl h0)])
    rw [HT.out]
    have t0 : ((n : Int) == 0) = true := by simpa using h0
    clear h0 hn e58
    go_enter Tryz.func47, Tryz.ntmps47
    go_wp2_with fail
    refine HN.out.mono ?_
    rintro e w1 ⟨rfl, hb⟩
    have HB := Lib.hid hb
    clear hb
    go_wp2_with fail
    go_ret
    exact ⟨rfl, HB.out⟩
  · have t0 : ((n : Int) == 0) = false := by simpa using h0
    cases hp : Lib.hasPrefix (xs.drop n) [58] with
    | false =>
      have HT := Lib.hid (show tagR xs = n from by unfold tagR; rw [← hn, if_pos (.inr hp)])
      rw [HT.out]
      have HBG := Lib.hid (fun (wx : World) (v : Value) (h : Rd wx v (xs.drop n)) => begins_c wx v (xs.drop n) ⟨#[58]⟩ h)
      rw [e58, hp] at HBG
      clear h0 hn e58 hp
      go_enter Tryz.func47, Tryz.ntmps47
      go_wp2_with fail
      refine HN.out.mono ?_
      rintro e w1 ⟨rfl, hb⟩
      have HB := Lib.hid hb
      obtain ⟨p1, m1, c1, hs1, hr1⟩ := slice_from (HR.out.below hb) n hnl
      have HBG1 := Lib.hid (HBG.out _ _ hr1)
      clear hb hr1
      go_wp2_with fail
      refine HBG1.out.mono ?_
      rintro e w2 ⟨rfl, rfl⟩
      go_wp2_with fail
      go_ret
      exact ⟨rfl, HB.out⟩
    | true =>
      have hpl := pre_len hp
      rw [List.length_singleton, List.length_drop, ← HL.out.1] at hpl
      have HBG := Lib.hid (fun (wx : World) (v : Value) (h : Rd wx v (xs.drop n)) => begins_c wx v (xs.drop n) ⟨#[58]⟩ h)
      rw [e58, hp] at HBG
      have HN2 := Lib.hid (fun (wx : World) (v : Value) (h : Rd wx v (xs.drop (n + 1))) => nameAt_c wx v (xs.drop (n + 1)) h (by rw [List.length_drop]; have := HL.out; omega))
      obtain ⟨k, hk⟩ : ∃ k, k = nameAt (xs.drop (n + 1)) := ⟨_, rfl⟩
      have hkl := nameAt_le (xs.drop (n + 1))
      rw [← hk] at HN2 hkl
      rw [List.length_drop, ← HL.out.1] at hkl
      have HT0 := Lib.hid (show tagR xs = if k = 0 then n else n + 1 + k from by unfold tagR; rw [← hn, ← hk, if_neg (by rw [hp]; simp [h0])])
      rw [HT0.out]
      have hL2 := HL.out.2
      rw [← HL.out.1] at hL2
      by_cases hk0 : k = 0
      · rw [if_pos hk0]
        have t1 : ((k : Int) == 0) = true := by simpa using hk0
        clear h0 hn e58 hp hk hk0
        go_enter Tryz.func47, Tryz.ntmps47
        go_wp2_with fail
        refine HN.out.mono ?_
        rintro e w1 ⟨rfl, hb⟩
        have HB := Lib.hid hb
        obtain ⟨p1, m1, c1, hs1, hr1⟩ := slice_from (HR.out.below hb) n hnl
        obtain ⟨p2, m2, c2, hs2, hr2⟩ := slice_from (HR.out.below hb) (n + 1) (by omega)
        rw [show ((n + 1 : Nat) : Int) = (n : Int) + 1 by omega] at hs2
        have HBG1 := Lib.hid (HBG.out _ _ hr1)
        have HN21 := Lib.hid (HN2.out _ _ hr2)
        clear hb hr1 hr2
        go_wp2_with fail
        refine HBG1.out.mono ?_
        rintro e w2 ⟨rfl, rfl⟩
        go_wp2_with fail
        refine HN21.out.mono ?_
        rintro e w3 ⟨rfl, hb3⟩
        have HB3 := Lib.hid (HB.out.trans (hb3.mono HB.out.size))
        clear hb3
        go_wp2_with fail
        go_ret
        exact ⟨rfl, HB3.out⟩
      · rw [if_neg hk0]
        have t1 : ((k : Int) == 0) = false := by simpa using hk0
        clear h0 hn e58 hp hk hk0
        go_enter Tryz.func47, Tryz.ntmps47
        go_wp2_with fail
        refine HN.out.mono ?_
        rintro e w1 ⟨rfl, hb⟩
        have HB := Lib.hid hb
        obtain ⟨p1, m1, c1, hs1, hr1⟩ := slice_from (HR.out.below hb) n hnl
        obtain ⟨p2, m2, c2, hs2, hr2⟩ := slice_from (HR.out.below hb) (n + 1) (by omega)
        rw [show ((n + 1 : Nat) : Int) = (n : Int) + 1 by omega] at hs2
        have HBG1 := Lib.hid (HBG.out _ _ hr1)
        have HN21 := Lib.hid (HN2.out _ _ hr2)
        clear hb hr1 hr2
        go_wp2_with fail
        refine HBG1.out.mono ?_
        rintro e w2 ⟨rfl, rfl⟩
        go_wp2_with fail
        refine HN21.out.mono ?_
        rintro e w3 ⟨rfl, hb3⟩
        have HB3 := Lib.hid (HB.out.trans (hb3.mono HB.out.size))
        clear hb3
        go_wp2_with fail
        go_ret
        exact ⟨by first | rfl | (congr 2; omega), HB3.out⟩
end Go.Proofs.YthlphmldghppmaaGreatDoor

/- xmllex: the reference: digit. -/
namespace Go.Proofs.YthlphmldghppmaaGreatDoor
open Go.RowKit
set_option linter.unusedVariables false

def digI (B m : Nat) : Int := let n := if 48 ≤ m ∧ m ≤ 57 then m - 48 else if 97 ≤ m ∧ m ≤ 102 then m - 87 else if 65 ≤ m ∧ m ≤ 70 then m - 55 else 99
  if n < B then (n : Nat) else -1
theorem digI_dgt (B : Nat) (c : UInt8) : (digI B c.toNat = -1 ∧ dgt B c = none) ∨ ∃ k : Nat, digI B c.toNat = k ∧ dgt B c = some k := by
  unfold digI dgt
  dsimp only
  generalize (if 48 ≤ c.toNat ∧ c.toNat ≤ 57 then c.toNat - 48 else if 97 ≤ c.toNat ∧ c.toNat ≤ 102 then c.toNat - 87 else if 65 ≤ c.toNat ∧ c.toNat ≤ 70 then c.toNat - 55 else 99) = n
  by_cases h : n < B
  · rw [if_pos h, if_pos h]
    exact .inr ⟨n, rfl, rfl⟩
  · rw [if_neg h, if_neg h]
    exact .inl ⟨rfl, rfl⟩
set_option maxRecDepth 100000 in
set_option maxHeartbeats 2000000 in
theorem digit_c (w : World) (m : Nat) (hm : m < 256) (B : Nat) (hB : B = 10 ∨ B = 16) : Calls Tryz.prog 96 #[.int .u8 (m : Int), .int .i64 (B : Nat)] w fun e w' => e = .returned (.int .i64 (digI B m)) ∧ w' = w := by
  by_cases h1 : 48 ≤ m ∧ m ≤ 57
  · have hD := Lib.hid (show digI B m = ((m : Int) - 48) % 256 from by unfold digI; dsimp only; rw [if_pos h1, if_pos (by omega)]; omega)
    obtain ⟨h1, h2⟩ := h1
    have k48 : decide ((48 : Int) ≤ (m : Int)) = true := by simp; omega
    have k57 : decide ((m : Int) ≤ 57) = true := by simp; omega
    have k97 : decide ((97 : Int) ≤ (m : Int)) = false := by simp; omega
    have k65 : decide ((65 : Int) ≤ (m : Int)) = false := by simp; omega
    have kB : decide ((B : Int) ≤ ((m : Int) - 48) % 256) = false := by simp; omega
    rw [hD.out]
    clear hB h1 h2
    go_enter Tryz.func96, Tryz.ntmps96
    go_wp2_with fail
    go_ret
    exact ⟨rfl, rfl⟩
  by_cases h2 : 97 ≤ m ∧ m ≤ 102
  · obtain ⟨h3, h4⟩ := h2
    have k48 : decide ((48 : Int) ≤ (m : Int)) = true := by simp; omega
    have k57 : decide ((m : Int) ≤ 57) = false := by simp; omega
    have k97 : decide ((97 : Int) ≤ (m : Int)) = true := by simp; omega
    have k102 : decide ((m : Int) ≤ 102) = true := by simp; omega
    have k65 : decide ((65 : Int) ≤ (m : Int)) = true := by simp; omega
    have k70 : decide ((m : Int) ≤ 70) = false := by simp; omega
    by_cases hb : m - 87 < B
    · have hD := Lib.hid (show digI B m = ((m : Int) - 97) % 256 + 10 from by unfold digI; dsimp only; rw [if_neg h1, if_pos (show 97 ≤ m ∧ m ≤ 102 from ⟨h3, h4⟩), if_pos hb]; omega)
      have kB : decide ((B : Int) ≤ ((m : Int) - 97) % 256 + 10) = false := by simp; omega
      rw [hD.out]
      clear hB h1 h3 h4 hb
      go_enter Tryz.func96, Tryz.ntmps96
      go_wp2_with fail
      go_ret
      exact ⟨rfl, rfl⟩
    · have hD := Lib.hid (show digI B m = -1 from by unfold digI; dsimp only; rw [if_neg h1, if_pos (show 97 ≤ m ∧ m ≤ 102 from ⟨h3, h4⟩), if_neg hb])
      have kB : decide ((B : Int) ≤ ((m : Int) - 97) % 256 + 10) = true := by simp; omega
      rw [hD.out]
      clear hB h1 h3 h4 hb
      go_enter Tryz.func96, Tryz.ntmps96
      go_wp2_with fail
      go_ret
      exact ⟨rfl, rfl⟩
  by_cases h5 : 65 ≤ m ∧ m ≤ 70
  · obtain ⟨h3, h4⟩ := h5
    have k48 : decide ((48 : Int) ≤ (m : Int)) = true := by simp; omega
    have k57 : decide ((m : Int) ≤ 57) = false := by simp; omega
    have k97 : decide ((97 : Int) ≤ (m : Int)) = false := by simp; omega
    have k102 : decide ((m : Int) ≤ 102) = true := by simp; omega
    have k65 : decide ((65 : Int) ≤ (m : Int)) = true := by simp; omega
    have k70 : decide ((m : Int) ≤ 70) = true := by simp; omega
    by_cases hb : m - 55 < B
    · have hD := Lib.hid (show digI B m = ((m : Int) - 65) % 256 + 10 from by unfold digI; dsimp only; rw [if_neg h1, if_neg h2, if_pos (show 65 ≤ m ∧ m ≤ 70 from ⟨h3, h4⟩), if_pos hb]; omega)
      have kB : decide ((B : Int) ≤ ((m : Int) - 65) % 256 + 10) = false := by simp; omega
      rw [hD.out]
      clear hB h1 h2 h3 h4 hb
      go_enter Tryz.func96, Tryz.ntmps96
      go_wp2_with fail
      go_ret
      exact ⟨rfl, rfl⟩
    · have hD := Lib.hid (show digI B m = -1 from by unfold digI; dsimp only; rw [if_neg h1, if_neg h2, if_pos (show 65 ≤ m ∧ m ≤ 70 from ⟨h3, h4⟩), if_neg hb])
      have kB : decide ((B : Int) ≤ ((m : Int) - 65) % 256 + 10) = true := by simp; omega
      rw [hD.out]
      clear hB h1 h2 h3 h4 hb
      go_enter Tryz.func96, Tryz.ntmps96
      go_wp2_with fail
      go_ret
      exact ⟨rfl, rfl⟩
  have hD := Lib.hid (show digI B m = -1 from by unfold digI; dsimp only; rw [if_neg h1, if_neg h2, if_neg h5, if_neg (by omega)])
  have kB : decide ((B : Int) ≤ -1) = false := by simp; omega
  rw [hD.out]
  obtain ⟨q1, hq1⟩ : ∃ q, decide ((48 : Int) ≤ (m : Int)) = q := ⟨_, rfl⟩
  obtain ⟨q2, hq2⟩ : ∃ q, decide ((m : Int) ≤ 57) = q := ⟨_, rfl⟩
  obtain ⟨q3, hq3⟩ : ∃ q, decide ((97 : Int) ≤ (m : Int)) = q := ⟨_, rfl⟩
  obtain ⟨q4, hq4⟩ : ∃ q, decide ((m : Int) ≤ 102) = q := ⟨_, rfl⟩
  obtain ⟨q5, hq5⟩ : ∃ q, decide ((65 : Int) ≤ (m : Int)) = q := ⟨_, rfl⟩
  obtain ⟨q6, hq6⟩ : ∃ q, decide ((m : Int) ≤ 70) = q := ⟨_, rfl⟩
  have HQ := Lib.hid (show (q1 && q2) = false ∧ (q3 && q4) = false ∧ (q5 && q6) = false from by
    rw [← hq1, ← hq2, ← hq3, ← hq4, ← hq5, ← hq6]
    refine ⟨?_, ?_, ?_⟩ <;> (simp; omega))
  clear hB h1 h2 h5
  cases q1 <;> cases q2 <;> cases q3 <;> cases q4 <;> cases q5 <;> cases q6
  all_goals first
    | (exfalso; have := HQ.out; simp at this; done)
    | (go_enter Tryz.func96, Tryz.ntmps96
       go_wp2_with fail
       go_ret
       exact ⟨rfl, rfl⟩)
end Go.Proofs.YthlphmldghppmaaGreatDoor

/- xmllex: the reference: numbered. -/
namespace Go.Proofs.YthlphmldghppmaaGreatDoor
open Go.RowKit
set_option linter.unusedVariables false

/-- The number of digits, as the reference reads it. -/
def numR (B : Nat) : Nat → List UInt8 → Option Nat
  | n, [] => some n
  | n, c :: r => match dgt B c with
    | none => none
    | some k => if 1073741824 < n then none else numR B (n * B + k) r
def keepX (o : Option Nat) : Option Nat := o.bind fun n => if xmlB n then some n else none
theorem xml_top {n : Nat} (h : 4294967295 < n) : xmlB n = false := by
  have h1 : spaceB (n : Int) = false := by
    show ((n : Int) == 9 || (n : Int) == 10 || (n : Int) == 13 || (n : Int) == 32) = false
    simp
    omega
  unfold xmlB
  rw [h1]
  simp [btw]
  omega
theorem dgt_lt {B : Nat} {c : UInt8} {k : Nat} (h : dgt B c = some k) : k < B := by
  unfold dgt at h
  dsimp only at h
  generalize (if 48 ≤ c.toNat ∧ c.toNat ≤ 57 then c.toNat - 48 else if 97 ≤ c.toNat ∧ c.toNat ≤ 102 then c.toNat - 87 else if 65 ≤ c.toNat ∧ c.toNat ≤ 70 then c.toNat - 55 else 99) = n at h
  by_cases hlt : n < B
  · rw [if_pos hlt] at h
    cases h
    exact hlt
  · rw [if_neg hlt] at h
    cases h
theorem num_big {B : Nat} (hB : B = 10 ∨ B = 16) : ∀ (r : List UInt8) (n : Nat), 4294967295 < n → keepX (numR B n r) = none
  | [], n, h => by
    show (if xmlB n then some n else none) = none
    rw [xml_top h]
    rfl
  | c :: r, n, h => by
    rw [numR]
    cases dgt B c with
    | none => rfl
    | some k =>
      dsimp only
      rw [if_pos (by omega)]
      rfl
theorem num_eq {B : Nat} (hB : B = 10 ∨ B = 16) : ∀ (r : List UInt8) (n : Nat), keepX (numR B n r) = keepX (numB B 4294967295 n r)
  | [], n => rfl
  | c :: r, n => by
    rw [numR, numB]
    cases hd : dgt B c with
    | none => rfl
    | some k =>
      dsimp only
      by_cases h : 1073741824 < n
      · rw [if_pos h, if_pos (by rcases hB with rfl | rfl <;> omega)]
      · rw [if_neg h]
        by_cases h2 : 4294967295 < n * B + k
        · rw [if_pos h2, num_big hB _ _ h2]
          rfl
        · rw [if_neg h2]
          exact num_eq hB r _
theorem chNum_R {B : Nat} (hB : B = 10 ∨ B = 16) (r : List UInt8) : chNum B r = if r = [] then none else keepX (numR B 0 r) := by
  unfold chNum
  rw [num_eq hB]
  split
  · rfl
  · unfold keepX
    cases numB B 4294967295 0 r <;> rfl
def NumEnd (w : World) (R : Option Nat) (e : Ending) (w' : World) : Prop :=
  (match R with
  | some n => e = .returned (.tuple #[.int .i64 (n : Nat), .bool true])
  | none => ∃ v : Int, e = .returned (.tuple #[.int .i64 v, .bool false])) ∧ Below w.heap.size w w'
set_option maxRecDepth 100000 in
set_option maxHeartbeats 2000000 in
theorem rnumbered_c (w : World) (v : Value) (xs : List UInt8) (h : Rd w v xs) (hl : xs.length ≤ 16777216) (B : Nat) (hB : B = 10 ∨ B = 16) : Calls Tryz.prog 81 #[v, .int .i64 (B : Nat)] w (NumEnd w (chNum B xs)) := by
  obtain ⟨p, c, rfl⟩ := rd_form h
  obtain ⟨L, hL⟩ : ∃ L, L = xs.length := ⟨_, rfl⟩
  rw [← hL] at h hl ⊢
  have hC := chNum_R hB xs
  obtain ⟨R, hR⟩ : ∃ R, R = chNum B xs := ⟨_, rfl⟩
  rw [← hR] at hC ⊢
  have HC := Lib.hid hC
  have HL := Lib.hid hL
  have HBB := Lib.hid hB
  obtain ⟨p', c', hv, h1, h2, h3, h4⟩ := h
  have hpc : p = p' := by cases hv; rfl
  subst hpc
  have HX := Lib.hid h4
  have HD := Lib.hid (fun w (c : UInt8) => digit_c w c.toNat c.toNat_lt B hB)
  have hB16 : B ≤ 16 := by omega
  clear hC hR hL h4 hv h1 h2 h3
  rcases hB with rfl | rfl
  all_goals
    go_enter Tryz.func81, Tryz.ntmps81
    go_wp2_with fail
    go_loopw [6, 12] (fun s6 s12 wr => ∃ k acc : Nat, s6 = .int .i64 acc ∧ s12 = .int .i64 k ∧ k ≤ L ∧ acc ≤ 17179869200 ∧ wr = w ∧ Hid (numR _ 0 xs = numR _ acc (xs.drop k))) (fun _ s12 _ => L - (intOf s12).toNat)
    case atStart => exact ⟨0, 0, rfl, rfl, by omega, by omega, rfl, Lib.hid rfl⟩
    case round =>
      obtain ⟨k, acc, rfl, rfl, hk, hac, rfl, hi⟩ := hrel
      by_cases hkn : k < L
      · obtain ⟨b, o, hp, hx⟩ := HX.out (by have := HL.out; omega)
        subst hp
        have hx1 := hx k (by have := HL.out; omega)
        obtain ⟨x, hxe⟩ : ∃ x, x = xs[k]'(by have := HL.out; omega) := ⟨_, rfl⟩
        rw [← hxe] at hx1
        have hx256 := x.toNat_lt
        have hkI : (k : Int) < (L : Int) := by omega
        have hd : xs.drop k = x :: xs.drop (k + 1) := by rw [hxe]; exact List.drop_eq_getElem_cons _
        have hi' := hi.out
        rw [hd, numR] at hi'
        have hne : xs ≠ [] := by intro e; have := HL.out; rw [e] at this; simp at this; omega
        have HDX := HD.out wr x
        rcases digI_dgt _ x with ⟨g1, g2⟩ | ⟨d, g1, g2⟩
        · rw [g1] at HDX
          rw [g2] at hi'
          have HE := Lib.hid (show R = none from by rw [HC.out, if_neg hne, hi']; rfl)
          have HDX := Lib.hid HDX
          clear hi' hi hd hxe hx g1 g2 hne
          go_wp2_with fail
          refine HDX.out.mono ?_
          rintro e w2 ⟨rfl, rfl⟩
          go_wp2_with fail
          go_ret2
          rw [HE.out]
          exact ⟨⟨_, rfl⟩, Below.refl _ _⟩
        · rw [g1] at HDX
          rw [g2] at hi'
          have HDX := Lib.hid HDX
          have hdl := dgt_lt g2
          have td : decide ((d : Int) < 0) = false := by simp
          dsimp only at hi'
          by_cases hov : 1073741824 < acc
          · rw [if_pos hov] at hi'
            have HE := Lib.hid (show R = none from by rw [HC.out, if_neg hne, hi']; rfl)
            have ti : (1073741824 : Int) < (acc : Int) := by omega
            clear hi' hi hd hxe hx g1 g2 hne
            go_wp2_with fail
            refine HDX.out.mono ?_
            rintro e w2 ⟨rfl, rfl⟩
            go_wp2_with fail
            go_ret2
            rw [HE.out]
            exact ⟨⟨_, rfl⟩, Below.refl _ _⟩
          · rw [if_neg hov] at hi'
            have HE := Lib.hid hi'
            have ti : ¬ (1073741824 : Int) < (acc : Int) := by omega
            clear hi' hi hd hxe hx g1 g2 hne
            go_wp2_with fail
            refine HDX.out.mono ?_
            rintro e w2 ⟨rfl, rfl⟩
            go_wp2_with fail
            go_roundw
            case rel => exact ⟨k + 1, _, by go_num, by go_num, by omega, by omega, by first | rfl | trivial, HE⟩
            case measure => simp [intOf]; omega
      · have hi' := hi.out
        rw [List.drop_eq_nil_of_le (by have := HL.out; omega), numR] at hi'
        by_cases h0 : L = 0
        · have HE := Lib.hid (show R = none from by rw [HC.out, if_pos (List.eq_nil_of_length_eq_zero (by have := HL.out; omega))])
          clear hi hi'
          subst h0
          go_wp2_with fail
          go_ret2
          rw [HE.out]
          exact ⟨⟨_, rfl⟩, Below.refl _ _⟩
        · have hne : xs ≠ [] := by intro e; have := HL.out; rw [e] at this; simp at this; omega
          have HE := Lib.hid (show R = if xmlB acc then some acc else none from by rw [HC.out, if_neg hne, hi']; rfl)
          have hLp : 0 < L := by omega
          have HXM := ofXML_c wr (acc : Int)
          obtain ⟨q, hq⟩ : ∃ q, q = xmlB acc := ⟨_, rfl⟩
          rw [← hq] at HE HXM
          have HXM := Lib.hid HXM
          clear hi hi' hne hq
          go_wp2_with fail
          refine HXM.out.mono ?_
          rintro e w2 ⟨rfl, hb⟩
          have HB := Lib.hid hb
          clear hb
          go_wp2_with fail
          go_ret2
          rw [HE.out]
          cases q
          · exact ⟨⟨_, rfl⟩, HB.out⟩
          · exact ⟨rfl, HB.out⟩
end Go.Proofs.YthlphmldghppmaaGreatDoor

/- xmllex: the reference: a reference's body. -/
namespace Go.Proofs.YthlphmldghppmaaGreatDoor
open Go.RowKit
set_option linter.unusedVariables false

theorem refB_rest {s : List UInt8} (hne : ∀ l, l ∈ [[108, 116], [103, 116], [97, 109, 112], [97, 112, 111, 115], [113, 117, 111, 116]] → s ≠ l) : refB s = if Lib.hasPrefix s [35, 120] then chNum 16 (s.drop 2) else if Lib.hasPrefix s [35] then chNum 10 (s.drop 1) else none := by
  unfold refB
  rw [if_neg (hne _ (by simp)), if_neg (hne _ (by simp)), if_neg (hne _ (by simp)), if_neg (hne _ (by simp)), if_neg (hne _ (by simp))]
set_option maxRecDepth 100000 in
set_option maxHeartbeats 2000000 in
theorem rreference_c (w : World) (v : Value) (xs : List UInt8) (h : Rd w v xs) (hl : xs.length ≤ 16777216) : Calls Tryz.prog 58 #[v] w (NumEnd w (refB xs)) := by
  obtain ⟨p, c, rfl⟩ := rd_form h
  obtain ⟨L, hL⟩ : ∃ L, L = xs.length := ⟨_, rfl⟩
  have hcv := h.conv (P := Tryz.prog) 22 5 9 Tryz.underlying22 Tryz.underlying5 Tryz.underlying9
  by_cases hn : isNm xs
  · rw [← hL] at hcv ⊢
    clear h hl hL
    rcases hn with rfl | rfl | rfl | rfl | rfl
    all_goals
      go_enter Tryz.func58, Tryz.ntmps58
      go_wp2_with fail
      go_ret2
      exact ⟨rfl, Below.refl _ _⟩
  · have hne : ∀ l, l ∈ [[108, 116], [103, 116], [97, 109, 112], [97, 112, 111, 115], [113, 117, 111, 116]] → xs ≠ l := fun l hl e => hn (by subst e; unfold isNm; simpa using hl)
    obtain ⟨s, hs'⟩ : ∃ s, s = (⟨xs.toArray⟩ : ByteArray) := ⟨_, rfl⟩
    have hsl : ∀ l : List UInt8, xs ≠ l → (s.toList == l) = false := fun l hl => beq_eq_false_iff_ne.2 (by rw [ByteArray.toList_eq, hs']; exact hl)
    have t1 := hsl [108, 116] (hne _ (by simp))
    have t2 := hsl [103, 116] (hne _ (by simp))
    have t3 := hsl [97, 109, 112] (hne _ (by simp))
    have t4 := hsl [97, 112, 111, 115] (hne _ (by simp))
    have t5 := hsl [113, 117, 111, 116] (hne _ (by simp))
    rw [← hs'] at hcv
    have HRB := Lib.hid (refB_rest hne)
    rw [← hL] at h hl hcv ⊢
    have HB2 := begins_c w _ xs ⟨#[35, 120]⟩ h
    have HB1 := begins_c w _ xs ⟨#[35]⟩ h
    rw [show (⟨#[35, 120]⟩ : ByteArray).data.toList = [35, 120] from rfl] at HB2
    rw [show (⟨#[35]⟩ : ByteArray).data.toList = [35] from rfl] at HB1
    rw [HRB.out]
    cases h2 : Lib.hasPrefix xs [35, 120] with
    | true =>
      have hp2 := pre_len h2
      have hp2' : 2 ≤ L := by rw [hL]; simpa using hp2
      obtain ⟨p1, m1, c1, hs1, hr1⟩ := slice_from h 2 hp2'
      rw [show ((2 : Nat) : Int) = 2 from rfl] at hs1
      have HNM := Lib.hid (rnumbered_c w _ (xs.drop 2) hr1 (by rw [List.length_drop]; omega) 16 (.inr rfl))
      rw [if_pos rfl]
      rw [h2] at HB2
      obtain ⟨R, hR⟩ : ∃ R, R = chNum 16 (xs.drop 2) := ⟨_, rfl⟩
      rw [← hR] at HNM ⊢
      have HB2 := Lib.hid HB2
      clear h hne hsl hs' hn HB1 h2 hp2 hp2' hr1 hR hL hl
      go_enter Tryz.func58, Tryz.ntmps58
      go_wp2_with fail
      refine HB2.out.mono ?_
      rintro e w2 ⟨rfl, rfl⟩
      go_wp2_with fail
      refine HNM.out.mono ?_
      rintro e w3 ⟨he, hb⟩
      have HB := Lib.hid hb
      clear hb
      cases R with
      | none =>
        obtain ⟨u, rfl⟩ := he
        go_wp2_with fail
        go_ret2
        exact ⟨⟨u, rfl⟩, HB.out⟩
      | some n =>
        dsimp only at he
        subst he
        go_wp2_with fail
        go_ret2
        exact ⟨rfl, HB.out⟩
    | false =>
      rw [if_neg (by simp)]
      rw [h2] at HB2
      have HB2 := Lib.hid HB2
      cases h1 : Lib.hasPrefix xs [35] with
      | true =>
        have hp2 := pre_len h1
        have hp2' : 1 ≤ L := by rw [hL]; simpa using hp2
        obtain ⟨p1, m1, c1, hs1, hr1⟩ := slice_from h 1 hp2'
        rw [show ((1 : Nat) : Int) = 1 from rfl] at hs1
        have HNM := Lib.hid (rnumbered_c w _ (xs.drop 1) hr1 (by rw [List.length_drop]; omega) 10 (.inl rfl))
        rw [if_pos rfl]
        rw [h1] at HB1
        obtain ⟨R, hR⟩ : ∃ R, R = chNum 10 (xs.drop 1) := ⟨_, rfl⟩
        rw [← hR] at HNM ⊢
        have HB1 := Lib.hid HB1
        clear h hne hsl hs' hn h1 h2 hp2 hp2' hr1 hR hL hl
        go_enter Tryz.func58, Tryz.ntmps58
        go_wp2_with fail
        refine HB2.out.mono ?_
        rintro e w2 ⟨rfl, rfl⟩
        go_wp2_with fail
        refine HB1.out.mono ?_
        rintro e w4 ⟨rfl, rfl⟩
        go_wp2_with fail
        refine HNM.out.mono ?_
        rintro e w3 ⟨he, hb⟩
        have HB := Lib.hid hb
        clear hb
        cases R with
        | none =>
          obtain ⟨u, rfl⟩ := he
          go_wp2_with fail
          go_ret2
          exact ⟨⟨u, rfl⟩, HB.out⟩
        | some n =>
          dsimp only at he
          subst he
          go_wp2_with fail
          go_ret2
          exact ⟨rfl, HB.out⟩
      | false =>
        rw [if_neg (by simp)]
        rw [h1] at HB1
        have HB1 := Lib.hid HB1
        clear h hne hsl hs' hn h1 h2 hL hl
        go_enter Tryz.func58, Tryz.ntmps58
        go_wp2_with fail
        refine HB2.out.mono ?_
        rintro e w2 ⟨rfl, rfl⟩
        go_wp2_with fail
        refine HB1.out.mono ?_
        rintro e w4 ⟨rfl, rfl⟩
        go_wp2_with fail
        go_ret2
        exact ⟨⟨_, rfl⟩, Below.refl _ _⟩
end Go.Proofs.YthlphmldghppmaaGreatDoor

/- xmllex: the reference: Skip. -/
namespace Go.Proofs.YthlphmldghppmaaGreatDoor
open Go.RowKit
set_option linter.unusedVariables false

theorem pre_cons {q : UInt8} {r m : List UInt8} : Lib.hasPrefix (q :: r) (q :: m) = Lib.hasPrefix r m := by
  unfold Lib.hasPrefix
  simp [List.isPrefixOf]
/-- Behind the first -- stands a > or not. -/
theorem com_mark {t : List UInt8} {n : Nat} (h : Lib.index t [45, 45] = n) : Lib.hasPrefix (t.drop n) [45, 45, 62] = Lib.hasPrefix (t.drop (n + 2)) [62] := by
  have hp : Lib.hasPrefix (t.drop n) [45, 45] = true := by
    rcases Lib.index_spec t [45, 45] with h1 | ⟨i, h1, h2⟩
    · have := h1.1
      omega
    · obtain rfl : i = n := by omega
      exact h2.2.1
  obtain ⟨u, hu⟩ : ∃ u, t.drop n = 45 :: 45 :: u := by
    unfold Lib.hasPrefix at hp
    obtain ⟨u, hu⟩ := List.isPrefixOf_iff_prefix.1 hp
    exact ⟨u, by rw [← hu]; rfl⟩
  rw [← List.drop_drop, hu, pre_cons, pre_cons]
  rfl

theorem skp_go {g k n : Nat} {r : List UInt8} {ins : List UInt8 → Option Nat} (h1 : Lib.hasPrefix r [60, 33, 45, 45] = true) (h2 : comP (r.drop 4) = some n) : skpF ins (g + 1) r k = skpF ins g (r.drop (4 + n)) (k + 4 + n) := by rw [skp_com h1, h2]
theorem skp_no {g k : Nat} {r : List UInt8} {ins : List UInt8 → Option Nat} (h1 : Lib.hasPrefix r [60, 33, 45, 45] = true) (h2 : comP (r.drop 4) = none) : skpF ins (g + 1) r k = (k, false) := by rw [skp_com h1, h2]
theorem ski_go {g k n : Nat} {r : List UInt8} {ins : List UInt8 → Option Nat} (h0 : Lib.hasPrefix r [60, 33, 45, 45] = false) (h1 : Lib.hasPrefix r [60, 63] = true) (h2 : ins (r.drop 2) = some n) : skpF ins (g + 1) r k = skpF ins g (r.drop (2 + n)) (k + 2 + n) := by rw [skp_ins h0 h1, h2]
theorem ski_no {g k : Nat} {r : List UInt8} {ins : List UInt8 → Option Nat} (h0 : Lib.hasPrefix r [60, 33, 45, 45] = false) (h1 : Lib.hasPrefix r [60, 63] = true) (h2 : ins (r.drop 2) = none) : skpF ins (g + 1) r k = (k, false) := by rw [skp_ins h0 h1, h2]
def sEnd (R : Nat × Bool) : Nat × Nat := match R with
  | (k, false) => (k, 11)
  | (k, true) => (k, 0)
theorem skA_in {ins : List UInt8 → Option Nat} {xs : List UInt8} {a : Nat} (h : a ≤ xs.length) : skA ins xs (a : Int) = sEnd (skpF ins (xs.length + 1) (xs.drop a) a) := by
  unfold skA
  rw [if_neg (by omega)]
  rfl
def RskI (w : World) (xs : List UInt8) (R : Nat × Bool) (k : Nat) (wr : World) : Prop := ∃ g, xs.length - k < g ∧ skpF insR g (xs.drop k) k = R ∧ Below w.heap.size w wr
set_option maxRecDepth 100000 in
set_option maxHeartbeats 4000000 in
theorem rskip_c (w : World) (v : Value) (xs : List UInt8) (h : Rd w v xs) (hl : xs.length ≤ 16777216) (at_ : Int) : Calls Tryz.prog 10 #[v, .int .i64 at_] w (SkEnd w (skA insR xs at_)) := by
  obtain ⟨p, c, rfl⟩ := rd_form h
  obtain ⟨L, hL⟩ : ∃ L, L = xs.length := ⟨_, rfl⟩
  by_cases ho : at_ < 0 ∨ (xs.length : Int) < at_
  · rw [show skA insR xs at_ = (0, 1) from by unfold skA; rw [if_pos ho], ← hL]
    rw [← hL] at ho
    clear h hl hL
    by_cases h0 : at_ < 0
    · have t0 : decide (at_ < 0) = true := by simpa using h0
      clear ho
      go_enter Tryz.func10, Tryz.ntmps10
      go_wp2_with fail
      go_ret2
      exact ⟨rfl, Below.refl _ _⟩
    · have t0 : decide (at_ < 0) = false := by simpa using h0
      have t1 : decide ((L : Int) < at_) = true := by simp; omega
      clear ho
      go_enter Tryz.func10, Tryz.ntmps10
      go_wp2_with fail
      go_ret2
      exact ⟨rfl, Below.refl _ _⟩
  obtain ⟨a, rfl⟩ : ∃ a : Nat, at_ = (a : Int) := ⟨at_.toNat, by omega⟩
  rw [skA_in (by omega)]
  obtain ⟨R, hR⟩ : ∃ R, R = skpF insR (xs.length + 1) (xs.drop a) a := ⟨_, rfl⟩
  have HI := Lib.hid (show RskI w xs R a w from ⟨xs.length + 1, by omega, hR.symm, Below.refl _ _⟩)
  have haL : a ≤ L := by omega
  rw [← hR]
  rw [← hL] at h hl ⊢
  have HL := Lib.hid hL
  have HR := Lib.hid h
  have t0 : decide ((a : Int) < 0) = false := by simp
  have t1 : ¬ L < a := by omega
  have t2 : decide (L < a) = false := by simpa using t1
  clear h hL hR ho
  go_enter Tryz.func10, Tryz.ntmps10
  go_wp2_with fail
  go_loopw [1] (fun s1 wr => ∃ k : Nat, s1 = .int .i64 k ∧ k ≤ L ∧ RskI w xs R k wr) (fun s1 _ => L - (intOf s1).toNat)
  case atStart => exact ⟨a, rfl, haL, HI.out⟩
  case round =>
    obtain ⟨k, rfl, hk, g, hg, hsk, hb⟩ := hrel
    obtain ⟨g, rfl⟩ : ∃ q, g = q + 1 := ⟨g - 1, by omega⟩
    have HB := Lib.hid hb
    have HG := Lib.hid hg
    obtain ⟨p1, m1, c1, hs1, hr1⟩ := slice_from (HR.out.below hb) k hk
    have hm1 := hr1.len
    rw [List.length_drop, ← HL.out] at hm1
    have HBC := begins_c wr _ (xs.drop k) ⟨#[60, 33, 45, 45]⟩ hr1
    rw [show (⟨#[60, 33, 45, 45]⟩ : ByteArray).data.toList = [60, 33, 45, 45] from rfl] at HBC
    have HBI := begins_c wr _ (xs.drop k) ⟨#[60, 63]⟩ hr1
    rw [show (⟨#[60, 63]⟩ : ByteArray).data.toList = [60, 63] from rfl] at HBI
    cases h1 : Lib.hasPrefix (xs.drop k) [60, 33, 45, 45] with
    | true =>
      rw [h1] at HBC
      have HBC := Lib.hid HBC
      have hpl := pre_len h1
      rw [List.length_drop, ← HL.out] at hpl
      have hpl : k + 4 ≤ L := by simp at hpl; omega
      obtain ⟨p2, m2, c2, hs2, hr2⟩ := slice_from hr1 4 (by omega)
      rw [show ((4 : Nat) : Int) = 4 from rfl] at hs2
      rw [List.drop_drop] at hr2
      have HFD := find_c wr _ (xs.drop (k + 4)) ⟨#[45, 45]⟩ hr2 (by decide) (by rw [List.length_drop, ← HL.out]; omega)
      rw [show (⟨#[45, 45]⟩ : ByteArray).data.toList = [45, 45] from rfl] at HFD
      by_cases hi : Lib.index (xs.drop (k + 4)) [45, 45] < 0
      · have HE := Lib.hid (show (k, false) = R from by rw [← hsk, skp_no h1 (by rw [List.drop_drop]; unfold comP; rw [if_pos hi])])
        obtain ⟨j, hj⟩ : ∃ j, j = Lib.index (xs.drop (k + 4)) [45, 45] := ⟨_, rfl⟩
        rw [← hj] at HFD hi
        have HFD := Lib.hid HFD
        have tj : decide (j < 0) = true := by simpa using hi
        clear hb hg hsk hr1 hr2 h1 hj hm1 HBI
        go_wp2_with fail
        refine HBC.out.mono ?_
        rintro e w2 ⟨rfl, rfl⟩
        go_wp2_with fail
        refine HFD.out.mono ?_
        rintro e w3 ⟨rfl, rfl⟩
        go_wp2_with fail
        go_ret2
        rw [← HE.out]
        exact ⟨rfl, HB.out⟩
      · obtain ⟨i, hi'⟩ : ∃ i : Nat, Lib.index (xs.drop (k + 4)) [45, 45] = i := ⟨(Lib.index (xs.drop (k + 4)) [45, 45]).toNat, by omega⟩
        have hroom := Lib.index_room (xs.drop (k + 4)) [45, 45] (by omega)
        rw [hi', List.length_drop, ← HL.out] at hroom
        have hroom : k + 4 + i + 2 ≤ L := by simp at hroom; omega
        rw [hi'] at HFD
        have HFD := Lib.hid HFD
        obtain ⟨p3, m3, c3, hs3, hr3⟩ := slice_from hr1 (4 + i) (by omega)
        rw [show ((4 + i : Nat) : Int) = 4 + (i : Int) by omega] at hs3
        rw [List.drop_drop] at hr3
        have HMK := begins_c wr _ (xs.drop (k + (4 + i))) ⟨#[45, 45, 62]⟩ hr3
        rw [show (⟨#[45, 45, 62]⟩ : ByteArray).data.toList = [45, 45, 62] from rfl, show xs.drop (k + (4 + i)) = (xs.drop (k + 4)).drop i from by rw [List.drop_drop]; congr 1; omega, com_mark hi'] at HMK
        have ti : decide ((i : Int) < 0) = false := by simp
        cases h62 : Lib.hasPrefix ((xs.drop (k + 4)).drop (i + 2)) [62] with
        | false =>
          have HE := Lib.hid (show (k, false) = R from by rw [← hsk, skp_no h1 (by rw [List.drop_drop]; unfold comP; rw [if_neg hi, hi', Int.toNat_natCast, h62]; rfl)])
          rw [h62] at HMK
          have HMK := Lib.hid HMK
          clear hb hg hsk hr1 hr2 hr3 h1 hi hi' hm1 h62 HBI
          go_wp2_with fail
          refine HBC.out.mono ?_
          rintro e w2 ⟨rfl, rfl⟩
          go_wp2_with fail
          refine HFD.out.mono ?_
          rintro e w3 ⟨rfl, rfl⟩
          go_wp2_with fail
          refine HMK.out.mono ?_
          rintro e w4 ⟨rfl, rfl⟩
          go_wp2_with fail
          go_ret2
          rw [← HE.out]
          exact ⟨rfl, HB.out⟩
        | true =>
          have hpl2 := pre_len h62
          rw [List.length_drop, List.length_drop, ← HL.out] at hpl2
          have hpl2 : k + 4 + i + 3 ≤ L := by simp at hpl2; omega
          have HN := Lib.hid (show RskI w xs R (k + (i + 7)) wr from ⟨g, by have := HL.out; omega, by
            rw [← hsk, skp_go (n := i + 3) h1 (by rw [List.drop_drop]; unfold comP; rw [if_neg hi, hi', Int.toNat_natCast, h62]; rfl), List.drop_drop, show k + (4 + (i + 3)) = k + (i + 7) by omega, show k + 4 + (i + 3) = k + (i + 7) by omega], hb⟩)
          rw [h62] at HMK
          have HMK := Lib.hid HMK
          clear hb hg hsk hr1 hr2 hr3 h1 hi hi' hm1 h62 HBI
          go_wp2_with fail
          refine HBC.out.mono ?_
          rintro e w2 ⟨rfl, rfl⟩
          go_wp2_with fail
          refine HFD.out.mono ?_
          rintro e w3 ⟨rfl, rfl⟩
          go_wp2_with fail
          refine HMK.out.mono ?_
          rintro e w4 ⟨rfl, rfl⟩
          go_wp2_with fail
          go_roundw
          case rel => exact ⟨k + (i + 7), by go_num, by omega, HN.out⟩
          case measure => simp [intOf]; omega
    | false =>
      rw [h1] at HBC
      have HBC := Lib.hid HBC
      cases h2 : Lib.hasPrefix (xs.drop k) [60, 63] with
      | false =>
        rw [h2] at HBI
        have HBI := Lib.hid HBI
        have HE := Lib.hid (show (k, true) = R from by rw [← hsk, skp_end h1 h2])
        clear hb hg hsk hr1 h1 h2 hm1
        go_wp2_with fail
        refine HBC.out.mono ?_
        rintro e w2 ⟨rfl, rfl⟩
        go_wp2_with fail
        refine HBI.out.mono ?_
        rintro e w3 ⟨rfl, rfl⟩
        go_wp2_with fail
        go_ret2
        rw [← HE.out]
        exact ⟨rfl, HB.out⟩
      | true =>
        rw [h2] at HBI
        have HBI := Lib.hid HBI
        have hpl := pre_len h2
        rw [List.length_drop, ← HL.out] at hpl
        have hpl : k + 2 ≤ L := by simp at hpl; omega
        obtain ⟨p2, m2, c2, hs2, hr2⟩ := slice_from hr1 2 (by omega)
        rw [show ((2 : Nat) : Int) = 2 from rfl] at hs2
        rw [List.drop_drop] at hr2
        have HNA := nameAt_c wr _ (xs.drop (k + 2)) hr2 (by rw [List.length_drop, ← HL.out]; omega)
        have hnl := nameAt_le (xs.drop (k + 2))
        obtain ⟨n, hn⟩ : ∃ n, n = nameAt (xs.drop (k + 2)) := ⟨_, rfl⟩
        rw [← hn] at HNA hnl
        rw [List.length_drop, ← HL.out] at hnl
        have HNA := Lib.hid HNA
        have HR1 := Lib.hid hr1
        clear hb
        go_wp2_with fail
        refine HBC.out.mono ?_
        rintro e w2 ⟨rfl, rfl⟩
        go_wp2_with fail
        refine HBI.out.mono ?_
        rintro e w3 ⟨rfl, rfl⟩
        go_wp2_with fail
        refine HNA.out.mono ?_
        rintro e w1 ⟨rfl, hb1⟩
        have HB1 := Lib.hid (HB.out.trans (hb1.mono HB.out.size))
        by_cases h0 : n = 0
        · have HE := Lib.hid (show (k, false) = R from by rw [← hsk, ski_no h1 h2 (by rw [List.drop_drop]; unfold insR; rw [← hn, if_pos (.inl h0)])])
          have tn : ((n : Int) == 0) = true := by simpa using h0
          clear hg hsk hr1 hr2 h1 h2 hm1 hn h0 hb1
          go_wp2_with fail
          go_ret2
          rw [← HE.out]
          exact ⟨rfl, HB1.out⟩
        · have tn : ((n : Int) == 0) = false := by simpa using h0
          have hr1' := HR1.out.below hb1
          obtain ⟨p3, m3, c3, hs3, hr3⟩ := slice_from hr1' (2 + n) (by omega)
          rw [show ((2 + n : Nat) : Int) = 2 + (n : Int) by omega] at hs3
          rw [List.drop_drop] at hr3
          have hkn : k + 2 + n = k + (2 + n) := by omega
          have HQM := begins_c w1 _ (xs.drop (k + (2 + n))) ⟨#[63, 62]⟩ hr3
          rw [show (⟨#[63, 62]⟩ : ByteArray).data.toList = [63, 62] from rfl] at HQM
          have HBL := rblanks_c w1 _ (xs.drop (k + (2 + n))) hr3 (by rw [List.length_drop, ← HL.out]; omega)
          have HFD := find_c w1 _ (xs.drop (k + (2 + n))) ⟨#[63, 62]⟩ hr3 (by decide) (by rw [List.length_drop, ← HL.out]; omega)
          rw [show (⟨#[63, 62]⟩ : ByteArray).data.toList = [63, 62] from rfl] at HFD
          cases hb3 : Lib.hasPrefix (xs.drop (k + (2 + n))) [63, 62] with
          | true =>
            rw [hb3] at HQM
            have HQM := Lib.hid HQM
            by_cases hi : Lib.index (xs.drop (k + (2 + n))) [63, 62] < 0
            · have HE := Lib.hid (show (k, false) = R from by rw [← hsk, ski_no h1 h2 (by rw [List.drop_drop]; unfold insR; rw [← hn, List.drop_drop, hkn, if_neg (by rw [hb3]; simp [h0]), if_pos hi])])
              obtain ⟨j, hj⟩ : ∃ j, j = Lib.index (xs.drop (k + (2 + n))) [63, 62] := ⟨_, rfl⟩
              rw [← hj] at HFD hi
              have HFD := Lib.hid HFD
              have tj : decide (j < 0) = true := by simpa using hi
              clear hg hsk hr1 hr2 h1 h2 hj hm1 hr1' hr3 hkn hn h0 hb1 hb3 HBL
              go_wp2_with fail
              refine HQM.out.mono ?_
              rintro e w4 ⟨rfl, rfl⟩
              go_wp2_with fail
              refine HFD.out.mono ?_
              rintro e w6 ⟨rfl, rfl⟩
              go_wp2_with fail
              go_ret2
              rw [← HE.out]
              exact ⟨rfl, HB1.out⟩
            · obtain ⟨i, hi'⟩ : ∃ i : Nat, Lib.index (xs.drop (k + (2 + n))) [63, 62] = i := ⟨(Lib.index (xs.drop (k + (2 + n))) [63, 62]).toNat, by omega⟩
              have hroom := Lib.index_room (xs.drop (k + (2 + n))) [63, 62] (by omega)
              rw [hi', List.length_drop, ← HL.out] at hroom
              have hroom : k + 2 + n + i + 2 ≤ L := by simp at hroom; omega
              rw [hi'] at HFD
              have HFD := Lib.hid HFD
              have ti : decide ((i : Int) < 0) = false := by simp
              have HN := Lib.hid (show RskI w xs R (k + (i + (n + 4))) w1 from ⟨g, by have := HL.out; omega, by
                rw [← hsk, ski_go (n := i + n + 2) h1 h2 (by rw [List.drop_drop]; unfold insR; rw [← hn, List.drop_drop, hkn, if_neg (by rw [hb3]; simp [h0]), if_neg hi, hi']; rfl), List.drop_drop, show k + (2 + (i + n + 2)) = k + (i + (n + 4)) by omega, show k + 2 + (i + n + 2) = k + (i + (n + 4)) by omega], HB1.out⟩)
              clear hg hsk hr1 hr2 h1 h2 hi hi' hm1 hr1' hr3 hkn hn h0 hb1 hb3 HBL
              go_wp2_with fail
              refine HQM.out.mono ?_
              rintro e w4 ⟨rfl, rfl⟩
              go_wp2_with fail
              refine HFD.out.mono ?_
              rintro e w6 ⟨rfl, rfl⟩
              go_wp2_with fail
              go_roundw
              case rel => exact ⟨k + (i + (n + 4)), by go_num, by omega, HN.out⟩
              case measure => simp [intOf]; omega
          | false =>
            rw [hb3] at HQM
            have HQM := Lib.hid HQM
            obtain ⟨m, hm⟩ : ∃ m, m = blN (xs.drop (k + (2 + n))) := ⟨_, rfl⟩
            rw [← hm] at HBL
            have HBL := Lib.hid HBL
            by_cases hm0 : m = 0
            · have HE := Lib.hid (show (k, false) = R from by rw [← hsk, ski_no h1 h2 (by rw [List.drop_drop]; unfold insR; rw [← hn, List.drop_drop, hkn, if_pos (.inr ⟨hb3, by rw [← hm]; exact hm0⟩)])])
              have tm : ((m : Int) == 0) = true := by simpa using hm0
              clear hg hsk hr1 hr2 h1 h2 hm1 hn h0 hb1 hr1' hr3 hkn hb3 hm hm0 HFD
              go_wp2_with fail
              refine HQM.out.mono ?_
              rintro e w4 ⟨rfl, rfl⟩
              go_wp2_with fail
              refine HBL.out.mono ?_
              rintro e w5 ⟨rfl, rfl⟩
              go_wp2_with fail
              go_ret2
              rw [← HE.out]
              exact ⟨rfl, HB1.out⟩
            · have tm : ((m : Int) == 0) = false := by simpa using hm0
              by_cases hi : Lib.index (xs.drop (k + (2 + n))) [63, 62] < 0
              · have HE := Lib.hid (show (k, false) = R from by rw [← hsk, ski_no h1 h2 (by rw [List.drop_drop]; unfold insR; rw [← hn, List.drop_drop, hkn, if_neg (by rw [hb3, ← hm]; simp [h0, hm0]), if_pos hi])])
                obtain ⟨j, hj⟩ : ∃ j, j = Lib.index (xs.drop (k + (2 + n))) [63, 62] := ⟨_, rfl⟩
                rw [← hj] at HFD hi
                have HFD := Lib.hid HFD
                have tj : decide (j < 0) = true := by simpa using hi
                clear hg hsk hr1 hr2 h1 h2 hj hm1 hr1' hr3 hkn hn h0 hb1 hb3 hm hm0
                go_wp2_with fail
                refine HQM.out.mono ?_
                rintro e w4 ⟨rfl, rfl⟩
                go_wp2_with fail
                refine HBL.out.mono ?_
                rintro e w5 ⟨rfl, rfl⟩
                go_wp2_with fail
                refine HFD.out.mono ?_
                rintro e w6 ⟨rfl, rfl⟩
                go_wp2_with fail
                go_ret2
                rw [← HE.out]
                exact ⟨rfl, HB1.out⟩
              · obtain ⟨i, hi'⟩ : ∃ i : Nat, Lib.index (xs.drop (k + (2 + n))) [63, 62] = i := ⟨(Lib.index (xs.drop (k + (2 + n))) [63, 62]).toNat, by omega⟩
                have hroom := Lib.index_room (xs.drop (k + (2 + n))) [63, 62] (by omega)
                rw [hi', List.length_drop, ← HL.out] at hroom
                have hroom : k + 2 + n + i + 2 ≤ L := by simp at hroom; omega
                rw [hi'] at HFD
                have HFD := Lib.hid HFD
                have ti : decide ((i : Int) < 0) = false := by simp
                have HN := Lib.hid (show RskI w xs R (k + (i + (n + 4))) w1 from ⟨g, by have := HL.out; omega, by
                  rw [← hsk, ski_go (n := i + n + 2) h1 h2 (by rw [List.drop_drop]; unfold insR; rw [← hn, List.drop_drop, hkn, if_neg (by rw [hb3, ← hm]; simp [h0, hm0]), if_neg hi, hi']; rfl), List.drop_drop, show k + (2 + (i + n + 2)) = k + (i + (n + 4)) by omega, show k + 2 + (i + n + 2) = k + (i + (n + 4)) by omega], HB1.out⟩)
                clear hg hsk hr1 hr2 h1 h2 hi hi' hm1 hr1' hr3 hkn hn h0 hb1 hb3 hm hm0
                go_wp2_with fail
                refine HQM.out.mono ?_
                rintro e w4 ⟨rfl, rfl⟩
                go_wp2_with fail
                refine HBL.out.mono ?_
                rintro e w5 ⟨rfl, rfl⟩
                go_wp2_with fail
                refine HFD.out.mono ?_
                rintro e w6 ⟨rfl, rfl⟩
                go_wp2_with fail
                go_roundw
                case rel => exact ⟨k + (i + (n + 4)), by go_num, by omega, HN.out⟩
                case measure => simp [intOf]; omega
end Go.Proofs.YthlphmldghppmaaGreatDoor
