/- journal: lists of byte slices as they read; Records and Snapshot of whatever journal. -/
import Derived.Test.YtfljpnfjndjhpaaJv
import Derived.Test.YtfljpnfjndjhpaaJr
import Derived.Laws.MakeOwn
namespace Go.Proofs.Ytfljpnfjndjhpaa
open Go Go.RowKit Go.Deep
set_option linter.unusedVariables false
set_option linter.unusedSimpArgs false

/-- A list of byte slices, as it reads. -/
def RdRows (w : World) (v : Value) (l : List (List UInt8)) : Prop :=
  ∃ a c, v = .slice a l.length c ∧ l.length ≤ c ∧ c ≤ maxLen ∧ (a = none → c = 0) ∧ (0 < l.length → ∃ g o, a = some ⟨g, o, none⟩ ∧ g < w.heap.size ∧ ∀ (i : Nat) (x : List UInt8), l[i]? = some x → ∃ a' c', w.cell? ⟨g, o + i, none⟩ = some (.slice a' x.length c') ∧ Rd w (.slice a' x.length c') x)
theorem RdRows.below {w w' : World} {v : Value} {l : List (List UInt8)} (h : RdRows w v l) (hb : Below w.heap.size w w') : RdRows w' v l := by
  obtain ⟨a, c, hv, h1, h2, h3, h4⟩ := h
  refine ⟨a, c, hv, h1, h2, h3, fun hp => ?_⟩
  obtain ⟨g, o, ha, hg, hx⟩ := h4 hp
  refine ⟨g, o, ha, Nat.lt_of_lt_of_le hg hb.size, fun i x hi => ?_⟩
  obtain ⟨a', c', k1, k2⟩ := hx i x hi
  exact ⟨a', c', by rw [hb.cell (World.block_lt_of_cell? w _ k1)]; exact k1, k2.below hb⟩
theorem RdRows.nil (w : World) : RdRows w (.slice none 0 0) [] := ⟨none, 0, rfl, Nat.le_refl _, by unfold maxLen; omega, by simp, by simp⟩
theorem RdRows.form {w : World} {v : Value} {l : List (List UInt8)} (h : RdRows w v l) : ∃ a c, v = .slice a l.length c ∧ l.length ≤ c ∧ c ≤ maxLen := by
  obtain ⟨a, c, hv, h1, h2, _⟩ := h
  exact ⟨a, c, hv, h1, h2⟩
theorem RdRows.at {w : World} {a : Option Addr} {n c : Nat} {l : List (List UInt8)} (h : RdRows w (.slice a n c) l) (k : Nat) (hk : k < l.length) : ∃ g o a' c', a = some ⟨g, o, none⟩ ∧ g < w.heap.size ∧ w.cell? ⟨g, o + k, none⟩ = some (.slice a' l[k].length c') ∧ Rd w (.slice a' l[k].length c') l[k] := by
  obtain ⟨a0, c0, hv, h1, h2, h3, h4⟩ := h
  simp only [Value.slice.injEq] at hv
  obtain ⟨rfl, _, rfl⟩ := hv
  obtain ⟨g, o, ha, hg, hx⟩ := h4 (by omega)
  obtain ⟨a', c', k1, k2⟩ := hx k l[k] (List.getElem?_eq_getElem hk)
  exact ⟨g, o, a', c', ha, hg, k1, k2⟩
/-- The journal's records, where calls have made it. -/
theorem Jr.rows {w : World} {jb : Nat} {p : Option Addr} {foot : List Nat} {j : JS} {sv rv : Value} {vs : List Value} (h : Jr w jb p foot j sv rv vs) : RdRows w rv j.recs := by
  have hl := h.len
  rcases h.row.2 with ⟨e, h0⟩ | ⟨g, cap, cur, e, _, k3, k4, k5, k6, k7⟩
  · have : j.recs = [] := List.eq_nil_of_length_eq_zero (by omega)
    rw [this, e]
    exact RdRows.nil w
  · refine ⟨some ⟨g, 0, none⟩, cap, by rw [← hl]; exact e, by omega, k5, by simp, fun hp => ⟨g, 0, rfl, lt_of_block k3, fun i x hx => ?_⟩⟩
    have hi : i < vs.length := by have := (List.getElem?_eq_some_iff.1 hx).1; omega
    have hr := h.rs i vs[i] x (List.getElem?_eq_getElem hi) hx
    obtain ⟨a', c', e', _⟩ := id hr
    rw [e'] at hr
    refine ⟨a', c', ?_, hr⟩
    have : (cur.toList.take (vs.length * 1))[i]? = some (.slice a' x.length c') := by rw [k7, List.getElem?_eq_getElem hi, e']
    rw [List.getElem?_take, if_pos (by omega)] at this
    rw [Nat.zero_add]
    simpa [World.cell?, k3] using this

section
variable {w : World} {jb : Nat} {a : Addr} {sv rv : Value} {st : Bool}
theorem made_g (h : w.heap[jb]? = some (.cells #[.pointer (some a), sv, rv, .bool st] 51 (0, 0))) : Calls Try.prog 26 #[.pointer (some ⟨jb, 0, none⟩)] w fun e w' => e = .returned (.bool true) ∧ w = w' := by
  obtain ⟨c0, c1, c2, c3, cf⟩ := cells4 h
  clear h c1 c2 c3 cf
  go_enter Try.func26, Try.ntmps26
  go_wp2
  go_ret
  exact ⟨rfl, rfl⟩
theorem own_rdJ {w : World} {base : Nat} {v : Value} {x : List UInt8} (h : w.ownsRow base 5 1 v x.length (bcells x)) : ∃ a c, v = .slice a x.length c ∧ Rd w v x ∧ ∀ g, v.ownBlock = some g → base ≤ g := by
  have hr := Rd.of_own h
  obtain ⟨a, c, e, _⟩ := id hr
  refine ⟨a, c, e, hr, fun g hg => (OwnS.ofRow h).baseJ g hg⟩
theorem snap_g (h : w.heap[jb]? = some (.cells #[.pointer (some a), sv, rv, .bool st] 51 (0, 0))) (x : List UInt8) (hr : Rd w sv x) (hn : x.length ≤ 140737488355328) :
    Calls Try.prog 8 #[.pointer (some ⟨jb, 0, none⟩)] w fun e w' => ∃ a' c', e = .returned (.slice a' x.length c') ∧ (∀ W : World, (∀ k, w.heap.size ≤ k → k < w'.heap.size → W.heap[k]? = w'.heap[k]?) → Rd W (.slice a' x.length c') x) ∧ Below w.heap.size w w' := by
  have HJ := Lib.hid h
  have HR := Lib.hid hr
  obtain ⟨c0, c1, c2, c3, cf⟩ := cells4 h
  obtain ⟨p, c, hsv, l1, l2, _⟩ := hr
  subst hsv
  clear h c0 c2 c3 cf
  go_enter Try.func8, Try.ntmps8
  go_wp2_with (first
    | (go_at_call 26; refine (made_g HJ.out).mono ?_; rintro e w' ⟨rfl, rfl⟩)
    | (go_at_call 25; refine (clone_c _ _ _ HR.out hn).mono ?_; rintro e w1 ⟨v1, rfl, ho, hb⟩; obtain ⟨a7, cp7, rfl, hr7, hg7⟩ := own_rdJ ho; have HO := Lib.hid (And.intro hr7 hg7); have HB := Lib.hid hb; clear ho hb hr7 hg7))
  go_ret
  exact ⟨_, _, rfl, fun W hW => rd_keepJ HO.out.1 (fun g hg hl => hW g (HO.out.2 g hg) hl), HB.out⟩
theorem madeN_size (v : Value) (n : Nat) : (madeCells #[v] n).size = n := by simp [madeCells]
/-- The list that Records makes, behind k of its rounds. -/
def MadeI (w : World) (l : List (List UInt8)) (k : Nat) (wr : World) : Prop :=
  ∃ cur : Array Value, wr.heap[w.heap.size]? = some (.cells cur 23 (0, 0)) ∧ cur.size = l.length ∧ (∀ (i : Nat) (x : List UInt8), i < k → l[i]? = some x → ∃ a' c', cur[i]? = some (.slice a' x.length c') ∧ Rd wr (.slice a' x.length c') x ∧ ∀ g, (Value.slice a' x.length c').ownBlock = some g → w.heap.size < g) ∧ Below w.heap.size w wr
/-- What Records gives. -/
def RecE (w : World) (l : List (List UInt8)) (e : Ending) (w' : World) : Prop := ∃ a' c', e = .returned (.slice a' l.length c') ∧ (∃ ad : Addr, a' = some ad ∧ w.heap.size ≤ ad.block ∧ ad.block < w'.heap.size) ∧ (∀ W : World, (∀ k, w.heap.size ≤ k → k < w'.heap.size → W.heap[k]? = w'.heap[k]?) → w'.heap.size ≤ W.heap.size → RdRows W (.slice a' l.length c') l) ∧ Below w.heap.size w w'
set_option maxRecDepth 100000 in
set_option maxHeartbeats 4000000 in
theorem recs_g (h : w.heap[jb]? = some (.cells #[.pointer (some a), sv, rv, .bool st] 51 (0, 0))) (l : List (List UInt8)) (hr : RdRows w rv l) (hn : l.length ≤ 16777216) (hx : ∀ x ∈ l, x.length ≤ 140737488355328) :
    Calls Try.prog 7 #[.pointer (some ⟨jb, 0, none⟩)] w (RecE w l) := by
  have HJ := Lib.hid h
  have HR := Lib.hid hr
  have HX := Lib.hid hx
  have HN := Lib.hid hn
  obtain ⟨p, c, hrv, l1, l2⟩ := hr.form
  subst hrv
  obtain ⟨i0, hi, hz0, hz1, hz2⟩ := info_parts infoB
  have hn1 : (0 : Int) ≤ (l.length : Int) := by omega
  have hmk : ∀ W : World, Sem.run Try.prog (Instr.makeSlice 22 (.int .i64 (l.length : Int)) (.int .i64 (l.length : Int))) W = .ok (.slice (some ⟨W.heap.size, 0, none⟩) l.length l.length) (W.alloc (.cells (madeCells #[.slice none 0 0] l.length) 23 (0, 0))) := by
    intro W
    have := run_makeSlice (P := Try.prog) W 22 23 i0 (.slice none 0 0) Try.underlying22 hi hz0 .i64 .i64 (l.length : Int) (l.length : Int) (by omega) (by omega) (by rw [hz1]; simpa using hn) (by rw [hz2]; omega) (by omega)
    rw [hz1] at this
    simpa [Value.cells] using this
  obtain ⟨wm, hwm⟩ : ∃ y, y = w.alloc (.cells (madeCells #[.slice none 0 0] l.length) 23 (0, 0)) := ⟨_, rfl⟩
  have HBM := Lib.hid (show Below w.heap.size w wm from by rw [hwm]; exact (Below.refl _ _).alloc (Nat.le_refl _) _)
  have HM0 := Lib.hid (show MadeI w l 0 wm from ⟨_, by rw [hwm]; exact heap_alloc_new w _, madeN_size _ _, fun i x hi => by omega, HBM.out⟩)
  have HWM := Lib.hid hwm
  obtain ⟨c0, c1, c2, c3, cf⟩ := cells4 h
  obtain ⟨d0, d1, d2, d3, df⟩ := cells4 ((HBM.out.block jb (lt_of_block h)).trans h)
  clear h hr hx hn hwm c0 c1 c3 cf d0 d1 d3 df
  go_enter Try.func7, Try.ntmps7
  go_upto_region 4 with (go_at_call 26; refine (made_g HJ.out).mono ?_; rintro e w' ⟨rfl, rfl⟩)
  rw [← HWM.out]
  go_wp2_with fail
  go_loopw [20] (fun i wr => ∃ k : Nat, k ≤ l.length ∧ i = .int .i64 k ∧ MadeI w l k wr) (fun i _ => l.length - (intOf i).toNat)
  case atStart => exact ⟨0, by omega, rfl, HM0.out⟩
  case round =>
    obtain ⟨k, hk, rfl, hI⟩ := hrel
    have HI := Lib.hid hI
    clear hI
    by_cases hlt : k < l.length
    · have hkb : (k : Int) + 1 ≤ 16777217 := by have := HN.out; omega
      have hd : decide ((k : Int) < (l.length : Int)) = true := decide_eq_true (by omega)
      obtain ⟨cur, hb, hcs, hcu, hbe⟩ := HI.out
      obtain ⟨g, o, a', c', hpa, hgl, hcell, hrd⟩ := (HR.out.below hbe).at k hlt
      subst hpa
      have HRD := Lib.hid hrd
      have HLX := Lib.hid (HX.out l[k] (List.getElem_mem hlt))
      obtain ⟨x, hxk⟩ : ∃ x, x = l[k] := ⟨_, rfl⟩
      rw [← hxk] at hcell HRD HLX
      have HXK := Lib.hid hxk
      clear hcs hcu hbe hrd hb hxk
      go_wp2_with fail
      refine (clone_c _ _ x HRD.out HLX.out).mono ?_
      rintro e w1 ⟨v1, rfl, ho, hb1⟩
      obtain ⟨a7, cp7, rfl, hr7, hg7⟩ := own_rdJ ho
      have HC := Lib.hid (And.intro hr7 (And.intro hg7 hb1))
      obtain ⟨cur, hb, hcs, hcu, hbe⟩ := HI.out
      have hbw := (hb1.block _ (lt_of_block hb)).trans hb
      obtain ⟨u, hu⟩ : ∃ u, cur[k]? = some u := ⟨_, Array.getElem?_eq_getElem (by omega)⟩
      have e0 : w1.cell? ⟨w.heap.size, k, none⟩ = some u := by simp [World.cell?, hbw, hu]
      have f0 : w1.frozen? ⟨w.heap.size, k, none⟩ = false := by simp [World.frozen?, hbw]
      clear ho hb1 hr7 hg7 hb hcs hcu hbe hbw hu
      go_wp2_with fail
      go_roundw
      case rel =>
        refine ⟨k + 1, by omega, by go_num, ?_⟩
        obtain ⟨cur, hb, hcs, hcu, hbe⟩ := HI.out
        obtain ⟨hr7, hg7, hb1⟩ := HC.out
        have hs1 := hbe.size
        have hbl := lt_of_block hb
        have hbw := (hb1.block _ hbl).trans hb
        have hkeep : ∀ (aa : Option Addr) (n cc : Nat) (y : List UInt8), Rd w1 (.slice aa n cc) y → (∀ g, (Value.slice aa n cc).ownBlock = some g → w.heap.size < g) → Rd (w1.setCell ⟨w.heap.size, k, none⟩ (.slice a7 x.length cp7)) (.slice aa n cc) y := fun aa n cc y hr hg => rd_keepJ hr (fun g' hg' _ => Below.heap_setCell _ _ _ _ (by have := hg g' hg'; simp; omega))
        refine ⟨cur.setIfInBounds k (.slice a7 x.length cp7), heap_mod hbw, by simpa using hcs, fun i y hi hy => ?_, (hbe.trans (hb1.mono hbe.size)).setCell (p := ⟨w.heap.size, k, none⟩) (Nat.le_refl _) _⟩
        by_cases hik : i = k
        · subst hik
          have hyx : y = x := by rw [HXK.out]; rw [List.getElem?_eq_getElem hlt] at hy; exact (Option.some.inj hy).symm
          subst hyx
          have hgg : ∀ g, (Value.slice a7 y.length cp7).ownBlock = some g → w.heap.size < g := fun g hg => by have := hg7 g hg; omega
          exact ⟨a7, cp7, by rw [Array.getElem?_setIfInBounds, if_pos rfl, if_pos (by omega)], hkeep _ _ _ _ hr7 hgg, hgg⟩
        · obtain ⟨a', c', q1, q2, q3⟩ := hcu i y (by omega) hy
          exact ⟨a', c', by rw [Array.getElem?_setIfInBounds, if_neg (by omega)]; exact q1, hkeep _ _ _ _ (q2.below hb1) q3, q3⟩
      case measure => simp [intOf]; omega
    · have hd : decide ((k : Int) < (l.length : Int)) = false := decide_eq_false (by omega)
      have hkl : k = l.length := by omega
      subst hkl
      go_wp2_with fail
      go_ret
      obtain ⟨cur, hb, hcs, hcu, hbe⟩ := HI.out
      refine ⟨_, _, by rfl, ⟨_, rfl, Nat.le_refl _, lt_of_block hb⟩, fun W hW hs => ⟨_, l.length, rfl, Nat.le_refl _, by have := HN.out; unfold maxLen; omega, by simp, fun hp => ⟨w.heap.size, 0, rfl, Nat.lt_of_lt_of_le (lt_of_block hb) hs, fun i x hx => ?_⟩⟩, hbe⟩
      obtain ⟨a', c', q1, q2, q3⟩ := hcu i x (List.getElem?_eq_some_iff.1 hx).1 hx
      exact ⟨a', c', by simp [World.cell?, hW _ (Nat.le_refl _) (lt_of_block hb), hb, q1], rd_keepJ q2 (fun g hg hl => hW g (Nat.le_of_lt (q3 g hg)) hl)⟩
end
end Go.Proofs.Ytfljpnfjndjhpaa
