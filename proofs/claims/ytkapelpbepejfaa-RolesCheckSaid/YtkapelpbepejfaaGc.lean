/- Items: whether one has not many in it (dossierplain.item): it answers; if so, what is known of it. Written by tools/gengc.py. -/
import Derived.Test.YtkapelpbepejfaaGb
import Derived.Test.YtkapelpbepejfaaChecked
import Derived.OpenShut
import Derived.Outline
import Derived.WalkLawsBesides
import Derived.WalkSpells
import Derived.RegionTactic
import Derived.BigRegion
import Derived.ChangeAlike
namespace Go.Proofs.Ytkapelpbepejfaa
open Go Go.RowKit Go.Deep
set_option linter.unusedVariables false
set_option linter.unusedSimpArgs false

/-- An item's cells in a row. -/
def Cells14 (w : World) (b o : Nat) (x : IT) (ev xv rv kv tv : Value) : Prop := w.cell? ⟨b, o, none⟩ = some (.string x.id) ∧ w.cell? ⟨b, o + 1, none⟩ = some (.string x.nm) ∧ w.cell? ⟨b, o + 2, none⟩ = some (.int .i64 x.kind) ∧ w.cell? ⟨b, o + 3, none⟩ = some (ev) ∧ w.cell? ⟨b, o + 4, none⟩ = some (xv) ∧ w.cell? ⟨b, o + 5, none⟩ = some (.string x.man) ∧ w.cell? ⟨b, o + 6, none⟩ = some (.string x.req) ∧ w.cell? ⟨b, o + 7, none⟩ = some (.string x.rep) ∧ w.cell? ⟨b, o + 8, none⟩ = some (.bool x.auto) ∧ w.cell? ⟨b, o + 9, none⟩ = some (.bool x.free) ∧ w.cell? ⟨b, o + 10, none⟩ = some (.int .i64 x.after) ∧ w.cell? ⟨b, o + 11, none⟩ = some (rv) ∧ w.cell? ⟨b, o + 12, none⟩ = some (kv) ∧ w.cell? ⟨b, o + 13, none⟩ = some (tv)
theorem ItemsD.elem {S : Nat → Prop} {w : World} {d : Nat} {v : Value} {l : List IT} (h : ItemsD S w (d + 1) v l) (k : Nat) (hk : k < l.length) :
    ∃ (b o c : Nat) (ev xv rv kv tv : Value), v = .slice (some ⟨b, o, none⟩) l.length c ∧ l.length ≤ c ∧ c ≤ maxLen ∧ S b ∧ b < w.heap.size ∧ Cells14 w b (o + k * 14) l[k] ev xv rv kv tv ∧ ItemV S w d (item14 l[k] ev xv rv kv tv) l[k] := by
  obtain ⟨ps, rfl, ⟨_, _, a, c, hv, hlc, hcm, _, hx⟩, _, hp⟩ := h
  have hkp : k < ps.length := by simpa using hk
  obtain ⟨b, o, rfl, hS, hlt, hc⟩ := hx (by omega)
  obtain ⟨ho, ev, xv, rv, kv, tv, e, k1, k2, k3, k4, k5⟩ := hp ps[k] (List.getElem_mem hkp)
  have hlen : ∀ p ∈ ps, (p.1).length = 14 := fun p hpm => by
    obtain ⟨_, ev, xv, rv, kv, tv, e, _⟩ := hp p hpm
    rw [e]; rfl
  have hat : ∀ j, j < 14 → ∀ u, (item14 ps[k].2 ev xv rv kv tv)[j]? = some u → w.cell? ⟨b, o + k * 14 + j, none⟩ = some u := fun j hj u hu => by
    have := flat_at (f := fun p : List Value × IT => p.1) hlen k hkp j hj
    rw [e, hu] at this
    rw [Nat.add_assoc]
    exact hc _ _ this
  simp only [List.getElem_map, List.length_map]
  refine ⟨b, o, c, ev, xv, rv, kv, tv, hv, hlc, hcm, hS, hlt, ⟨hat 0 (by omega) _ rfl, hat 1 (by omega) _ rfl, hat 2 (by omega) _ rfl, hat 3 (by omega) _ rfl, hat 4 (by omega) _ rfl, hat 5 (by omega) _ rfl, hat 6 (by omega) _ rfl, hat 7 (by omega) _ rfl, hat 8 (by omega) _ rfl, hat 9 (by omega) _ rfl, hat 10 (by omega) _ rfl, hat 11 (by omega) _ rfl, hat 12 (by omega) _ rfl, hat 13 (by omega) _ rfl⟩, ho, ev, xv, rv, kv, tv, rfl, k1, k2, k3, k4, k5⟩
theorem ItemV.forms {S : Nat → Prop} {w : World} {d : Nat} {x : IT} {ev xv rv kv tv : Value} (h : ItemV S w d (item14 x ev xv rv kv tv) x) :
    SentsD S w ev x.entry ∧ SentsD S w xv x.exit ∧ TextsD S w rv x.roles ∧ ItemsD S w d kv x.kids ∧ ItemsD S w d tv x.table := by
  obtain ⟨_, ev2, xv2, rv2, kv2, tv2, e, k1, k2, k3, k4, k5⟩ := h
  simp only [item14, List.cons.injEq, and_true, true_and] at e
  obtain ⟨rfl, rfl, rfl, rfl, rfl⟩ := e
  exact ⟨k1, k2, k3, k4, k5⟩
/-- What is known of an item that has not many in it. -/
def okI : Nat → Nat → IT → Prop
  | 0, _, _ => False
  | d + 1, dep, x => dep ≤ 40 ∧ x.entry.length ≤ 20 ∧ x.exit.length ≤ 20 ∧ x.roles.length ≤ 40 ∧ ∀ k ∈ x.kids ++ x.table, okI d (dep + 1) k
/-- How many items there are in it. -/
def cntI : Nat → IT → Nat
  | 0, _ => 0
  | d + 1, x => 1 + ((x.kids ++ x.table).map (cntI d)).sum
/-- What is left behind some items. -/
def DoneI (d dep : Nat) (u0 u : Int) (P : List IT) : Prop := (∀ y ∈ P, okI d (dep + 1) y) ∧ u + 1 + ((P.map (cntI d)).sum : Nat) ≤ u0 ∧ 0 ≤ u ∧ u ≤ 260
theorem DoneI.snoc {d dep : Nat} {u0 u u1 : Int} {P : List IT} {y : IT} (h : DoneI d dep u0 u P) (hy : okI d (dep + 1) y) (h1 : u1 + (cntI d y : Nat) ≤ u) (h0 : 0 ≤ u1) : DoneI d dep u0 u1 (P ++ [y]) := by
  obtain ⟨k1, k2, k3, k4⟩ := h
  refine ⟨fun z hz => ?_, ?_, h0, by omega⟩
  · rcases List.mem_append.1 hz with hz | hz
    · exact k1 z hz
    · simp only [List.mem_singleton] at hz; subst hz; exact hy
  · simp only [List.map_append, List.sum_append, List.map_cons, List.map_nil, List.sum_cons, List.sum_nil]
    omega
/-- All but one block is as it was. -/
def KeepX (b : Nat) (w w' : World) : Prop := w.heap.size ≤ w'.heap.size ∧ ∀ k, k < w.heap.size → k ≠ b → w'.heap[k]? = w.heap[k]?
theorem KeepX.refl (b : Nat) (w : World) : KeepX b w w := ⟨Nat.le_refl _, fun _ _ _ => rfl⟩
theorem KeepX.trans {b : Nat} {w w1 w2 : World} (h : KeepX b w w1) (k : KeepX b w1 w2) : KeepX b w w2 := ⟨Nat.le_trans h.1 k.1, fun g hg hb => (k.2 g (Nat.lt_of_lt_of_le hg h.1) hb).trans (h.2 g hg hb)⟩
theorem KeepX.alloc {b : Nat} {w w1 : World} (h : KeepX b w w1) (o : Obj) : KeepX b w (w1.alloc o) := ⟨by simpa using Nat.le_succ_of_le h.1, fun g hg hb => (Below.heap_alloc _ _ _ (Nat.lt_of_lt_of_le hg h.1)).trans (h.2 g hg hb)⟩
theorem KeepX.set {b : Nat} {w w1 : World} (h : KeepX b w w1) (o : Nat) (u : Value) : KeepX b w (w1.setCell ⟨b, o, none⟩ u) := ⟨by simpa [World.setCell] using h.1, fun g hg hb => by
  rw [← h.2 g hg hb]
  simp [World.setCell, Array.getElem?_modify, Ne.symm hb]⟩
/-- An answer to it. -/
def AnsI (d dep : Nat) (x : IT) (u : Int) (W0 w : World) (b : Nat) (e : Ending) (w' : World) : Prop :=
  ∃ (q : Bool) (u' : Int), e = .returned (.bool q) ∧ w'.heap[b]? = some (.cells #[.int .i64 u'] 3 (0, 0)) ∧ Below W0.heap.size W0 w' ∧ KeepX b w w' ∧ (q = true → okI d dep x ∧ u' + (cntI d x : Nat) ≤ u ∧ 0 ≤ u')
/-- The lists of an item that are done. -/
def PK (x : IT) : Nat → List IT
  | 0 => []
  | 1 => x.kids
  | _ => x.kids ++ x.table
theorem one_cellG {w : World} {b : Nat} {c0 : Value} {T : TypeId} (h : w.heap[b]? = some (.cells #[c0] T (0, 0))) : w.cell? ⟨b, 0, none⟩ = some c0 ∧ (∀ o, w.frozen? ⟨b, o, none⟩ = false) := by
  refine ⟨?_, fun o => ?_⟩ <;> simp [World.cell?, World.frozen?, h]
theorem set_cellG {w : World} {b : Nat} {c0 c1 : Value} {T : TypeId} (h : w.heap[b]? = some (.cells #[c0] T (0, 0))) : (w.setCell ⟨b, 0, none⟩ c1).heap[b]? = some (.cells #[c1] T (0, 0)) := by
  simp [World.setCell, Array.getElem?_modify, h]
theorem SentsD.len {S : Nat → Prop} {w : World} {v : Value} {l : List ST} (h : SentsD S w v l) : l.length * 40 ≤ 140737488355328 := by
  obtain ⟨ps, rfl, _, h3, _⟩ := h
  simpa using h3
theorem two_cellG {w : World} {b : Nat} {c0 c1 : Value} {T : TypeId} (h : w.heap[b]? = some (.cells #[c0, c1] T (0, 0))) : w.cell? ⟨b, 0, none⟩ = some c0 ∧ w.cell? ⟨b, 1, none⟩ = some c1 := by
  refine ⟨?_, ?_⟩ <;> simp [World.cell?, h]

set_option maxRecDepth 100000 in
set_option maxHeartbeats 2000000 in
theorem item_c (W0 : World) : ∀ (d : Nat) (w : World) (cs : List Value) (x : IT) (dep b : Nat) (u : Int), ItemV AnyG W0 d cs x → Below W0.heap.size W0 w → W0.heap.size ≤ b → w.heap[b]? = some (.cells #[.int .i64 u] 3 (0, 0)) → dep ≤ 41 → 0 ≤ u → u ≤ 260 →
    Calls Try.prog 27 #[.agg cs.toArray, .int .i64 dep, .pointer (some ⟨b, 0, none⟩)] w (AnsI d dep x u W0 w b) := by
  intro d
  induction d with
  | zero => rintro w cs x dep b u ⟨ho, ev, xv, rv, kv, tv, e, k1, k2, k3, k4, k5⟩; exact k4.elim
  | succ d ih =>
    intro w cs x dep b u h hb0 hbb hbx hdep hu0 hu1
    obtain ⟨ho, ev, xv, rv, kv, tv, rfl, k1, k2, k3, k4, k5⟩ := h
    have HIH := Lib.hid ih
    have HB0 := Lib.hid hb0
    have HBB := Lib.hid hbb
    obtain ⟨ea, ec, hev, hel, hec, _⟩ := k1.form
    obtain ⟨xa, xc, hxv, hxl, hxc, _⟩ := k2.form
    obtain ⟨ra, rc, hrv, hrl, hrc, _⟩ := k3.form
    obtain ⟨ka, kc, hkv, hkl, hkc, _⟩ := k4.form
    obtain ⟨ta, tc, htv, htl, htc, _⟩ := k5.form
    obtain ⟨EN, hEN⟩ : ∃ N, N = x.entry.length := ⟨_, rfl⟩
    obtain ⟨XN, hXN⟩ : ∃ N, N = x.exit.length := ⟨_, rfl⟩
    obtain ⟨RN, hRN⟩ : ∃ N, N = x.roles.length := ⟨_, rfl⟩
    rw [← hEN] at hev hel
    rw [← hXN] at hxv hxl
    rw [← hRN] at hrv hrl
    have hEm : EN ≤ 140737488355328 := by have := k1.len; omega
    have hXm : XN ≤ 140737488355328 := by have := k2.len; omega
    have hRm : RN ≤ 140737488355328 := by have := k3.2; omega
    have K4 := Lib.hid k4
    have K5 := Lib.hid k5
    subst hev hxv hrv hkv htv
    have H1 := Lib.hid hEN
    have H2 := Lib.hid hXN
    have H3 := Lib.hid hRN
    have hltb : b < w.heap.size := (Array.getElem?_eq_some_iff.1 hbx).1
    obtain ⟨b0, bz⟩ := one_cellG hbx
    have HBX := Lib.hid hbx
    clear ih hb0 hbb hbx k1 k2 k3 k4 k5 hel hec hxl hxc hrl hrc hEN hXN hRN
    unfold item14
    go_enter Try.func27, Try.ntmps27
    go_wp2_with fail
    go_region
    obtain ⟨u1, hu1⟩ : ∃ u1, u - (1 + ((EN : Int) + (XN : Int)) / 4) = u1 := ⟨_, rfl⟩
    have hu1a : u1 + 1 ≤ u := by omega
    have hu1b : u1 ≤ 260 := by omega
    rw [hu1]
    obtain ⟨wA, hwA⟩ : ∃ y, y = (w.setCell ⟨b, 0, none⟩ (.int .i64 u1)).alloc (.cells #[.string x.id, .string x.nm, .int .i64 x.kind, .slice ea EN ec, .slice xa XN xc, .string x.man, .string x.req, .string x.rep, .bool x.auto, .bool x.free, .int .i64 x.after, .slice ra RN rc, .slice ka x.kids.length kc, .slice ta x.table.length tc] 27) := ⟨_, rfl⟩
    rw [← hwA]
    have HXA := Lib.hid (show wA.heap[b]? = some (.cells #[.int .i64 u1] 3 (0, 0)) from by rw [hwA]; exact (Below.heap_alloc _ _ b (by simpa [World.size_setCell] using hltb)).trans (set_cellG HBX.out))
    have HBA := Lib.hid (show Below W0.heap.size W0 wA from by rw [hwA]; exact (HB0.out.setCell (p := ⟨b, 0, none⟩) HBB.out _).alloc (by simpa [World.size_setCell] using HB0.out.size) _)
    have HKA := Lib.hid (show KeepX b w wA from by rw [hwA]; exact ((KeepX.refl b w).set 0 _).alloc _)
    have hqa : wA.heap[w.heap.size]? = some (.cells #[.string x.id, .string x.nm, .int .i64 x.kind, .slice ea EN ec, .slice xa XN xc, .string x.man, .string x.req, .string x.rep, .bool x.auto, .bool x.free, .int .i64 x.after, .slice ra RN rc, .slice ka x.kids.length kc, .slice ta x.table.length tc] 27 (0, 0)) := by
      rw [hwA]
      simpa [World.size_setCell] using heap_alloc_new (w.setCell ⟨b, 0, none⟩ (.int .i64 u1)) (.cells #[.string x.id, .string x.nm, .int .i64 x.kind, .slice ea EN ec, .slice xa XN xc, .string x.man, .string x.req, .string x.rep, .bool x.auto, .bool x.free, .int .i64 x.after, .slice ra RN rc, .slice ka x.kids.length kc, .slice ta x.table.length tc] 27)
    have hsA : w.heap.size < wA.heap.size := (Array.getElem?_eq_some_iff.1 hqa).1
    clear hwA bz b0 hu1
    obtain ⟨b0, bz⟩ := one_cellG HXA.out
    obtain ⟨g3, g4, g11, g12, g13⟩ : wA.cell? ⟨w.heap.size, 3, none⟩ = some (.slice ea EN ec) ∧ wA.cell? ⟨w.heap.size, 4, none⟩ = some (.slice xa XN xc) ∧ wA.cell? ⟨w.heap.size, 11, none⟩ = some (.slice ra RN rc) ∧ wA.cell? ⟨w.heap.size, 12, none⟩ = some (.slice ka x.kids.length kc) ∧ wA.cell? ⟨w.heap.size, 13, none⟩ = some (.slice ta x.table.length tc) := by
      refine ⟨?_, ?_, ?_, ?_, ?_⟩ <;> simp [World.cell?, hqa]
    clear hqa
    by_cases hd4 : 40 < dep
    · have hq : decide ((40 : Int) < (dep : Int)) = true := decide_eq_true (by omega)
      go_wp2_with fail
      go_ret
      exact ⟨false, u1, by rfl, HXA.out, HBA.out.drew, HKA.out, by simp⟩
    have hq : decide ((40 : Int) < (dep : Int)) = false := decide_eq_false (by omega)
    by_cases hn0 : u1 < 0
    · have hq1 : decide (u1 < 0) = true := decide_eq_true hn0
      go_wp2_with fail
      go_ret
      exact ⟨false, u1, by rfl, HXA.out, HBA.out.drew, HKA.out, by simp⟩
    have hq1 : decide (u1 < 0) = false := decide_eq_false hn0
    by_cases hE : 20 < EN
    · have hq2 : decide ((20 : Int) < (EN : Int)) = true := decide_eq_true (by omega)
      go_wp2_with fail
      go_ret
      exact ⟨false, u1, by rfl, HXA.out, HBA.out.drew, HKA.out, by simp⟩
    have hq2 : decide ((20 : Int) < (EN : Int)) = false := decide_eq_false (by omega)
    by_cases hX : 20 < XN
    · have hq3 : decide ((20 : Int) < (XN : Int)) = true := decide_eq_true (by omega)
      go_wp2_with fail
      go_ret
      exact ⟨false, u1, by rfl, HXA.out, HBA.out.drew, HKA.out, by simp⟩
    have hq3 : decide ((20 : Int) < (XN : Int)) = false := decide_eq_false (by omega)
    by_cases hR : 40 < RN
    · have hq4 : decide ((40 : Int) < (RN : Int)) = true := decide_eq_true (by omega)
      go_wp2_with fail
      go_ret
      exact ⟨false, u1, by rfl, HXA.out, HBA.out.drew, HKA.out, by simp⟩
    have hq4 : decide ((40 : Int) < (RN : Int)) = false := decide_eq_false (by omega)
    go_wp2_with fail
    obtain ⟨NB, hNB⟩ : ∃ n, n = wA.heap.size := ⟨_, rfl⟩
    rw [← hNB]
    obtain ⟨wB, hwB⟩ : ∃ y, y = (wA.alloc (.cells #[.slice ka x.kids.length kc, .slice ta x.table.length tc] 25)).drew := ⟨_, rfl⟩
    rw [← hwB]
    have HRB := Lib.hid (show wB.heap[NB]? = some (.cells #[.slice ka x.kids.length kc, .slice ta x.table.length tc] 25 (0, 0)) from by rw [hwB, hNB]; exact heap_alloc_new wA _)
    have HXB := Lib.hid (show wB.heap[b]? = some (.cells #[.int .i64 u1] 3 (0, 0)) from by rw [hwB]; exact (Below.heap_alloc _ _ b (by omega)).trans HXA.out)
    have HBC := Lib.hid (show Below W0.heap.size W0 wB from by rw [hwB]; exact (HBA.out.alloc HBA.out.size _).drew)
    have HKB := Lib.hid (show KeepX b w wB from by rw [hwB]; exact KeepX.alloc (w1 := wA) HKA.out _)
    have HNb := Lib.hid (show b < NB ∧ w.heap.size ≤ NB from ⟨by omega, by omega⟩)
    have HD0 := Lib.hid (show DoneI d dep u u1 (PK x 0) from ⟨by simp [PK], by simp [PK]; omega, by omega, hu1b⟩)
    clear hwB hNB b0 bz g3 g4 g11 g12 g13 HXA HBA HKA hsA hltb
    go_loopw [57] (fun i wr => ∃ (k : Nat) (U : Int), k ≤ 2 ∧ i = .int .i64 k ∧ wr.heap[b]? = some (.cells #[.int .i64 U] 3 (0, 0)) ∧ Below W0.heap.size W0 wr ∧ KeepX b w wr ∧ wr.heap[NB]? = some (.cells #[.slice ka x.kids.length kc, .slice ta x.table.length tc] 25 (0, 0)) ∧ Hid (DoneI d dep u U (PK x k))) (fun i _ => 2 - (intOf i).toNat)
    case atStart => exact ⟨0, u1, by omega, rfl, HXB.out, HBC.out, HKB.out, HRB.out, HD0⟩
    case round =>
      obtain ⟨k, U, hk, rfl, hbx, hbr, hkr, hrb, HD⟩ := hrel
      have HQ := Lib.hid hbx
      have HBR := Lib.hid hbr
      have HKR := Lib.hid hkr
      have HRR := Lib.hid hrb
      obtain ⟨r0, r1⟩ := two_cellG hrb
      clear hbx hbr hkr hrb
      by_cases hk2 : k < 2
      · obtain ⟨la, lc, l, hcell, hln, HL, HP⟩ : ∃ la lc l, wr.cell? ⟨NB, k, none⟩ = some (.slice la l.length lc) ∧ l.length ≤ 9223372036854775807 ∧ Hid (ItemsD AnyG W0 (d + 1) (.slice la l.length lc) l) ∧ Hid (PK x (k + 1) = PK x k ++ l) := by
          have hm1 := K4.out.form
          have hm2 := K5.out.form
          obtain ⟨_, _, e1, q1, q2, _⟩ := hm1
          obtain ⟨_, _, e2, q3, q4, _⟩ := hm2
          unfold maxLen at q2 q4
          rcases (show k = 0 ∨ k = 1 by omega) with rfl | rfl
          · exact ⟨ka, kc, x.kids, r0, by omega, Lib.hid K4.out, Lib.hid (by simp [PK])⟩
          · exact ⟨ta, tc, x.table, r1, by omega, Lib.hid K5.out, Lib.hid (by simp [PK])⟩
        clear r0 r1
        have hqk : decide ((k : Int) < 2) = true := decide_eq_true (by omega)
        go_wp2_with fail
        go_loopw [63] (fun i wr => ∃ (j : Nat) (U : Int), j ≤ l.length ∧ i = .int .i64 j ∧ wr.heap[b]? = some (.cells #[.int .i64 U] 3 (0, 0)) ∧ Below W0.heap.size W0 wr ∧ KeepX b w wr ∧ wr.heap[NB]? = some (.cells #[.slice ka x.kids.length kc, .slice ta x.table.length tc] 25 (0, 0)) ∧ Hid (DoneI d dep u U (PK x k ++ l.take j))) (fun i _ => l.length - (intOf i).toNat)
        case atStart => exact ⟨0, U, by omega, rfl, HQ.out, HBR.out, HKR.out, HRR.out, Lib.hid (by simpa using HD.out)⟩
        case round =>
          obtain ⟨j, U2, hj, rfl, hbx, hbr, hkr, hrb, HD2⟩ := hrel
          have HQ2 := Lib.hid hbx
          have HBR2 := Lib.hid hbr
          have HKR2 := Lib.hid hkr
          have HRR2 := Lib.hid hrb
          clear hbx hbr hkr hrb hcell
          by_cases hjl : j < l.length
          · obtain ⟨g, o, c, ev, xv, rv, kv, tv, hv, _, _, _, hgl, ⟨c0, c1, c2, c3, c4, c5, c6, c7, c8, c9, c10, c11, c12, c13⟩, hiv⟩ := HL.out.elem j hjl
            simp only [Value.slice.injEq, true_and] at hv
            obtain ⟨rfl, rfl⟩ := hv
            have hg0 : ∀ p, (wr.cell? ⟨g, p, none⟩) = W0.cell? ⟨g, p, none⟩ := fun p => HBR2.out.cell (p := ⟨g, p, none⟩) hgl
            have e0 := (hg0 _).trans c0
            have e1 := (hg0 _).trans c1
            have e2 := (hg0 _).trans c2
            have e3 := (hg0 _).trans c3
            have e4 := (hg0 _).trans c4
            have e5 := (hg0 _).trans c5
            have e6 := (hg0 _).trans c6
            have e7 := (hg0 _).trans c7
            have e8 := (hg0 _).trans c8
            have e9 := (hg0 _).trans c9
            have e10 := (hg0 _).trans c10
            have e11 := (hg0 _).trans c11
            have e12 := (hg0 _).trans c12
            have e13 := (hg0 _).trans c13
            have HREC := Lib.hid (fun (W : World) (h1 : Below W0.heap.size W0 W) (h2 : W.heap[b]? = some (.cells #[.int .i64 U2] 3 (0, 0))) => HIH.out W _ l[j] (dep + 1) b U2 hiv h1 HBB.out h2 (by omega) HD2.out.2.2.1 HD2.out.2.2.2)
            rw [show (((dep + 1 : Nat) : Int)) = (dep : Int) + 1 by omega] at HREC
            obtain ⟨m1, m2, m3, m4, m5⟩ := hiv.forms
            obtain ⟨a3, q3, f3, _⟩ := m1.form
            obtain ⟨a4, q4, f4, _⟩ := m2.form
            obtain ⟨a11, q11, f11, _⟩ := m3.form
            obtain ⟨a12, q12, f12, _⟩ := m4.form
            obtain ⟨a13, q13, f13, _⟩ := m5.form
            rw [f3, f4, f11, f12, f13] at HREC
            rw [f3] at e3
            rw [f4] at e4
            rw [f11] at e11
            rw [f12] at e12
            rw [f13] at e13
            generalize l[j].entry.length = n3 at *
            generalize l[j].exit.length = n4 at *
            generalize l[j].roles.length = n11 at *
            generalize l[j].kids.length = n12 at *
            generalize l[j].table.length = n13 at *
            unfold item14 at HREC
            clear hg0 c0 c1 c2 c3 c4 c5 c6 c7 c8 c9 c10 c11 c12 c13 hiv m1 m2 m3 m4 m5 f3 f4 f11 f12 f13
            generalize l[j].id = i0 at *
            generalize l[j].nm = i1 at *
            generalize l[j].kind = i2 at *
            generalize l[j].man = i5 at *
            generalize l[j].req = i6 at *
            generalize l[j].rep = i7 at *
            generalize l[j].auto = i8 at *
            generalize l[j].free = i9 at *
            generalize l[j].after = i10 at *
            have hnbl : NB < wr.heap.size := (Array.getElem?_eq_some_iff.1 HRR2.out).1
            have HLT := Lib.hid (show b < wr.heap.size ∧ NB < wr.heap.size from ⟨by have := HNb.out; omega, hnbl⟩)
            have HW3 := Lib.hid (show Below W0.heap.size W0 (wr.alloc (.cells #[.string i0, .string i1, .int .i64 i2, .slice a3 n3 q3, .slice a4 n4 q4, .string i5, .string i6, .string i7, .bool i8, .bool i9, .int .i64 i10, .slice a11 n11 q11, .slice a12 n12 q12, .slice a13 n13 q13] 27)) ∧ (wr.alloc (.cells #[.string i0, .string i1, .int .i64 i2, .slice a3 n3 q3, .slice a4 n4 q4, .string i5, .string i6, .string i7, .bool i8, .bool i9, .int .i64 i10, .slice a11 n11 q11, .slice a12 n12 q12, .slice a13 n13 q13] 27)).heap[b]? = some (.cells #[.int .i64 U2] 3 (0, 0)) ∧ (wr.alloc (.cells #[.string i0, .string i1, .int .i64 i2, .slice a3 n3 q3, .slice a4 n4 q4, .string i5, .string i6, .string i7, .bool i8, .bool i9, .int .i64 i10, .slice a11 n11 q11, .slice a12 n12 q12, .slice a13 n13 q13] 27)).heap[NB]? = some (.cells #[.slice ka x.kids.length kc, .slice ta x.table.length tc] 25 (0, 0)) ∧ KeepX b w (wr.alloc (.cells #[.string i0, .string i1, .int .i64 i2, .slice a3 n3 q3, .slice a4 n4 q4, .string i5, .string i6, .string i7, .bool i8, .bool i9, .int .i64 i10, .slice a11 n11 q11, .slice a12 n12 q12, .slice a13 n13 q13] 27)) from
              ⟨HBR2.out.alloc HBR2.out.size _, (Below.heap_alloc _ _ _ HLT.out.1).trans HQ2.out, (Below.heap_alloc _ _ _ HLT.out.2).trans HRR2.out, HKR2.out.alloc _⟩)
            go_wp2_with fail
            refine (HREC.out _ HW3.out.1 HW3.out.2.1).mono ?_
            rintro e w4 ⟨q, U4, rfl, hx4, hb4, hk4, hq4⟩
            have HX4 := Lib.hid hx4
            have HB4 := Lib.hid hb4
            have HR4 := Lib.hid ((hk4.2 NB (by have := HLT.out.2; simp; omega) (by have := HNb.out; omega)).trans HW3.out.2.2.1)
            have HK4 := Lib.hid (HW3.out.2.2.2.trans hk4)
            have HQ4 := Lib.hid hq4
            clear hx4 hb4 hk4 hq4 e0 e1 e2 e3 e4 e5 e6 e7 e8 e9 e10 e11 e12 e13 hnbl
            cases q
            · go_wp2_with fail
              go_ret
              exact ⟨false, U4, by rfl, HX4.out, HB4.out, HK4.out, by simp⟩
            · go_wp2_with fail
              have hdn : Hid (DoneI d dep u U4 (PK x k ++ l.take (j + 1))) := by
                have hh : okI d (dep + 1) l[j] ∧ U4 + (cntI d l[j] : Nat) ≤ U2 ∧ 0 ≤ U4 := by simpa using HQ4.out
                have := HD2.out.snoc hh.1 hh.2.1 hh.2.2
                rwa [List.append_assoc, List.take_append_getElem hjl] at this
              go_roundw
              case rel => exact ⟨j + 1, U4, by omega, by go_num, HX4.out, HB4.out, HK4.out, HR4.out, hdn⟩
              case measure => simp [intOf]; omega
          · have hje : j = l.length := by omega
            subst hje
            go_wp2_with fail
            go_roundw
            case rel => exact ⟨k + 1, U2, by omega, by go_num, HQ2.out, HBR2.out, HKR2.out, HRR2.out, Lib.hid (by rw [HP.out]; simpa using HD2.out)⟩
            case measure => simp [intOf]; omega
      · have hke : k = 2 := by omega
        subst hke
        go_wp2_with fail
        go_ret
        refine ⟨true, U, by rfl, HQ.out, HBR.out, HKR.out, fun _ => ?_⟩
        obtain ⟨p1, p2, p3, p4⟩ := HD.out
        have h1 := H1.out
        have h2 := H2.out
        have h3 := H3.out
        refine ⟨⟨by omega, by omega, by omega, by omega, p1⟩, ?_, p3⟩
        simp only [cntI]
        simp only [PK] at p2
        omega
end Go.Proofs.Ytkapelpbepejfaa
