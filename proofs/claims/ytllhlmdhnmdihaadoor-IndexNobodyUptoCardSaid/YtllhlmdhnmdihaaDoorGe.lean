/- Copies of sentries (model.copiedSentries). Written by tools/genge.py. -/
import Derived.Test.YtllhlmdhnmdihaaDoorGd
import Derived.Shelf.Abstract
namespace Go.Proofs.YtllhlmdhnmdihaaDoor
open Go Go.RowKit Go.Deep Go.Shelf
set_option linter.unusedVariables false
set_option linter.unusedSimpArgs false

/-- A row of a call's own, cell for cell. -/
def Own1 (w : World) (g off : Nat) (E : TypeId) (n size c : Nat) (xs : List Value) : Prop :=
  ∃ cur, w.heap[g]? = some (.cells cur E (0, 0)) ∧ xs.length = n * size ∧ n ≤ c ∧ c ≤ maxLen ∧ ∀ j, j < xs.length → cur[off + j]? = xs[j]?
theorem OwnS.own1 {w : World} {base : Nat} {e : TypeId} {size : Nat} {v : Value} {n : Nat} {xs : List Value} (h : OwnS w base e size v n xs) (hn : 0 < n) :
    ∃ g off c, v = .slice (some ⟨g, off, none⟩) n c ∧ base ≤ g ∧ g < w.heap.size ∧ Own1 w g off e n size c xs := by
  have hl := h.1
  rcases h.2 with ⟨_, h0⟩ | ⟨g, off, cap, cur, rfl, hb, hg, k1, k2, k3, k4⟩
  · omega
  · refine ⟨g, off, cap, rfl, hb, (Array.getElem?_eq_some_iff.1 hg).1, cur, hg, hl, k1, k2, fun j hj => ?_⟩
    have : xs[j]? = ((cur.toList.drop off).take (n * size))[j]? := by rw [k4]
    rw [this, List.getElem?_take, if_pos (by omega), List.getElem?_drop]
    simp
theorem Own1.cell {w : World} {g off : Nat} {E : TypeId} {n size c : Nat} {xs : List Value} (h : Own1 w g off E n size c xs) (j : Nat) (u : Value) (hj : xs[j]? = some u) : w.cell? ⟨g, off + j, none⟩ = some u := by
  obtain ⟨cur, hg, hl, _, _, hx⟩ := h
  have hjl := (List.getElem?_eq_some_iff.1 hj).1
  rw [cell_of_row w g (off + j) cur E (0, 0) hg, ← hj, ← hx j hjl]
theorem Own1.frozen {w : World} {g off : Nat} {E : TypeId} {n size c : Nat} {xs : List Value} (h : Own1 w g off E n size c xs) (o : Nat) : w.frozen? ⟨g, o, none⟩ = false := by
  obtain ⟨cur, hg, _⟩ := h
  simp [World.frozen?, hg]
theorem Own1.keep {w w' : World} {g off : Nat} {E : TypeId} {n size c : Nat} {xs : List Value} (h : Own1 w g off E n size c xs) (hk : w'.heap[g]? = w.heap[g]?) : Own1 w' g off E n size c xs := by
  obtain ⟨cur, hg, r⟩ := h
  exact ⟨cur, hk.trans hg, r⟩
theorem Own1.set {w : World} {g off : Nat} {E : TypeId} {n size c : Nat} {xs : List Value} (h : Own1 w g off E n size c xs) (j : Nat) (hj : j < xs.length) (u : Value) : Own1 (w.setCell ⟨g, off + j, none⟩ u) g off E n size c (xs.set j u) := by
  obtain ⟨cur, hg, hl, h1, h2, hx⟩ := h
  have hsz : off + j < cur.size := by
    have := hx j hj
    rw [List.getElem?_eq_getElem hj] at this
    exact (Array.getElem?_eq_some_iff.1 this).1
  refine ⟨cur.setIfInBounds (off + j) u, by simp [World.setCell, Array.getElem?_modify, hg], by simpa using hl, h1, h2, fun i hi => ?_⟩
  rw [List.length_set] at hi
  rw [Array.getElem?_setIfInBounds, List.getElem?_set]
  by_cases e : j = i
  · subst e
    simp [hsz, hj]
  · rw [if_neg (by omega), if_neg e]
    exact hx i hi
theorem Own1.set0 {w : World} {g off : Nat} {E : TypeId} {n size c : Nat} {xs : List Value} (h : Own1 w g off E n size c xs) (hj : 0 < xs.length) (u : Value) : Own1 (w.setCell ⟨g, off, none⟩ u) g off E n size c (xs.set 0 u) := h.set 0 hj u

theorem setG_far (w : World) {b g o : Nat} (h : g ≠ b) (v : Value) : (w.setCell ⟨b, o, none⟩ v).heap[g]? = w.heap[g]? := by simp [World.setCell, Array.getElem?_modify, Ne.symm h]
theorem Own1.rdn {w : World} {g off : Nat} {E : TypeId} {n size c : Nat} {xs : List Value} (h : Own1 w g off E n size c xs) (h1 : ∀ u ∈ xs, u.oneCell' = true) {S : Nat → Prop} (hS : S g) : RdN S w (.slice (some ⟨g, off, none⟩) n c) n size xs := by
  have h' := h
  obtain ⟨cur, hg, hl, hc, hm, hx⟩ := h
  exact ⟨hl, h1, _, c, rfl, hc, hm, by simp, fun _ => ⟨g, off, rfl, hS, (Array.getElem?_eq_some_iff.1 hg).1, fun j u hu => h'.cell j u hu⟩⟩
theorem Own1.lt {w : World} {g off : Nat} {E : TypeId} {n size c : Nat} {xs : List Value} (h : Own1 w g off E n size c xs) : g < w.heap.size := by
  obtain ⟨cur, hg, _⟩ := h
  exact (Array.getElem?_eq_some_iff.1 hg).1
/-- Cells stored one behind the other. -/
def putL : World → Nat → Nat → List Value → World
  | w, _, _, [] => w
  | w, g, o, c :: r => putL (w.setCell ⟨g, o, none⟩ c) g (o + 1) r
theorem putL_far : ∀ (ys : List Value) (w : World) (g o : Nat) {b : Nat}, b ≠ g → (putL w g o ys).heap[b]? = w.heap[b]?
  | [], _, _, _, _, _ => rfl
  | c :: r, w, g, o, b, h => (putL_far r _ g (o + 1) h).trans (setG_far w h c)
theorem putL_size : ∀ (ys : List Value) (w : World) (g o : Nat), (putL w g o ys).heap.size = w.heap.size
  | [], _, _, _ => rfl
  | c :: r, w, g, o => (putL_size r _ g (o + 1)).trans (by simp [World.setCell])
theorem putL_below : ∀ (ys : List Value) {w0 w : World} {B : Nat} (g o : Nat), Below B w0 w → B ≤ g → Below B w0 (putL w g o ys)
  | [], _, _, _, _, _, h, _ => h
  | c :: r, w0, w, B, g, o, h, hb => putL_below r g (o + 1) (h.setCell (p := ⟨g, o, none⟩) hb c) hb
theorem set_take {xs : List Value} {i : Nat} (c : Value) (hi : i < xs.length) : xs.set i c = xs.take i ++ c :: xs.drop (i + 1) := by
  rw [List.set_eq_take_append_cons_drop, if_pos hi]
theorem Own1.putL : ∀ (ys : List Value) {w : World} {g off : Nat} {E : TypeId} {n size c : Nat} {xs : List Value} (h : Own1 w g off E n size c xs) (i : Nat), i + ys.length ≤ xs.length → Own1 (putL w g (off + i) ys) g off E n size c (xs.take i ++ ys ++ xs.drop (i + ys.length))
  | [], w, g, off, E, n, size, c, xs, h, i, hi => by
    have e : xs.take i ++ [] ++ xs.drop (i + ([] : List Value).length) = xs := by simp
    rw [e]
    exact h
  | y :: r, w, g, off, E, n, size, c, xs, h, i, hi => by
    have hi' : i + (r.length + 1) ≤ xs.length := by simpa using hi
    have h1 := h.set i (by omega) y
    have h2 := Own1.putL r h1 (i + 1) (by simp; omega)
    have e : (xs.set i y).take (i + 1) ++ r ++ (xs.set i y).drop (i + 1 + r.length) = xs.take i ++ (y :: r) ++ xs.drop (i + (y :: r).length) := by
      rw [set_take y (by omega), List.take_append, List.drop_append]
      have hl : (xs.take i).length = i := by rw [List.length_take]; omega
      rw [hl, show i + 1 - i = 1 by omega, List.take_of_length_le (by omega : (xs.take i).length ≤ i + 1), List.drop_of_length_le (by omega : (xs.take i).length ≤ i + 1 + r.length), show i + 1 + r.length - i = r.length + 1 by omega]
      simp only [List.take_succ_cons, List.take_zero, List.drop_succ_cons, List.drop_drop, List.nil_append, List.length_cons, List.append_assoc, List.cons_append]
      rw [show i + 1 + r.length = i + (r.length + 1) by omega]
    rw [e] at h2
    exact h2
theorem sent_len (p : Value × ST) : ([p.1, .string p.2.cond] : List Value).length = 2 := rfl
theorem sentCells_len (ps : List (Value × ST)) : (sentCells ps).length = ps.length * 2 := flat_len (fun x _ => sent_len x)
theorem sentCells_set (qs ps : List (Value × ST)) (k : Nat) (hk : k < ps.length) (hq : qs.length = k) (v : Value) : (sentCells (qs ++ ps.drop k)).set (k * 2) v = sentCells ((qs ++ [(v, ps[k].2)]) ++ ps.drop (k + 1)) := by
  rw [List.drop_eq_getElem_cons hk]
  unfold sentCells
  simp only [List.flatMap_append, List.flatMap_cons, List.flatMap_nil, List.append_nil, List.append_assoc]
  rw [List.set_append, if_neg (by rw [flat_len (fun x _ => sent_len x), hq]; omega), flat_len (fun x _ => sent_len x), hq, Nat.sub_self]
  rfl
theorem OnsD.one {S : Nat → Prop} {w : World} {v : Value} {l : List OT} (h : OnsD S w v l) : v.oneCell' = true := by
  obtain ⟨a, c, hv, _⟩ := h.1.form
  rw [hv]; rfl
theorem onCells_one (l : List OT) : ∀ u ∈ onCells l, u.oneCell' = true := by
  intro u hu
  obtain ⟨x, _, hx⟩ := List.mem_flatMap.1 hu
  simp only [List.mem_cons, List.not_mem_nil, or_false] at hx
  rcases hx with rfl | rfl | rfl <;> rfl
theorem sentCells_one {S : Nat → Prop} {w : World} {ps : List (Value × ST)} (h : ∀ p ∈ ps, OnsD S w p.1 p.2.on) : ∀ u ∈ sentCells ps, u.oneCell' = true := by
  intro u hu
  obtain ⟨x, hx, hxu⟩ := List.mem_flatMap.1 hu
  simp only [List.mem_cons, List.not_mem_nil, or_false] at hxu
  rcases hxu with rfl | rfl
  · exact (h x hx).one
  · rfl
/-- What a copy of sentries is. -/
def CopSC (w : World) (l : List ST) (e : Ending) (w' : World) : Prop := ∃ v', e = .returned v' ∧ SentsD (fun b => w.heap.size ≤ b) w' v' l ∧ Below w.heap.size w w'
/-- While they are copied. -/
def CopSI (w : World) (ps : List (Value × ST)) (g off n c k : Nat) (wr : World) : Prop :=
  ∃ qs : List (Value × ST), qs.length = k ∧ qs.map (·.2) = (ps.take k).map (·.2) ∧ (∀ p ∈ qs, OnsD (fun b => w.heap.size ≤ b ∧ b ≠ g) wr p.1 p.2.on) ∧ Own1 wr g off 60 n 2 c (sentCells (qs ++ ps.drop k)) ∧ Below w.heap.size w wr ∧ w.heap.size ≤ g
theorem CopSI.step {w : World} {ps : List (Value × ST)} {g off n c k : Nat} {wr w4 : World} (h : CopSI w ps g off n c k wr) (hk : k < ps.length) (hb : Below wr.heap.size wr w4) {v : Value} (hv : OnsD (fun b => wr.heap.size ≤ b) w4 v ps[k].2.on) : CopSI w ps g off n c (k + 1) (w4.setCell ⟨g, off + k * 2, none⟩ v) := by
  obtain ⟨qs, h1, h2, h3, h4, h5, h6⟩ := h
  have hgl := h4.lt
  refine ⟨qs ++ [(v, ps[k].2)], by simp [h1], ?_, ?_, ?_, (h5.trans (hb.mono h5.size)).setCell (p := ⟨g, off + k * 2, none⟩) h6 _, h6⟩
  · rw [List.map_append, h2, ← List.take_append_getElem hk, List.map_append]
    rfl
  · intro p hp
    rcases List.mem_append.1 hp with hp | hp
    · exact ((h3 p hp).keep hb.size (fun b _ hl => hb.block b hl)).keep (by simp [World.setCell]) (fun b hS _ => setG_far _ hS.2 _)
    · simp only [List.mem_singleton] at hp
      subst hp
      have := h5.size
      exact (hv.mono (S' := fun b => w.heap.size ≤ b ∧ b ≠ g) (fun b _ hS => ⟨by omega, by omega⟩)).keep (by simp [World.setCell]) (fun b hS _ => setG_far _ hS.2 _)
  · have hl : k * 2 < (sentCells (qs ++ ps.drop k)).length := by rw [sentCells_len, List.length_append, h1, List.length_drop]; omega
    have := (h4.keep (hb.block g hgl)).set (k * 2) hl v
    rwa [sentCells_set qs ps k hk h1 v] at this

set_option maxRecDepth 100000 in
set_option maxHeartbeats 1000000 in
theorem copSents_c {S : Nat → Prop} (w : World) (v : Value) (l : List ST) (h : SentsD S w v l) : Calls Tryd.prog 46 #[v] w (CopSC w l) := by
  obtain ⟨ps, rfl, hr, hlen, hon⟩ := h
  obtain ⟨n, hn⟩ : ∃ n, n = ps.length := ⟨_, rfl⟩
  have HC := Lib.hid (cloneSentG w v ps.length (sentCells ps) hr hlen)
  obtain ⟨a, c, hv, _⟩ := hr.form
  rw [← hn] at hv HC
  have HLEN := Lib.hid hlen
  have HON := Lib.hid hon
  have HNN := Lib.hid hn
  have hnb : n ≤ 9223372036854775807 := by omega
  subst hv
  clear hr hlen hon hn
  go_enter Tryd.func46, Tryd.ntmps46
  go_wp2_with fail
  refine HC.out.mono ?_
  rintro e w1 ⟨v1, rfl, hown, hb1⟩
  rcases Nat.eq_zero_or_pos n with h0 | h0
  · have hps : ps = [] := List.eq_nil_of_length_eq_zero (by have := HNN.out; omega)
    have HO := Lib.hid (hown.rdn (by subst hps; simp [sentCells]))
    have HB := Lib.hid hb1
    obtain ⟨a1, c1, rfl, _⟩ := hown.form
    clear hown hb1
    subst h0
    go_wp2_with fail
    go_loopw [9] (fun s wr => s = .int .i64 0 ∧ wr = w1) (fun _ _ => 0)
    case atStart => exact ⟨rfl, rfl⟩
    case round =>
      obtain ⟨rfl, rfl⟩ := hrel
      go_wp2_with fail
      go_ret
      refine ⟨_, rfl, ⟨[], by simp [hps], ?_, by simp, by simp⟩, HB.out⟩
      have := HO.out
      rw [hps] at this
      exact this
  · obtain ⟨g, off, c1, rfl, hg1, hg2, how⟩ := hown.own1 h0
    have HI0 := Lib.hid (show CopSI w ps g off n c1 0 w1 from ⟨[], rfl, rfl, by simp, by simpa using how, hb1, hg1⟩)
    clear hown hb1 how hg1 hg2
    go_wp2_with fail
    go_loopw [9] (fun s wr => ∃ k : Nat, k ≤ n ∧ s = .int .i64 k ∧ CopSI w ps g off n c1 k wr) (fun s _ => n - (intOf s).toNat)
    case atStart => exact ⟨0, by omega, rfl, HI0.out⟩
    case round =>
      obtain ⟨k, hk, rfl, hI⟩ := hrel
      have HI := Lib.hid hI
      obtain ⟨qs, h1, h2, h3, h4, h5, h6⟩ := hI
      have hgl := h4.lt
      by_cases hlt : k < n
      · have hkp : k < ps.length := by have := HNN.out; omega
        have hd0 := fun j (hj : j < 2) u (hu : ([ps[k].1, .string ps[k].2.cond] : List Value)[j]? = some u) => h4.cell (k * 2 + j) u (by
          have e := flat_at (f := fun p : Value × ST => ([p.1, .string p.2.cond] : List Value)) (l := qs ++ ps.drop k) (fun x _ => sent_len x) k (by rw [List.length_append, h1, List.length_drop]; omega) j hj
          rw [List.getElem_append_right (by omega)] at e
          simp only [h1, Nat.sub_self, List.getElem_drop, Nat.add_zero] at e
          unfold sentCells
          rw [e]
          exact hu)
        have d0 := hd0 0 (by omega) _ rfl
        have d1 := hd0 1 (by omega) _ rfl
        have hfr := h4.frozen
        have ho := HON.out ps[k] (List.getElem_mem hkp)
        obtain ⟨pa, pc, hpv, _⟩ := ho.1.form
        have HCL := Lib.hid (fun (W : World) (hb : Below w.heap.size w W) => cloneOnG W ps[k].1 _ (onCells ps[k].2.on) (ho.1.keep hb.size (fun b _ hl => hb.block b hl)) ho.2)
        rw [hpv] at d0 HCL
        generalize hol : ps[k].2.on.length = on at *
        generalize hcd : ps[k].2.cond = cd at *
        have HOL := Lib.hid hol
        simp only [← Nat.add_assoc, Nat.add_zero] at d0 d1
        have HBW := Lib.hid (h5.alloc h5.size (.cells #[.slice pa on pc, .string cd] 60))
        have HG := Lib.hid (And.intro h6 hgl)
        have HOB := Lib.hid (show on * 40 ≤ 140737488355328 from by rw [← hol]; exact ho.2)
        have HKP := Lib.hid hkp
        have HFR := Lib.hid h4
        clear hd0 h1 h2 h3 h4 h5 h6 ho hpv hol hcd
        go_wp2_with fail
        refine (HCL.out _ HBW.out).mono ?_
        rintro e w4 ⟨v4, rfl, ho4, hb4⟩
        have HN := Lib.hid (HI.out.step (v := v4) HKP.out (((Below.refl _ _).alloc (Nat.le_refl _) (.cells #[.slice pa on pc, .string cd] 60)).trans (hb4.mono (by simp))) ⟨by rw [HOL.out]; exact ((ho4.rdn (onCells_one _)).mono (fun b _ hS => by simp at hS; omega)), by rw [HOL.out]; exact HOB.out⟩)
        obtain ⟨a4, c4, rfl, _⟩ := ho4.form
        have hfr := (HFR.out.keep ((hb4.block g (by simp; omega)).trans (Below.heap_alloc _ _ g hgl))).frozen
        have f0 := (hb4.cell (p := ⟨g, off + k * 2, none⟩) (by simp; omega)).trans ((((Below.refl wr.heap.size wr).alloc (Nat.le_refl _) (.cells #[.slice pa on pc, .string cd] 60)).cell (p := ⟨g, off + k * 2, none⟩) hgl).trans d0)
        clear ho4 hb4 d0 d1
        go_wp2_with fail
        go_roundw
        case rel => exact ⟨k + 1, by omega, by go_num, HN.out⟩
        case measure => simp [intOf]; omega
      · have hke : k = ps.length := by have := HNN.out; omega
        have HE := Lib.hid (show SentsD (fun b => w.heap.size ≤ b) wr (.slice (some ⟨g, off, none⟩) n c1) (ps.map (·.2)) ∧ Below w.heap.size w wr from by
          subst hke
          rw [List.drop_length, List.append_nil] at h4
          rw [List.take_length] at h2
          have hql : qs.length = n := by rw [h1, HNN.out]
          refine ⟨⟨qs, h2, ?_, by rw [hql]; have := HLEN.out; have := HNN.out; omega, fun p hp => (h3 p hp).mono (fun b _ hS => hS.1)⟩, h5⟩
          have := h4.rdn (sentCells_one h3) (S := fun b => w.heap.size ≤ b) h6
          rw [hql]
          exact this)
        clear h1 h2 h3 h4 h5 h6
        go_wp2_with fail
        go_ret
        exact ⟨_, rfl, HE.out⟩
end Go.Proofs.YtllhlmdhnmdihaaDoor
