/- Copies of items: a list of them; the whole recursion. Written by tools/gengg.py. -/
import Derived.Test.YtllhlmdhnmdihaaDoorGf
namespace Go.Proofs.YtllhlmdhnmdihaaDoor
open Go Go.RowKit Go.Deep Go.Shelf
set_option linter.unusedVariables false
set_option linter.unusedSimpArgs false

theorem ItemV.len {S : Nat → Prop} {w : World} {d : Nat} {cs : List Value} {x : IT} (h : ItemV S w d cs x) : cs.length = 14 := by
  obtain ⟨_, ev, xv, rv, kv, tv, rfl, _⟩ := h
  rfl
theorem ItemV.one {S : Nat → Prop} {w : World} {d : Nat} {cs : List Value} {x : IT} (h : ItemV S w d cs x) : ∀ u ∈ cs, u.oneCell' = true := by
  obtain ⟨_, ev, xv, rv, kv, tv, rfl, k1, k2, k3, k4, k5⟩ := h
  obtain ⟨_, _, f1, _⟩ := k1.form
  obtain ⟨_, _, f2, _⟩ := k2.form
  obtain ⟨_, _, f3, _⟩ := k3.form
  obtain ⟨_, _, f4, _⟩ := k4.form
  obtain ⟨_, _, f5, _⟩ := k5.form
  subst f1 f2 f3 f4 f5
  intro u hu
  simp only [item14, List.mem_cons, List.not_mem_nil, or_false] at hu
  rcases hu with rfl | rfl | rfl | rfl | rfl | rfl | rfl | rfl | rfl | rfl | rfl | rfl | rfl | rfl <;> rfl
theorem ItemV.below {S : Nat → Prop} {w w' : World} {d : Nat} {cs : List Value} {x : IT} (h : ItemV S w d cs x) (hb : Below w.heap.size w w') : ItemV S w' d cs x := h.keep hb.size (fun k _ hl => hb.block k hl)
def rowsI (ps : List (List Value × IT)) : List Value := ps.flatMap (·.1)
theorem rowsI_put (qs ps : List (List Value × IT)) (k : Nat) (hk : k < ps.length) (hq : qs.length = k) (hq14 : ∀ p ∈ qs, p.1.length = 14) (hp14 : ∀ p ∈ ps, p.1.length = 14) (cs : List Value) (hc : cs.length = 14) :
    (rowsI (qs ++ ps.drop k)).take (k * 14) ++ cs ++ (rowsI (qs ++ ps.drop k)).drop (k * 14 + cs.length) = rowsI ((qs ++ [(cs, ps[k].2)]) ++ ps.drop (k + 1)) := by
  have hl : (qs.flatMap (·.1)).length = k * 14 := by rw [flat_len hq14, hq]
  have hl2 : (ps[k].1).length = 14 := hp14 _ (List.getElem_mem hk)
  rw [List.drop_eq_getElem_cons hk]
  unfold rowsI
  simp only [List.flatMap_append, List.flatMap_cons, List.flatMap_nil, List.append_nil, List.append_assoc]
  rw [List.take_append_of_le_length (by omega), List.take_of_length_le (by omega), hc, List.drop_append, List.drop_of_length_le (by omega), hl, show k * 14 + 14 - k * 14 = 14 by omega, List.nil_append, List.drop_append_of_le_length (by omega), List.drop_of_length_le (by omega), List.nil_append]
/-- While they are copied. -/
def CopII (d : Nat) (w : World) (ps : List (List Value × IT)) (g off n c k : Nat) (wr : World) : Prop :=
  ∃ qs : List (List Value × IT), qs.length = k ∧ qs.map (·.2) = (ps.take k).map (·.2) ∧ (∀ p ∈ qs, ItemV (fun b => w.heap.size ≤ b ∧ b ≠ g) wr d p.1 p.2) ∧ Own1 wr g off 36 n 14 c (rowsI (qs ++ ps.drop k)) ∧ Below w.heap.size w wr ∧ w.heap.size ≤ g
theorem CopII.step {d : Nat} {w : World} {ps : List (List Value × IT)} {g off n c k : Nat} {wr w4 : World} (h : CopII d w ps g off n c k wr) (hk : k < ps.length) (hp14 : ∀ p ∈ ps, p.1.length = 14) (hb : Below wr.heap.size wr w4) {cs : List Value} (hv : ItemV (fun b => wr.heap.size ≤ b) w4 d cs ps[k].2) : CopII d w ps g off n c (k + 1) (putL w4 g (off + k * 14) cs) := by
  obtain ⟨qs, h1, h2, h3, h4, h5, h6⟩ := h
  have hgl := h4.lt
  have hq14 : ∀ p ∈ qs, p.1.length = 14 := fun p hp => (h3 p hp).len
  refine ⟨qs ++ [(cs, ps[k].2)], by simp [h1], ?_, ?_, ?_, putL_below _ _ _ (h5.trans (hb.mono h5.size)) h6, h6⟩
  · rw [List.map_append, h2, ← List.take_append_getElem hk, List.map_append]
    rfl
  · intro p hp
    rcases List.mem_append.1 hp with hp | hp
    · exact ((h3 p hp).below hb).keep (Nat.le_of_eq (putL_size _ _ _ _).symm) (fun b hS _ => putL_far _ _ _ _ hS.2)
    · simp only [List.mem_singleton] at hp
      subst hp
      have := h5.size
      exact (hv.mono (S' := fun b => w.heap.size ≤ b ∧ b ≠ g) (fun b _ hS => ⟨by omega, by omega⟩)).keep (Nat.le_of_eq (putL_size _ _ _ _).symm) (fun b hS _ => putL_far _ _ _ _ hS.2)
  · have hlen : (rowsI (qs ++ ps.drop k)).length = (qs ++ ps.drop k).length * 14 := flat_len (fun p hp => by
      rcases List.mem_append.1 hp with hp | hp
      · exact hq14 p hp
      · exact hp14 p (List.mem_of_mem_drop hp))
    have hl : k * 14 + cs.length ≤ (rowsI (qs ++ ps.drop k)).length := by rw [hlen, hv.len, List.length_append, h1, List.length_drop]; omega
    have := (h4.keep (hb.block g hgl)).putL cs (k * 14) hl
    rwa [rowsI_put qs ps k hk h1 hq14 hp14 cs hv.len] at this

set_option maxRecDepth 100000 in
set_option maxHeartbeats 2000000 in
theorem copItems_b (d : Nat) (HC : ∀ (S : Nat → Prop) (W : World) (cs : List Value) (x : IT), ItemV S W d cs x → Calls Tryd.prog 33 #[.agg cs.toArray] W (CopIt d W x)) {S : Nat → Prop} (w : World) (v : Value) (l : List IT) (h : ItemsD S w (d + 1) v l) :
    Calls Tryd.prog 48 #[v] w (CopIC (d + 1) w l) := by
  obtain ⟨ps, rfl, hr, hlen, hon⟩ := h
  have hon' : ∀ p ∈ ps, ItemV S w d p.1 p.2 := hon
  obtain ⟨n, hn⟩ : ∃ n, n = ps.length := ⟨_, rfl⟩
  have HCC := Lib.hid HC
  have HCL := Lib.hid (cloneItemG w v ps.length (rowsI ps) hr hlen)
  obtain ⟨a, c, hv, _⟩ := hr.form
  rw [← hn] at hv HCL
  have HLEN := Lib.hid hlen
  have HON := Lib.hid hon'
  have HNN := Lib.hid hn
  have HP14 := Lib.hid (show ∀ p ∈ ps, p.1.length = 14 from fun p hp => (hon' p hp).len)
  have hnb : n ≤ 9223372036854775807 := by omega
  subst hv
  clear hr hlen hon hon' hn HC
  go_enter Tryd.func48, Tryd.ntmps48
  go_wp2_with fail
  refine HCL.out.mono ?_
  rintro e w1 ⟨v1, rfl, hown, hb1⟩
  rcases Nat.eq_zero_or_pos n with h0 | h0
  · have hps : ps = [] := List.eq_nil_of_length_eq_zero (by have := HNN.out; omega)
    have HO := Lib.hid (hown.rdn (by subst hps; simp [rowsI]))
    have HB := Lib.hid hb1
    obtain ⟨a1, c1, rfl, _⟩ := hown.form
    clear hown hb1
    subst h0
    go_wp2_with fail
    go_loopw [9] (fun s wr => s = .int .i64 0 ∧ wr = w1) (fun _ _ => 0)
    case atStart => exact ⟨rfl, rfl⟩
    case round =>
      obtain ⟨rfl, rfl⟩ := hrel
      go_wp2_with fail
      go_ret
      refine ⟨_, rfl, ⟨[], by simp [hps], ?_, by simp, by simp⟩, HB.out⟩
      have := HO.out
      rw [hps] at this
      exact this
  · obtain ⟨g, off, c1, rfl, hg1, hg2, how⟩ := hown.own1 h0
    have HI0 := Lib.hid (show CopII d w ps g off n c1 0 w1 from ⟨[], rfl, rfl, by simp, by simpa using how, hb1, hg1⟩)
    clear hown hb1 how hg1 hg2
    go_wp2_with fail
    go_loopw [9] (fun s wr => ∃ k : Nat, k ≤ n ∧ s = .int .i64 k ∧ CopII d w ps g off n c1 k wr) (fun s _ => n - (intOf s).toNat)
    case atStart => exact ⟨0, by omega, rfl, HI0.out⟩
    case round =>
      obtain ⟨k, hk, rfl, hI⟩ := hrel
      have HI := Lib.hid hI
      obtain ⟨qs, h1, h2, h3, h4, h5, h6⟩ := hI
      have hgl := h4.lt
      by_cases hlt : k < n
      · have hkp : k < ps.length := by have := HNN.out; omega
        have ho := HON.out ps[k] (List.getElem_mem hkp)
        have hd0 := fun j (hj : j < 14) u (hu : (ps[k].1)[j]? = some u) => h4.cell (k * 14 + j) u (by
          have e := flat_at (f := fun p : List Value × IT => p.1) (l := qs ++ ps.drop k) (m := 14) (fun p hp => by
            rcases List.mem_append.1 hp with hp | hp
            · exact (h3 p hp).len
            · exact HP14.out p (List.mem_of_mem_drop hp)) k (by rw [List.length_append, h1, List.length_drop]; omega) j hj
          rw [List.getElem_append_right (by omega)] at e
          simp only [h1, Nat.sub_self, List.getElem_drop, Nat.add_zero] at e
          unfold rowsI
          rw [e]
          exact hu)
        obtain ⟨y, hy⟩ : ∃ y, y = ps[k].2 := ⟨_, rfl⟩
        have HSTEP := Lib.hid (fun (w4 : World) (hb : Below wr.heap.size wr w4) (cs : List Value) (hv : ItemV (fun b => wr.heap.size ≤ b) w4 d cs y) => HI.out.step hkp HP14.out hb (hy ▸ hv))
        obtain ⟨ps1, hps1⟩ : ∃ z, z = ps[k].1 := ⟨_, rfl⟩
        rw [← hps1] at hd0 ho
        rw [← hy] at ho
        have HCO := Lib.hid (fun (W : World) (hb : Below w.heap.size w W) => HCC.out _ W ps1 y (ho.below hb))
        obtain ⟨j0, j1, j2, en, ex, j5, j6, j7, j8, j9, j10, ro, ki, tb⟩ := y
        obtain ⟨hok, ev, xv, rv, kv, tv, e, k1, k2, k3, k4, k5⟩ := ho
        subst e
        obtain ⟨a3, q3, f3, _⟩ := k1.form
        obtain ⟨a4, q4, f4, _⟩ := k2.form
        obtain ⟨a11, q11, f11, _⟩ := k3.form
        obtain ⟨a12, q12, f12, _⟩ := k4.form
        obtain ⟨a13, q13, f13, _⟩ := k5.form
        subst f3 f4 f11 f12 f13
        dsimp only [IT.entry, IT.exit, IT.roles, IT.kids, IT.table] at hd0 HCO
        simp only [item14, IT.id, IT.nm, IT.kind, IT.man, IT.req, IT.rep, IT.auto, IT.free, IT.after] at hd0 HCO

        have d0 := hd0 0 (by omega) _ rfl
        have d1 := hd0 1 (by omega) _ rfl
        have d2 := hd0 2 (by omega) _ rfl
        have d3 := hd0 3 (by omega) _ rfl
        have d4 := hd0 4 (by omega) _ rfl
        have d5 := hd0 5 (by omega) _ rfl
        have d6 := hd0 6 (by omega) _ rfl
        have d7 := hd0 7 (by omega) _ rfl
        have d8 := hd0 8 (by omega) _ rfl
        have d9 := hd0 9 (by omega) _ rfl
        have d10 := hd0 10 (by omega) _ rfl
        have d11 := hd0 11 (by omega) _ rfl
        have d12 := hd0 12 (by omega) _ rfl
        have d13 := hd0 13 (by omega) _ rfl
        simp only [← Nat.add_assoc, Nat.add_zero] at d0 d1 d2 d3 d4 d5 d6 d7 d8 d9 d10 d11 d12 d13
        have HBW := Lib.hid (h5.alloc h5.size (.cells #[.string j0, .string j1, .int .i64 j2, .slice a3 en.length q3, .slice a4 ex.length q4, .string j5, .string j6, .string j7, .bool j8, .bool j9, .int .i64 j10, .slice a11 ro.length q11, .slice a12 ki.length q12, .slice a13 tb.length q13] 36))
        have HG := Lib.hid (And.intro h6 hgl)
        have HFR := Lib.hid h4
        have hfr := h4.frozen
        clear hd0 h1 h2 h3 h4 h5 h6 k1 k2 k3 k4 k5 hok hy hps1
        generalize en.length = n3 at *
        generalize ex.length = n4 at *
        generalize ro.length = n11 at *
        generalize ki.length = n12 at *
        generalize tb.length = n13 at *
        go_wp2_with fail
        refine (HCO.out _ HBW.out).mono ?_
        rintro e w4 ⟨cs4, rfl, hv4, hb4⟩
        have hba : Below wr.heap.size wr w4 := ((Below.refl _ _).alloc (Nat.le_refl _) (.cells #[.string j0, .string j1, .int .i64 j2, .slice a3 n3 q3, .slice a4 n4 q4, .string j5, .string j6, .string j7, .bool j8, .bool j9, .int .i64 j10, .slice a11 n11 q11, .slice a12 n12 q12, .slice a13 n13 q13] 36)).trans (hb4.mono (by simp))
        have HN := Lib.hid (HSTEP.out w4 hba cs4 (hv4.mono (fun b _ hS => by simp at hS; omega)))
        obtain ⟨_, ev, xv, rv, kv, tv, e, k1, k2, k3, k4, k5⟩ := hv4
        subst e
        obtain ⟨b3, p3, f3, _⟩ := k1.form
        obtain ⟨b4, p4, f4, _⟩ := k2.form
        obtain ⟨b11, p11, f11, _⟩ := k3.form
        obtain ⟨b12, p12, f12, _⟩ := k4.form
        obtain ⟨b13, p13, f13, _⟩ := k5.form
        subst f3 f4 f11 f12 f13
        dsimp only [IT.entry, IT.exit, IT.roles, IT.kids, IT.table] at HN ⊢
        simp only [item14, IT.id, IT.nm, IT.kind, IT.man, IT.req, IT.rep, IT.auto, IT.free, IT.after] at HN ⊢
        generalize en.length = m3 at *
        generalize ex.length = m4 at *
        generalize ro.length = m11 at *
        generalize ki.length = m12 at *
        generalize tb.length = m13 at *
        have f0 := (hba.cell (p := ⟨g, off + k * 14, none⟩) hgl).trans d0
        have f1 := (hba.cell (p := ⟨g, off + k * 14 + 1, none⟩) hgl).trans d1
        have f2 := (hba.cell (p := ⟨g, off + k * 14 + 2, none⟩) hgl).trans d2
        have f3 := (hba.cell (p := ⟨g, off + k * 14 + 3, none⟩) hgl).trans d3
        have f4 := (hba.cell (p := ⟨g, off + k * 14 + 4, none⟩) hgl).trans d4
        have f5 := (hba.cell (p := ⟨g, off + k * 14 + 5, none⟩) hgl).trans d5
        have f6 := (hba.cell (p := ⟨g, off + k * 14 + 6, none⟩) hgl).trans d6
        have f7 := (hba.cell (p := ⟨g, off + k * 14 + 7, none⟩) hgl).trans d7
        have f8 := (hba.cell (p := ⟨g, off + k * 14 + 8, none⟩) hgl).trans d8
        have f9 := (hba.cell (p := ⟨g, off + k * 14 + 9, none⟩) hgl).trans d9
        have f10 := (hba.cell (p := ⟨g, off + k * 14 + 10, none⟩) hgl).trans d10
        have f11 := (hba.cell (p := ⟨g, off + k * 14 + 11, none⟩) hgl).trans d11
        have f12 := (hba.cell (p := ⟨g, off + k * 14 + 12, none⟩) hgl).trans d12
        have f13 := (hba.cell (p := ⟨g, off + k * 14 + 13, none⟩) hgl).trans d13
        have hfr := (HFR.out.keep (hba.block g hgl)).frozen
        clear hba hb4 k1 k2 k3 k4 k5 d0 d1 d2 d3 d4 d5 d6 d7 d8 d9 d10 d11 d12 d13
        go_wp2_with fail
        go_roundw
        case rel => exact ⟨k + 1, by omega, by go_num, HN.out⟩
        case measure => simp [intOf]; omega
      · have hke : k = ps.length := by have := HNN.out; omega
        have HE := Lib.hid (show ItemsD (fun b => w.heap.size ≤ b) wr (d + 1) (.slice (some ⟨g, off, none⟩) n c1) (ps.map (·.2)) ∧ Below w.heap.size w wr from by
          subst hke
          rw [List.drop_length, List.append_nil] at h4
          rw [List.take_length] at h2
          have hql : qs.length = n := by rw [h1, HNN.out]
          have hq : ∀ p ∈ qs, ItemV (fun b => w.heap.size ≤ b) wr d p.1 p.2 := fun p hp => (h3 p hp).mono (fun b _ hS => hS.1)
          refine ⟨⟨qs, h2, ?_, by rw [hql]; have := HLEN.out; have := HNN.out; omega, hq⟩, h5⟩
          have := h4.rdn (fun u hu => by
            obtain ⟨p, hp, hup⟩ := List.mem_flatMap.1 hu
            exact (h3 p hp).one u hup) (S := fun b => w.heap.size ≤ b) h6
          rw [hql]
          exact this)
        clear h1 h2 h3 h4 h5 h6
        go_wp2_with fail
        go_ret
        exact ⟨_, rfl, HE.out⟩

/-- model.copiedItems, model.copied. -/
theorem copItems_c : ∀ (d : Nat) (S : Nat → Prop) (w : World) (v : Value) (l : List IT), ItemsD S w d v l → Calls Tryd.prog 48 #[v] w (CopIC d w l)
  | 0, _, _, _, _, h => h.elim
  | d + 1, S, w, v, l, h => copItems_b d (fun S W cs x hv => copied_a d (fun S W v l hl => copItems_c d S W v l hl) W cs x hv) w v l h
theorem copiedG_c {d : Nat} {S : Nat → Prop} (w : World) (cs : List Value) (x : IT) (h : ItemV S w d cs x) : Calls Tryd.prog 33 #[.agg cs.toArray] w (CopIt d w x) :=
  copied_a d (fun S W v l hl => copItems_c d S W v l hl) w cs x h
end Go.Proofs.YtllhlmdhnmdihaaDoor
