/- journal: the law's states: a journal that lives well; opening where Inv holds. -/
import Derived.Test.YtfljpnfjndjhpaaJl
import Derived.Test.YtfljpnfjndjhpaaRow
namespace Go.Proofs.Ytfljpnfjndjhpaa
open Go Go.RowKit Go.Deep
set_option linter.unusedVariables false
set_option linter.unusedSimpArgs false

/-- A disk that works, with the journal of the snapshot s and the records rs. -/
def Good (rs : List (List UInt8)) (s : DS) : Prop := s.dead = false ∧ s.fuse = -1 ∧ s.room = 1048576 ∧ s.fs = one (Fl.full (frs ([115] :: rs)))
def jOf (rs : List (List UInt8)) : JS := ⟨[115], rs, false⟩
theorem frs_len : ∀ (l : List (List UInt8)), (∀ x ∈ l, x.length ≤ 700) → (frs l).length ≤ 708 * l.length
  | [], _ => by simp [frs]
  | x :: l, h => by
    have h1 := frs_len l (fun y hy => h y (by simp [hy]))
    have h2 := h x (by simp)
    rw [frs_cons, List.length_append, frameB_length, List.length_cons]
    omega
theorem burn_free (s : DS) (h : s.fuse = -1) : s.burn = s := by
  rw [burn_fuse s (by rw [h]; decide), h]
  cases s
  simp_all
theorem good_app (rs : List (List UInt8)) (s : DS) (b : List UInt8) (h : Good rs s) (h0 : 0 < b.length) (hb : b.length ≤ 700) (hr : rs.length ≤ 100) (hx : ∀ x ∈ rs, x.length ≤ 700) :
    ∃ s', (jOf rs).app s b = (0, jOf (rs ++ [b]), s') ∧ Good (rs ++ [b]) s' := by
  obtain ⟨hd, hf, hrm, hfs⟩ := h
  have hfl := frs_len ([115] :: rs) (fun x hx' => by
    rcases List.mem_cons.1 hx' with h | h
    · rw [h]; decide
    · exact hx x h)
  simp only [List.length_cons] at hfl
  have hfb := frameB_length b
  have ha := app_cur s (frs ([115] :: rs)) (frameB b) hd hfs hrm (by omega)
  rw [if_neg (by rw [hf]; decide), burn_free s hf] at ha
  obtain ⟨s1, hs1⟩ : ∃ s1 : DS, s1 = { s with fs := one ⟨frs ([115] :: rs) ++ frameB b, (frs ([115] :: rs)).length⟩ } := ⟨_, rfl⟩
  rw [← hs1] at ha
  have hf1 : s1.fs = one ⟨frs ([115] :: rs) ++ frameB b, (frs ([115] :: rs)).length⟩ := by rw [hs1]
  have hd1 : s1.dead = false := by rw [hs1]; exact hd
  have hu1 : s1.fuse = -1 := by rw [hs1]; exact hf
  have hs := chg_has s1 curN true (fun f => putA curN ⟨f.data, f.data.length⟩ s1.fs) rfl hd1 (by rw [hf1, get_one]; rfl)
  have hs' : s1.sync curN = (0, { s1 with fs := one (Fl.full (frs ([115] :: (rs ++ [b])))) }) := by
    unfold DS.sync
    rw [hs, if_neg (by rw [hu1]; decide), burn_free s1 hu1, hf1, fileA_one, put_one, ← List.cons_append, frs_snoc]
    rfl
  refine ⟨{ s1 with fs := one (Fl.full (frs ([115] :: (rs ++ [b])))) }, ?_, hd1, hu1, by rw [hs1]; exact hrm, rfl⟩
  have hr0 : (jOf rs).rdy (decide (0 < b.length) && decide (b.length ≤ 4194304)) = 0 := by
    rw [decide_eq_true h0, decide_eq_true (show b.length ≤ 4194304 by omega)]
    rfl
  unfold JS.app
  simp only []
  rw [if_neg (by rw [hr0]; decide), ha]
  simp only [if_true, hs']
  rw [if_neg (by decide)]
  rfl
theorem bad_app (rs : List (List UInt8)) (s : DS) (b : List UInt8) (h0 : b.length = 0) : (jOf rs).app s b = (1, jOf rs, s) := by
  unfold JS.app
  simp only []
  have hr0 : (jOf rs).rdy (decide (0 < b.length) && decide (b.length ≤ 4194304)) = 1 := by rw [h0]; rfl
  rw [if_pos (by rw [hr0]; decide), hr0]
/-- Where Inv holds, what Open asks of the files holds. -/
theorem inv_open (l : List (List UInt8)) (s : DS) (hl : l ≠ []) (hi : Inv l s) (ht : total s.fs ≤ 4194304) :
    (s.disc draN).2.fs.length ≤ 999999999 ∧ ((s.disc draN).1 = 0 → ((s.disc draN).2.read curN).2 ≠ 33) ∧ ((s.disc draN).1 = 0 → ((s.disc draN).2.read curN).2 = 0 → 0 < ((s.disc draN).2.read curN).1.length ∧ ((s.disc draN).2.read curN).1.length ≤ 4294967295) := by
  obtain ⟨hd, x, k, hx, hk, hf⟩ := hi
  obtain ⟨y, l', rfl⟩ := List.exists_cons_of_ne_nil hl
  have hpos : 0 < (frs (y :: l') ++ (frameB x).take k).length := by rw [frs_cons, List.length_append, List.length_append, frameB_length]; omega
  have rd : ∀ s : DS, s.dead = false → s.fs = one (Fl.full (frs (y :: l') ++ (frameB x).take k)) → s.read curN = (frs (y :: l') ++ (frameB x).take k, 0) := fun s hd hf => by rw [read_has s curN hd (by rw [hf, get_one]; rfl), hf, fileA_one]; rfl
  rcases hf with hf | ⟨d, hf⟩
  · have hc : (frs (y :: l') ++ (frameB x).take k).length ≤ 4194304 := by rw [hf, tot_one] at ht; exact ht
    rw [disc_one s hd hf]
    simp only [rd s hd hf]
    exact ⟨by rw [hf]; simp [one], fun _ => (show (0 : Int) ≠ 33 by decide), fun _ _ => ⟨hpos, Nat.le_trans hc (by decide)⟩⟩
  · have hc : (frs (y :: l') ++ (frameB x).take k).length ≤ 4194304 := by rw [hf, tot_two] at ht; simp only [Fl.full] at ht; omega
    rw [disc_two s hd hf]
    by_cases h1 : s.fuse = 0
    · rw [if_pos h1]
      exact ⟨by show s.burn.fs.length ≤ _; rw [DS.burn_fs, hf]; simp [two], fun h => absurd (show (70 : Int) = 0 from h) (by decide), fun h => absurd (show (70 : Int) = 0 from h) (by decide)⟩
    · rw [if_neg h1]
      simp only []
      rw [rd _ (by show s.burn.dead = false; rw [DS.burn_dead s h1]; exact hd) rfl]
      exact ⟨by simp [one], fun _ => (show (0 : Int) ≠ 33 by decide), fun _ _ => ⟨hpos, Nat.le_trans hc (by decide)⟩⟩
theorem inv_len {l : List (List UInt8)} {s : DS} {keeps : List Int} (h : Inv l (s.crash keeps)) : s.fs.length ≤ 2 := by
  obtain ⟨_, x, k, _, _, hf⟩ := h
  have hn : ((s.crash keeps).fs.map (·.1)).length = (s.fs.map (·.1)).length := by rw [show (s.crash keeps).fs = crashFs keeps 0 s.fs from rfl, crash_names]
  simp only [List.length_map] at hn
  rcases hf with hf | ⟨d, hf⟩ <;> rw [hf] at hn <;> simp [one, two] at hn <;> omega

section
variable {w0 w w' : World} {a : Addr} {s : DS} {j : JS} {jb : Nat} {P : List (Nat × Nat × World)}
theorem open_I (h : AtS w0 w a s P) (l : List (List UInt8)) (hi : Inv l s) (hl : l ≠ []) (hll : ∀ y ∈ l, y.length < 4294967296) (v : Value) :
    Calls Try.prog 5 #[.pointer (some a), v] w fun e w' => ∃ s', AtS w0 w' a s' P ∧ (∀ keeps, Inv l (s'.crash keeps)) ∧ (∃ q E, e = .returned (.tuple #[.pointer q, .int .i64 E])) ∧
      (s.fuse = -1 → ∃ jb sv rv, e = .returned (.tuple #[.pointer (some ⟨jb, 0, none⟩), .int .i64 0]) ∧ w'.heap[jb]? = some (.cells #[.pointer (some a), sv, rv, .bool false] 51 (0, 0)) ∧ Rd w' sv (l.headD []) ∧ RdRows w' rv l.tail) := by
  have ht : total s.fs ≤ 4194304 := by
    obtain ⟨f, k1, _⟩ := h
    exact k1.ok.tot
  obtain ⟨c1, c2, c3⟩ := inv_open l s hl hi ht
  obtain ⟨m1, m2⟩ := opn_inv l s hl hll hi
  refine (open_S h l hi hl hll c1 v c2 c3).mono ?_
  rintro e w' ⟨ha, h2, h3⟩
  refine ⟨_, ha, m1, ?_, fun hf => ?_⟩
  · by_cases hE : s.opn.1 = 0
    · obtain ⟨jb, sv, rv, he, _⟩ := h2 hE
      exact ⟨_, _, he⟩
    · exact ⟨_, _, h3 hE⟩
  · obtain ⟨q1, q2⟩ := m2 hf
    have := h2 q1
    rw [q2] at this
    exact this
theorem crash_I (h : AtS w0 w a s P) (l : List (List UInt8)) (hi : ∀ keeps, Inv l (s.crash keeps)) (v : Value) (keeps : List Int) (hv : RdV w0 v (icells keeps)) (hb : keeps.length ≤ 140737488355328) :
    Calls Try.prog 11 #[.pointer (some a), v] w fun e w' => e = .returned (.int .i64 0) ∧ ∃ s', AtS w0 w' a s' P ∧ Inv l s' ∧ s'.fuse = -1 :=
  (crash_S h (by have := inv_len (hi []); omega) v keeps hv hb).mono fun e w' ⟨h1, h2⟩ => ⟨h1, _, h2, hi keeps, rfl⟩
theorem crash_K (h : AtS w0 w a s P) (l : List (List UInt8)) (v : Value) (keeps : List Int) (hi : Inv l (s.crash keeps)) (hv : RdV w0 v (icells keeps)) (hb : keeps.length ≤ 140737488355328) :
    Calls Try.prog 11 #[.pointer (some a), v] w fun e w' => e = .returned (.int .i64 0) ∧ ∃ s', AtS w0 w' a s' P ∧ Inv l s' ∧ s'.fuse = -1 :=
  (crash_S h (by have := inv_len hi; omega) v keeps hv hb).mono fun e w' ⟨h1, h2⟩ => ⟨h1, _, h2, hi, rfl⟩
theorem fuse_I (h : AtS w0 w a s P) (l : List (List UInt8)) (hi : Inv l s) (n : Int) (h0 : 0 ≤ n) (hn : n ≤ 9223372036854775807) :
    Calls Try.prog 9 #[.pointer (some a), .int .i64 n] w fun e w' => e = .returned (.int .i64 0) ∧ ∃ s', AtS w0 w' a s' P ∧ Inv l s' := by
  refine (fuse_S h n hn).mono ?_
  rintro e w' ⟨rfl, ha⟩
  have hs : s.setFuse n = (0, { s with fuse := n }) := by unfold DS.setFuse; rw [if_neg (by omega)]
  rw [hs] at ha ⊢
  exact ⟨rfl, _, ha, hi.fuse n⟩
/-- Records and Snapshot of the journal: what they give stays. -/
theorem recs_L (h : LiveS w0 w a s j jb P) (hn : j.recs.length ≤ 16777216) (hx : ∀ x ∈ j.recs, x.length ≤ 140737488355328) :
    Calls Try.prog 7 #[.pointer (some ⟨jb, 0, none⟩)] w fun e w' => ∃ a' c', e = .returned (.slice a' j.recs.length c') ∧ (∃ ad : Addr, a' = some ad ∧ w.heap.size ≤ ad.block ∧ ad.block < w'.heap.size) ∧ (∀ W, Agr (w.heap.size, w'.heap.size, w') W → w'.heap.size ≤ W.heap.size → RdRows W (.slice a' j.recs.length c') j.recs) ∧ LiveS w0 w' a s j jb ((w.heap.size, w'.heap.size, w') :: P) := by
  obtain ⟨f, sv, rv, vs, k1, k2, k3, k4, k5⟩ := id h
  refine (recs_g k2.blk j.recs k2.rows hn hx).mono ?_
  rintro e w' ⟨a', c', he, had, h1, h2⟩
  exact ⟨a', c', he, had, fun W hW hs => h1 W hW hs, h.add h2⟩
theorem snap_L (h : LiveS w0 w a s j jb P) (hn : j.snap.length ≤ 140737488355328) :
    Calls Try.prog 8 #[.pointer (some ⟨jb, 0, none⟩)] w fun e w' => ∃ a' c', e = .returned (.slice a' j.snap.length c') ∧ (∀ W, Agr (w.heap.size, w'.heap.size, w') W → Rd W (.slice a' j.snap.length c') j.snap) ∧ LiveS w0 w' a s j jb ((w.heap.size, w'.heap.size, w') :: P) := by
  obtain ⟨f, sv, rv, vs, k1, k2, k3, k4, k5⟩ := id h
  refine (snap_g k2.blk j.snap k2.sn hn).mono ?_
  rintro e w' ⟨a', c', he, h1, h2⟩
  exact ⟨a', c', he, fun W hW => h1 W hW, h.add h2⟩
/-- One append of the law's loop. -/
theorem step_L (rs : List (List UInt8)) (h : LiveS w0 w a s (jOf rs) jb P) (hg : Good rs s) (hr : rs.length ≤ 100) (hx : ∀ x ∈ rs, x.length ≤ 700) (v : Value) (b : List UInt8) (hv : Rd w0 v b) (hb : b.length ≤ 700) :
    Calls Try.prog 6 #[.pointer (some ⟨jb, 0, none⟩), v] w fun e w' => ∃ (E : Int) (s' : DS) (rs' : List (List UInt8)), e = .returned (.int .i64 E) ∧ LiveS w0 w' a s' (jOf rs') jb P ∧ Good rs' s' ∧ rs'.length ≤ rs.length + 1 ∧ ∀ x ∈ rs', x.length ≤ 700 := by
  refine (app_S h (by rw [hg.2.2.2]; simp [one]) (by show rs.length ≤ _; omega) v b hv).mono ?_
  rintro e w' ⟨rfl, hl⟩
  rcases Nat.eq_zero_or_pos b.length with h0 | h0
  · rw [bad_app rs s b h0] at hl ⊢
    exact ⟨_, s, rs, rfl, hl, hg, by omega, hx⟩
  · obtain ⟨s', e1, g1⟩ := good_app rs s b hg h0 hb hr hx
    rw [e1] at hl ⊢
    refine ⟨_, s', rs ++ [b], rfl, hl, g1, by simp, fun x hx' => ?_⟩
    rcases List.mem_append.1 hx' with h | h
    · exact hx x h
    · rw [List.mem_singleton.1 h]; exact hb
end
theorem n_disc : ((newS 1048576).disc draN).1 = 0 := by decide +kernel
theorem n_fs : ((newS 1048576).disc draN).2.fs.length ≤ 999999997 := by decide +kernel
theorem n_read : (((newS 1048576).disc draN).2.read curN).2 = 33 := by decide +kernel
theorem n_open : ((newS 1048576).open0 [115]).1 = 0 := by decide +kernel
theorem n_jnl : ((newS 1048576).open0 [115]).2.1 = jOf [] := by
  have h1 : ((newS 1048576).open0 [115]).2.1.snap = [115] := by decide +kernel
  have h2 : ((newS 1048576).open0 [115]).2.1.recs = [] := by decide +kernel
  have h3 : ((newS 1048576).open0 [115]).2.1.stop = false := by decide +kernel
  generalize ((newS 1048576).open0 [115]).2.1 = j at *
  cases j
  simp_all [jOf]
theorem wrap_mod (x : Int) (m : Int) (h0 : 0 < m) (hm : m ≤ 1000) : 0 ≤ wrap64 ((IntKind.u64.wrap x).tmod m) ∧ wrap64 ((IntKind.u64.wrap x).tmod m) ≤ 1000 := by
  have h1 : 0 ≤ IntKind.u64.wrap x := by rw [u64_wrap]; exact Int.emod_nonneg _ (by decide)
  have h2 : (IntKind.u64.wrap x).tmod m = IntKind.u64.wrap x % m := Int.tmod_eq_emod_of_nonneg h1
  have h3 := Int.emod_nonneg (IntKind.u64.wrap x) (by omega : m ≠ 0)
  have h4 := Int.emod_lt_of_pos (IntKind.u64.wrap x) h0
  rw [h2]
  generalize IntKind.u64.wrap x % m = y at *
  unfold wrap64
  omega
/-- The records and the last one, as the law lists them: the first append. -/
theorem rows_src {w : World} {ad : Addr} {c : Nat} {l : List (List UInt8)} (h : RdRows w (.slice (some ad) l.length c) l) : ∃ vs : List Value, vs.length = l.length ∧ Src Try.prog 1 22 (.slice (some ad) l.length c) l.length vs w ∧ ∀ i x, l[i]? = some x → ∃ a' c', vs[i]? = some (.slice a' x.length c') ∧ (∃ g o, ad = ⟨g, o, none⟩ ∧ w.cell? ⟨g, o + i, none⟩ = some (.slice a' x.length c')) := by
  rcases Nat.eq_zero_or_pos l.length with h0 | h0
  · have : l = [] := List.eq_nil_of_length_eq_zero h0
    subst this
    exact ⟨[], rfl, Src.ofSlice w Try.underlying22 ad 0 c [] rfl (fun j u hu => by simp at hu) (by simp), fun i x hx => by simp at hx⟩
  · obtain ⟨a0, c0, hv, h1, h2, h3, h4⟩ := h
    simp only [Value.slice.injEq, true_and] at hv
    obtain ⟨rfl, rfl⟩ := hv
    obtain ⟨g, o, hg, hl, hx⟩ := h4 h0
    simp only [Option.some.injEq] at hg
    subst hg
    have hcell : ∀ i, i < l.length → ∃ a' c', w.cell? ⟨g, o + i, none⟩ = some (.slice a' (l.getD i []).length c') := fun i hi => by
      obtain ⟨a', c', k1, _⟩ := hx i l[i] (List.getElem?_eq_getElem hi)
      exact ⟨a', c', by rw [k1]; simp [List.getD_eq_getElem?_getD, hi]⟩
    refine ⟨(List.range l.length).map fun i => (w.cell? ⟨g, o + i, none⟩).getD (.slice none 0 0), by simp, Src.ofSlice w Try.underlying22 ⟨g, o, none⟩ l.length c _ (by simp) (fun j u hu => ?_) (fun u hu => ?_), fun i x hi => ?_⟩
    · have hj : j < l.length := by have := (List.getElem?_eq_some_iff.1 hu).1; simpa using this
      obtain ⟨a', c', k1⟩ := hcell j hj
      rw [Addr.add_lit]
      simp only [List.getElem?_map, List.getElem?_range hj, Option.map_some, k1, Option.getD_some, Option.some.injEq] at hu
      rw [k1, hu]
    · simp only [List.mem_map, List.mem_range] at hu
      obtain ⟨j, hj, rfl⟩ := hu
      obtain ⟨a', c', k1⟩ := hcell j hj
      rw [k1]
      rfl
    · have hj := (List.getElem?_eq_some_iff.1 hi).1
      obtain ⟨a', c', k1, _⟩ := hx i x hi
      exact ⟨a', c', by simp only [List.getElem?_map, List.getElem?_range hj, Option.map_some, k1, Option.getD_some], g, o, rfl, k1⟩
theorem emptyJ_own (w : World) (E : TypeId) (size : Nat) : OwnS (w.alloc (.cells #[] E)) w.heap.size E size (.slice (some ⟨w.heap.size, 0, none⟩) 0 0) 0 [] :=
  ⟨by simp, .inr ⟨_, 0, 0, #[], rfl, Nat.le_refl _, heap_alloc_new w _, Nat.le_refl _, Nat.zero_le _, by simp, by simp⟩⟩
/-- The records and one more, read from a list that appends made. -/
theorem now_rows {w80 wg W2 wd : World} {lo lo1 hi1 : Nat} {ra : Addr} {rc : Nat} {rs : List (List UInt8)} {x : List UInt8} {vs : List Value} {na pl : Option Addr} {nc cl : Nat} (how : OwnS wg lo 23 1 (.slice na (rs.length + 1) nc) (rs.length + 1) (vs ++ [.slice pl x.length cl])) (hvs : vs.length = rs.length)
    (hel : ∀ i y, rs[i]? = some y → ∃ a' c', vs[i]? = some (.slice a' y.length c') ∧ (∃ g o, ra = ⟨g, o, none⟩ ∧ w80.cell? ⟨g, o + i, none⟩ = some (.slice a' y.length c')))
    (h1 : lo1 ≤ ra.block) (h2 : ra.block < hi1) (h80 : Agr (lo1, hi1, wd) w80) (hA : Agr (lo1, hi1, wd) W2) (hB : Agr (lo, wg.heap.size, wg) W2) (hsz : wg.heap.size ≤ W2.heap.size) (hrd : RdRows W2 (.slice (some ra) rs.length rc) rs) (hx : Rd W2 (.slice pl x.length cl) x) :
    RdRows W2 (.slice na (rs.length + 1) nc) (rs ++ [x]) := by
  obtain ⟨g, o, c, hv, hb, hg, ho⟩ := how.own1 (by omega)
  obtain ⟨cur, hgc, hl, hc, hm, hcx⟩ := ho
  simp only [Value.slice.injEq, true_and] at hv
  obtain ⟨rfl, rfl⟩ := hv
  have hlen : (rs ++ [x]).length = rs.length + 1 := by simp
  have hgW : W2.heap[g]? = some (.cells cur 23 (0, 0)) := (hB g hb hg).trans hgc
  refine ⟨_, nc, by rw [hlen], by rw [hlen]; exact hc, hm, by simp, fun _ => ⟨g, o, rfl, Nat.lt_of_lt_of_le hg hsz, fun i y hy => ?_⟩⟩
  rcases Nat.lt_or_ge i rs.length with hi | hi
  · rw [List.getElem?_append_left hi] at hy
    obtain ⟨a', c', k1, g0, o0, hra, k2⟩ := hel i y hy
    subst hra
    obtain ⟨a0, c0, hv0, _, _, _, h4⟩ := hrd
    simp only [Value.slice.injEq, true_and] at hv0
    obtain ⟨rfl, rfl⟩ := hv0
    obtain ⟨g1, o1, he, _, hxx⟩ := h4 (by omega)
    simp only [Option.some.injEq, Addr.mk.injEq, and_true] at he
    obtain ⟨rfl, rfl⟩ := he
    obtain ⟨a2, c2, q1, q2⟩ := hxx i y hy
    have hsame : W2.heap[g0]? = w80.heap[g0]? := (hA g0 h1 h2).trans (h80 g0 h1 h2).symm
    have : w80.cell? ⟨g0, o0 + i, none⟩ = some (.slice a2 y.length c2) := by
      rw [← q1]
      simp only [World.cell?, hsame]
    rw [k2] at this
    simp only [Option.some.injEq, Value.slice.injEq, true_and] at this
    obtain ⟨rfl, rfl⟩ := this
    exact ⟨a', c', by rw [cell_of_rowJ hgW, hcx i (by simp [hvs]; omega), List.getElem?_append_left (by omega)]; exact k1, q2⟩
  · rw [List.getElem?_append_right hi] at hy
    have hi0 : i = rs.length := by
      have := (List.getElem?_eq_some_iff.1 hy).1
      simp at this
      omega
    subst hi0
    simp only [Nat.sub_self, List.getElem?_cons_zero, Option.some.injEq] at hy
    subst hy
    exact ⟨pl, cl, by rw [cell_of_rowJ hgW, hcx _ (by simp [hvs]), List.getElem?_append_right (by omega), hvs]; simp, hx⟩
end Go.Proofs.Ytfljpnfjndjhpaa
