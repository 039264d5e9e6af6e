/- Cases: lists of instances that a call made; those right below a path (the reference's). Written by tools/genyk.py. -/
import Derived.Test.YtncloiimbclklaaYj
namespace Go.Proofs.Ytncloiimbclklaa
open Go Go.RowKit
set_option linter.unusedVariables false
set_option linter.unusedSimpArgs false

/-- An instance without the place of its latches. -/
def IV.bare (x : IV) : IV := { x with lv := .slice none 0 0 }
def flatI (l : List IV) : List Value := l.flatMap IV.cells
theorem flatI_snoc (l : List IV) (x : IV) : flatI (l ++ [x]) = flatI l ++ x.cells := by simp [flatI]
/-- A list of instances in memory from a block on. -/
def InstsOwn (w : World) (base : Nat) (v : Value) (l : List IV) : Prop :=
  ∃ l' : List IV, l'.map IV.bare = l.map IV.bare ∧ w.ownsRow base 30 6 v l'.length (flatI l') ∧ ∀ x ∈ l', OwnS w base 3 1 x.lv x.ls.length (icells x.ls)
theorem InstsOwn.nil (w : World) (base : Nat) : InstsOwn w base (.slice none 0 0) [] := ⟨[], rfl, World.ownsRow_nil _ _ _ _, by simp⟩
theorem InstsOwn.len {w : World} {base : Nat} {v : Value} {l : List IV} (h : InstsOwn w base v l) : ∃ l' : List IV, l'.length = l.length ∧ w.ownsRow base 30 6 v l.length (flatI l') := by
  obtain ⟨l', h1, h2, _⟩ := h
  have hl : l'.length = l.length := by simpa using congrArg List.length h1
  exact ⟨l', hl, hl ▸ h2⟩
theorem ownr_lt {w : World} {base n size : Nat} {e : TypeId} {v : Value} {xs : List Value} (h : w.ownsRow base e size v n xs) : ∀ g, v.ownBlock = some g → base ≤ g ∧ g < w.heap.size := by
  intro k hk
  rcases h.2 with ⟨rfl, _⟩ | ⟨g, cap, cur, rfl, hb, hg, _⟩
  · simp [Value.ownBlock] at hk
  · simp [Value.ownBlock] at hk
    subst hk
    exact ⟨hb, (Array.getElem?_eq_some_iff.1 hg).1⟩
theorem ownr_keep {w w' : World} {base n size : Nat} {e : TypeId} {v : Value} {xs : List Value} (h : w.ownsRow base e size v n xs) (hb : ∀ g, v.ownBlock = some g → w'.heap[g]? = w.heap[g]?) : w'.ownsRow base e size v n xs := by
  refine ⟨h.1, h.2.imp id ?_⟩
  rintro ⟨g, cap, cur, rfl, h2, h3, h4⟩
  exact ⟨g, cap, cur, rfl, h2, (hb g rfl).trans h3, h4⟩
theorem ownr_below {w w' : World} {base n size : Nat} {e : TypeId} {v : Value} {xs : List Value} (h : w.ownsRow base e size v n xs) (hb : Below w.heap.size w w') : w'.ownsRow base e size v n xs :=
  ownr_keep h fun g hg => hb.block g (ownr_lt h g hg).2
theorem ownS_below {w w' : World} {base : Nat} {e : TypeId} {size : Nat} {v : Value} {n : Nat} {xs : List Value} (h : OwnS w base e size v n xs) (hb : Below w.heap.size w w') : OwnS w' base e size v n xs :=
  h.keep fun g hg => hb.block g (h.lt g hg)
theorem InstsOwn.below {w w' : World} {base : Nat} {v : Value} {l : List IV} (h : InstsOwn w base v l) (hb : Below w.heap.size w w') : InstsOwn w' base v l := by
  obtain ⟨l', h1, h2, h3⟩ := h
  exact ⟨l', h1, ownr_below h2 hb, fun x hx => ownS_below (h3 x hx) hb⟩
/-- Rows of two types lie apart. -/
theorem own_apart {w : World} {b b2 n m s1 s2 : Nat} {e e2 : TypeId} {v v2 : Value} {xs ys : List Value} (hne : e ≠ e2) (h : w.ownsRow b e s1 v n xs) (h2 : OwnS w b2 e2 s2 v2 m ys) : ∀ g, v2.ownBlock = some g → some g ≠ v.ownBlock := by
  intro g hg
  rcases h.2 with ⟨rfl, _⟩ | ⟨g1, cap, cur, rfl, _, h3, _⟩
  · simp [Value.ownBlock]
  · rcases h2.2 with ⟨rfl, _⟩ | ⟨g2, off, cap2, cur2, rfl, _, h4, _⟩
    · simp [Value.ownBlock] at hg
    · simp [Value.ownBlock] at hg ⊢
      subst hg
      intro e
      subst e
      rw [h3] at h4
      simp only [Option.some.injEq, Obj.cells.injEq] at h4
      exact hne h4.2.1
theorem own_grow {W W' : World} {b b2 n m s1 s2 : Nat} {e e2 : TypeId} {v v2 : Value} {xs ys : List Value} (hne : e ≠ e2) (h : W.ownsRow b e s1 v n xs) (h2 : OwnS W b2 e2 s2 v2 m ys) (hg : W.grownBy W' v.ownBlock) : OwnS W' b2 e2 s2 v2 m ys :=
  h2.keep fun g hg2 => hg.block g (h2.lt g hg2) (own_apart hne h h2 g hg2)
theorem cells_new6 (W : World) (c0 c1 c2 c3 c4 c5 : Value) (T : TypeId) : ∀ (j : Nat) u, [c0, c1, c2, c3, c4, c5][j]? = some u → (W.alloc (.cells #[c0, c1, c2, c3, c4, c5] T)).cell? ((⟨W.heap.size, 0, none⟩ : Addr).add j) = some u := by
  intro j u hu
  rw [Addr.add_lit]
  simp only [World.cell?, heap_alloc_new, Nat.zero_add]
  simpa using hu
theorem infoInst : (Try.prog.info? 30).map (fun i => (i.zero, i.size, i.bytes)) = some (some (.agg #[.string ⟨#[]⟩, .string ⟨#[]⟩, .int .i64 0, .int .i64 0, .slice none 0 0, .int .i64 0]), 6, 80) := by kernel_rfl
/-- One more. -/
theorem InstsOwn.push {w W1 W3 W4 : World} {base : Nat} {v v2 : Value} {l : List IV} {y x : IV} {o : Obj} {l' : List IV} (h1 : l'.map IV.bare = l.map IV.bare) (h2 : w.ownsRow base 30 6 v l'.length (flatI l')) (h3 : ∀ x ∈ l', OwnS w base 3 1 x.lv x.ls.length (icells x.ls))
    (hb : Below w.heap.size w W3) (hx : OwnS W3 base 3 1 x.lv x.ls.length (icells x.ls)) (hxy : x.bare = y.bare)
    (hown : W4.ownsRow base 30 6 v2 (l'.length + 1) (flatI l' ++ x.cells)) (hg : (W3.alloc o).grownBy W4 v.ownBlock) : InstsOwn W4 base v2 (l ++ [y]) := by
  have h2' := ownr_below (ownr_below h2 hb) ((Below.refl _ W3).alloc (Nat.le_refl _) o)
  refine ⟨l' ++ [x], by simp [h1, hxy], by rw [flatI_snoc, List.length_append]; exact hown, fun z hz => ?_⟩
  rcases List.mem_append.1 hz with hz | hz
  · exact own_grow (by decide) h2' (ownS_below (ownS_below (h3 z hz) hb) ((Below.refl _ W3).alloc (Nat.le_refl _) o)) hg
  · rw [List.mem_singleton] at hz
    subst hz
    exact own_grow (by decide) h2' (ownS_below hx ((Below.refl _ W3).alloc (Nat.le_refl _) o)) hg
theorem filter_next {f : IV → Bool} {l : List IV} {k : Nat} (h : k < l.length) : (l.take (k + 1)).filter f = (l.take k).filter f ++ (if f l[k] = true then [l[k]] else []) := by
  rw [List.take_succ_eq_append_getElem h, List.filter_append]
  congr 1
  by_cases hf : f l[k] = true
  · rw [if_pos hf, List.filter_cons_of_pos hf]; rfl
  · rw [if_neg hf, List.filter_cons_of_neg hf]; rfl

def kidP (p : ByteArray) (x : IV) : Bool := (upB x.path).toList == p.toList
theorem InstsOwn.up {w : World} {base b' : Nat} {v : Value} {l : List IV} (h : InstsOwn w base v l) (hb : b' ≤ base) : InstsOwn w b' v l := by
  obtain ⟨l', h1, h2, h3⟩ := h
  refine ⟨l', h1, ⟨h2.1, h2.2.imp id ?_⟩, fun x hx => (h3 x hx).up hb⟩
  rintro ⟨g, cap, cur, e1, e2, e3⟩
  exact ⟨g, cap, cur, e1, Nat.le_trans hb e2, e3⟩

set_option maxRecDepth 100000 in
set_option maxHeartbeats 2000000 in
theorem rkids_c (w : World) (c : CV) (h : CVok w c) (p : ByteArray) (hs : ∀ x ∈ c.insts, x.ls.length ≤ 40) (hps : ∀ x ∈ c.insts, x.path.size ≤ 400) (hpp : p.size ≤ 140737488355328) (hc4 : c.insts.length ≤ 40) : Calls Try.prog 12 #[c.val, .string p] w fun e w' => ∃ v, e = .returned v ∧ InstsOwn w' w.heap.size v (c.insts.filter (kidP p)) ∧ Below w.heap.size w w' := by
  obtain ⟨i0, hi, hz0, hz1, hz2⟩ := info_parts infoInst
  have HI := Lib.hid h.insts
  have hl := h.insts.1
  have HS := Lib.hid hs
  have HPS := Lib.hid hps
  have HPP := Lib.hid hpp
  obtain ⟨id, mo, iv, dv, cl, is, ds⟩ := c
  dsimp only at HI HS HPS hl hc4
  obtain ⟨a, ca, hiv, hn1, hn2, _, _⟩ := hl
  subst hiv
  have hn : is.length ≤ 9223372036854775807 := by unfold maxLen at hn2; omega
  have HC4 := Lib.hid hc4
  unfold CV.val
  dsimp only
  obtain ⟨w0, hw0⟩ : ∃ x, x = w.alloc (.cells #[.int .i64 id, .string mo, .slice a is.length ca, dv, .int .i64 cl] 25) := ⟨_, rfl⟩
  have HBW := Lib.hid (show Below w.heap.size w w0 from by rw [hw0]; exact box_bel' w _)
  have HW0 := Lib.hid hw0
  clear h hs hps hn1 hn2 hw0 hpp hc4
  go_enter Try.func12, Try.ntmps12
  go_wp2_with fail
  rw [← HW0.out]
  go_loopw [5, 11] (fun ov i wr => ∃ k : Nat, k ≤ is.length ∧ i = .int .i64 k ∧ Below w0.heap.size w0 wr ∧ InstsOwn wr w0.heap.size ov ((is.take k).filter (kidP p))) (fun _ i _ => is.length - (intOf i).toNat)
  case atStart => exact ⟨0, by omega, rfl, Below.refl _ _, InstsOwn.nil _ _⟩
  case round =>
    obtain ⟨k, hk, rfl, hbr, hall⟩ := hrel
    have HBR := Lib.hid hbr
    have HAL := Lib.hid hall
    obtain ⟨l', hb1, hown, hls⟩ := hall
    have HB1 := Lib.hid hb1
    have HOW := Lib.hid hown
    have HLS := Lib.hid hls
    have hll : l'.length ≤ is.length := by
      have := congrArg List.length hb1
      simp only [List.length_map] at this
      have h2 := List.length_filter_le (kidP p) (is.take k)
      rw [List.length_take] at h2
      omega
    clear hbr hb1 hown hls
    by_cases hlt : k < is.length
    · obtain ⟨x, hx⟩ : ∃ x, x = is[k] := ⟨_, rfl⟩
      have HX := Lib.hid hx
      have hrow : rowI is k = x.cells := by unfold rowI; rw [List.getElem?_eq_getElem hlt, ← hx]; rfl
      have hxo := HI.out.2 x (by rw [hx]; exact List.getElem_mem hlt)
      have HXO := Lib.hid ((hxo.below HBW.out).below HBR.out)
      have HX4 := Lib.hid (HS.out x (by rw [hx]; exact List.getElem_mem hlt))
      have HXP := Lib.hid (HPS.out x (by rw [hx]; exact List.getElem_mem hlt))
      have HN := Lib.hid (filter_next (f := kidP p) hlt)
      rw [← hx] at HN
      obtain ⟨pl, cp, hlv⟩ := hxo.rl.form
      obtain ⟨path, item, st, bf, lv, ls, due⟩ := x
      dsimp only at hlv HX4 HXP
      subst hlv
      obtain ⟨g, o, ha, hg, c0, c1, c2, c3, c4, c5⟩ := ((HI.out.1.below HBW.out).below HBR.out).row hlt hrow
      subst ha
      have HC := Lib.hid (fun (W : World) (hb : Below wr.heap.size wr W) => (show Calls Try.prog 31 #[.agg #[.string path, .string item, .int .i64 st, .int .i64 bf, .slice pl (icells ls).length cp, .int .i64 due]] W (CopyAs W ⟨path, item, st, bf, .slice pl (icells ls).length cp, ls, due⟩) from rcopied_c W ⟨path, item, st, bf, .slice pl (icells ls).length cp, ls, due⟩ (HXO.out.below hb) HX4.out))
      have HT := Lib.hid (fun W => rupT_c W path (by have := HXP.out; omega))
      have HBX := Lib.hid (fun o => box_bel' wr o)
      clear hrow hxo hx
      obtain ⟨q, hq⟩ : ∃ q, kidP p ⟨path, item, st, bf, .slice pl (icells ls).length cp, ls, due⟩ = q := ⟨_, rfl⟩
      rw [hq] at HN
      have hq2 : ((upB path).toList == p.toList) = q := hq
      clear hq
      generalize upB path = up at *
      cases q
      · have HN2 := Lib.hid (show (is.take (k + 1)).filter (kidP p) = (is.take k).filter (kidP p) from by rw [HN.out]; simp)
        go_wp2_with (go_at_call 35; refine (HT.out _).mono ?_; rintro e w' ⟨rfl, rfl⟩)
        exact ⟨⟨k + 1, by omega, by go_num, HBR.out.alloc HBR.out.size _, by rw [HN2.out]; exact HAL.out.below (HBX.out _)⟩, by simp [intOf]; omega⟩
      · have HN2 := Lib.hid (show (is.take (k + 1)).filter (kidP p) = (is.take k).filter (kidP p) ++ [⟨path, item, st, bf, .slice pl (icells ls).length cp, ls, due⟩] from by rw [HN.out]; simp)
        go_wp2_with (first
          | (go_at_call 35; refine (HT.out _).mono ?_; rintro e w' ⟨rfl, rfl⟩)
          | (go_at_call 31; refine (HC.out _ (HBX.out _)).mono ?_))
        rintro e w3 ⟨v', rfl, hown3, hb3⟩
        have hb4 : Below wr.heap.size wr w3 := (HBX.out _).trans (hb3.mono (by simp))
        obtain ⟨pa, cc, hv', _⟩ := hown3.form
        dsimp only at hv'
        subst hv'
        have HB4 := Lib.hid hb4
        have HO3 := Lib.hid (hown3.up (b' := w0.heap.size) (Nat.le_trans HBR.out.size (HBX.out _).size))
        have hs3 : w0.heap.size ≤ w3.heap.size := Nat.le_trans HBR.out.size hb4.size
        have HS3 := Lib.hid hs3
        have HOW3 := Lib.hid ((ownr_below HOW.out hb4))
        clear hown3 hb3 hb4 c0 c1 c2 c3 c4 c5 hs3
        go_wp2_with (at_builtin; refine wpList_append_own _ rfl _ _ 22 rfl w0.heap.size 30 i0 (.agg #[.string ⟨#[]⟩, .string ⟨#[]⟩, .int .i64 0, .int .i64 0, .slice none 0 0, .int .i64 0]) 6 80 Try.underlying22 hi hz0 hz1 hz2 rfl (by decide) _ _ _ rfl (ownr_below HOW3.out ((Below.refl _ w3).alloc (Nat.le_refl _) _)) ⟨w3.heap.size, 0, none⟩ 1 1 [.string path, .string item, .int .i64 st, .int .i64 bf, .slice pa ls.length cc, .int .i64 due] rfl rfl (cells_new6 _ _ _ _ _ _ _ _) (by simp [Value.oneCell']) ?c3 ?c4 ?c5 ?_)
        case c3 => have := HC4.out; unfold maxLen; omega
        case c4 => have := HC4.out; omega
        case c5 => have := HS3.out; simp; omega
        intro v2 w4 hown4 hgrow _
        have HG := Lib.hid hgrow
        have HP4 := Lib.hid (InstsOwn.push (y := ⟨path, item, st, bf, .slice pl (icells ls).length cp, ls, due⟩) (x := ⟨path, item, st, bf, .slice pa ls.length cc, ls, due⟩) (l := (is.take k).filter (kidP p)) (W1 := w3) HB1.out HOW.out HLS.out HB4.out HO3.out rfl hown4 hgrow)
        have HB5 := Lib.hid ((HBR.out.trans (HB4.out.mono HBR.out.size)).trans ((((Below.refl _ w3).alloc (Nat.le_refl _) _).mono HS3.out).grown hgrow (by simp; have := HS3.out; omega) (fun g hg => (ownr_lt HOW.out g hg).1)))
        clear hown4 hgrow
        go_wp2_with fail
        go_roundw
        case rel => exact ⟨k + 1, by omega, by go_num, HB5.out, by rw [HN2.out]; exact HP4.out⟩
        case measure => simp [intOf]; omega
    · have HE := Lib.hid (show (is.take k).filter (kidP p) = is.filter (kidP p) from by rw [List.take_of_length_le (by omega)])
      go_wp2_with fail
      go_ret
      refine ⟨_, rfl, ?_, HBW.out.trans (HBR.out.mono HBW.out.size)⟩
      have := HAL.out
      rw [HE.out] at this
      exact this.up HBW.out.size

def belP (p : ByteArray) (x : IV) : Bool := underB x.path p

set_option maxRecDepth 100000 in
set_option maxHeartbeats 2000000 in
theorem rbelow_c (w : World) (c : CV) (h : CVok w c) (p : ByteArray) (hs : ∀ x ∈ c.insts, x.ls.length ≤ 40) (hps : ∀ x ∈ c.insts, x.path.size ≤ 400) (hpp : p.size ≤ 140737488355328) (hc4 : c.insts.length ≤ 40) : Calls Try.prog 14 #[c.val, .string p] w fun e w' => ∃ v, e = .returned v ∧ InstsOwn w' w.heap.size v (c.insts.filter (belP p)) ∧ Below w.heap.size w w' := by
  obtain ⟨i0, hi, hz0, hz1, hz2⟩ := info_parts infoInst
  have HI := Lib.hid h.insts
  have hl := h.insts.1
  have HS := Lib.hid hs
  have HPS := Lib.hid hps
  have HPP := Lib.hid hpp
  obtain ⟨id, mo, iv, dv, cl, is, ds⟩ := c
  dsimp only at HI HS HPS hl hc4
  obtain ⟨a, ca, hiv, hn1, hn2, _, _⟩ := hl
  subst hiv
  have hn : is.length ≤ 9223372036854775807 := by unfold maxLen at hn2; omega
  have HC4 := Lib.hid hc4
  unfold CV.val
  dsimp only
  obtain ⟨w0, hw0⟩ : ∃ x, x = w.alloc (.cells #[.int .i64 id, .string mo, .slice a is.length ca, dv, .int .i64 cl] 25) := ⟨_, rfl⟩
  have HBW := Lib.hid (show Below w.heap.size w w0 from by rw [hw0]; exact box_bel' w _)
  have HW0 := Lib.hid hw0
  clear h hs hps hn1 hn2 hw0 hpp hc4
  go_enter Try.func14, Try.ntmps14
  go_wp2_with fail
  rw [← HW0.out]
  go_loopw [5, 11] (fun ov i wr => ∃ k : Nat, k ≤ is.length ∧ i = .int .i64 k ∧ Below w0.heap.size w0 wr ∧ InstsOwn wr w0.heap.size ov ((is.take k).filter (belP p))) (fun _ i _ => is.length - (intOf i).toNat)
  case atStart => exact ⟨0, by omega, rfl, Below.refl _ _, InstsOwn.nil _ _⟩
  case round =>
    obtain ⟨k, hk, rfl, hbr, hall⟩ := hrel
    have HBR := Lib.hid hbr
    have HAL := Lib.hid hall
    obtain ⟨l', hb1, hown, hls⟩ := hall
    have HB1 := Lib.hid hb1
    have HOW := Lib.hid hown
    have HLS := Lib.hid hls
    have hll : l'.length ≤ is.length := by
      have := congrArg List.length hb1
      simp only [List.length_map] at this
      have h2 := List.length_filter_le (belP p) (is.take k)
      rw [List.length_take] at h2
      omega
    clear hbr hb1 hown hls
    by_cases hlt : k < is.length
    · obtain ⟨x, hx⟩ : ∃ x, x = is[k] := ⟨_, rfl⟩
      have HX := Lib.hid hx
      have hrow : rowI is k = x.cells := by unfold rowI; rw [List.getElem?_eq_getElem hlt, ← hx]; rfl
      have hxo := HI.out.2 x (by rw [hx]; exact List.getElem_mem hlt)
      have HXO := Lib.hid ((hxo.below HBW.out).below HBR.out)
      have HX4 := Lib.hid (HS.out x (by rw [hx]; exact List.getElem_mem hlt))
      have HXP := Lib.hid (HPS.out x (by rw [hx]; exact List.getElem_mem hlt))
      have HN := Lib.hid (filter_next (f := belP p) hlt)
      rw [← hx] at HN
      obtain ⟨pl, cp, hlv⟩ := hxo.rl.form
      obtain ⟨path, item, st, bf, lv, ls, due⟩ := x
      dsimp only at hlv HX4 HXP
      subst hlv
      obtain ⟨g, o, ha, hg, c0, c1, c2, c3, c4, c5⟩ := ((HI.out.1.below HBW.out).below HBR.out).row hlt hrow
      subst ha
      have HC := Lib.hid (fun (W : World) (hb : Below wr.heap.size wr W) => (show Calls Try.prog 31 #[.agg #[.string path, .string item, .int .i64 st, .int .i64 bf, .slice pl (icells ls).length cp, .int .i64 due]] W (CopyAs W ⟨path, item, st, bf, .slice pl (icells ls).length cp, ls, due⟩) from rcopied_c W ⟨path, item, st, bf, .slice pl (icells ls).length cp, ls, due⟩ (HXO.out.below hb) HX4.out))
      have HT := Lib.hid (fun W => runder_c W path p (by have := HXP.out; omega) HPP.out)
      have HBX := Lib.hid (fun o => box_bel' wr o)
      clear hrow hxo hx
      obtain ⟨q, hq⟩ : ∃ q, belP p ⟨path, item, st, bf, .slice pl (icells ls).length cp, ls, due⟩ = q := ⟨_, rfl⟩
      rw [hq] at HN
      have hq2 : underB path p = q := hq
      clear hq
      simp only [hq2] at HT
      clear hq2
      cases q
      · have HN2 := Lib.hid (show (is.take (k + 1)).filter (belP p) = (is.take k).filter (belP p) from by rw [HN.out]; simp)
        go_wp2_with (go_at_call 38; refine (HT.out _).mono ?_; rintro e w' ⟨rfl, rfl⟩)
        exact ⟨⟨k + 1, by omega, by go_num, HBR.out.alloc HBR.out.size _, by rw [HN2.out]; exact HAL.out.below (HBX.out _)⟩, by simp [intOf]; omega⟩
      · have HN2 := Lib.hid (show (is.take (k + 1)).filter (belP p) = (is.take k).filter (belP p) ++ [⟨path, item, st, bf, .slice pl (icells ls).length cp, ls, due⟩] from by rw [HN.out]; simp)
        go_wp2_with (first
          | (go_at_call 38; refine (HT.out _).mono ?_; rintro e w' ⟨rfl, rfl⟩)
          | (go_at_call 31; refine (HC.out _ (HBX.out _)).mono ?_))
        rintro e w3 ⟨v', rfl, hown3, hb3⟩
        have hb4 : Below wr.heap.size wr w3 := (HBX.out _).trans (hb3.mono (by simp))
        obtain ⟨pa, cc, hv', _⟩ := hown3.form
        dsimp only at hv'
        subst hv'
        have HB4 := Lib.hid hb4
        have HO3 := Lib.hid (hown3.up (b' := w0.heap.size) (Nat.le_trans HBR.out.size (HBX.out _).size))
        have hs3 : w0.heap.size ≤ w3.heap.size := Nat.le_trans HBR.out.size hb4.size
        have HS3 := Lib.hid hs3
        have HOW3 := Lib.hid ((ownr_below HOW.out hb4))
        clear hown3 hb3 hb4 c0 c1 c2 c3 c4 c5 hs3
        go_wp2_with (at_builtin; refine wpList_append_own _ rfl _ _ 22 rfl w0.heap.size 30 i0 (.agg #[.string ⟨#[]⟩, .string ⟨#[]⟩, .int .i64 0, .int .i64 0, .slice none 0 0, .int .i64 0]) 6 80 Try.underlying22 hi hz0 hz1 hz2 rfl (by decide) _ _ _ rfl (ownr_below HOW3.out ((Below.refl _ w3).alloc (Nat.le_refl _) _)) ⟨w3.heap.size, 0, none⟩ 1 1 [.string path, .string item, .int .i64 st, .int .i64 bf, .slice pa ls.length cc, .int .i64 due] rfl rfl (cells_new6 _ _ _ _ _ _ _ _) (by simp [Value.oneCell']) ?c3 ?c4 ?c5 ?_)
        case c3 => have := HC4.out; unfold maxLen; omega
        case c4 => have := HC4.out; omega
        case c5 => have := HS3.out; simp; omega
        intro v2 w4 hown4 hgrow _
        have HG := Lib.hid hgrow
        have HP4 := Lib.hid (InstsOwn.push (y := ⟨path, item, st, bf, .slice pl (icells ls).length cp, ls, due⟩) (x := ⟨path, item, st, bf, .slice pa ls.length cc, ls, due⟩) (l := (is.take k).filter (belP p)) (W1 := w3) HB1.out HOW.out HLS.out HB4.out HO3.out rfl hown4 hgrow)
        have HB5 := Lib.hid ((HBR.out.trans (HB4.out.mono HBR.out.size)).trans ((((Below.refl _ w3).alloc (Nat.le_refl _) _).mono HS3.out).grown hgrow (by simp; have := HS3.out; omega) (fun g hg => (ownr_lt HOW.out g hg).1)))
        clear hown4 hgrow
        go_wp2_with fail
        go_roundw
        case rel => exact ⟨k + 1, by omega, by go_num, HB5.out, by rw [HN2.out]; exact HP4.out⟩
        case measure => simp [intOf]; omega
    · have HE := Lib.hid (show (is.take k).filter (belP p) = is.filter (belP p) from by rw [List.take_of_length_le (by omega)])
      go_wp2_with fail
      go_ret
      refine ⟨_, rfl, ?_, HBW.out.trans (HBR.out.mono HBW.out.size)⟩
      have := HAL.out
      rw [HE.out] at this
      exact this.up HBW.out.size
end Go.Proofs.Ytncloiimbclklaa
