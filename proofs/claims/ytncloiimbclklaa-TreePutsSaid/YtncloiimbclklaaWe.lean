/- Putting an instance into a case: the reference's Put. Written by tools/genwe.py. -/
import Derived.Test.YtncloiimbclklaaWf
import Derived.Test.YtncloiimbclklaaCut
namespace Go.Proofs.Ytncloiimbclklaa
open Go Go.RowKit Go.Shelf
set_option linter.unusedVariables false
set_option linter.unusedSimpArgs false

theorem step_append_Q {ops : Array Oper} {o : Oper} {a : Act} {w : World} {Q : Exit → Act → World → Prop} {K : Act → World → Prop} {E : Prop} (hgd : o.guard = none) (s x : Operand)
    (ho : o.op = .call { callee := .builtin .append, args := #[s, x], argTypes := #[22, 22] }) (W0 : World) (v : Value) (n : Nat) (xs : List Value) (hs : a.eval s = v) (xv : Value) (m : Nat) (news : List Value) (hx : a.eval x = xv)
    (hB : Below W0.heap.size W0 w) (hown : w.ownsRow W0.heap.size 30 6 v n xs) (hsrc : Below W0.heap.size W0 w → SrcAt w 6 xv m news) (hnm : n + m ≤ 10000)
    (h : ∀ v' w', w'.ownsRow W0.heap.size 30 6 v' (n + m) (xs ++ news) → w.grownBy w' v.ownBlock → Below W0.heap.size W0 w' → K (a.put o.dst v') w') :
    if Region.wanted o (yielded ops a.tmps) = true then Oper.wp Try.prog o a w K Q else E := by
  obtain ⟨i0, hi, hz0, hz1, hz2⟩ := info_parts infoInst
  refine step_append_R hgd s x _ ho W0.heap.size 30 i0 _ 6 80 Try.underlying22 hi hz0 hz1 hz2 rfl (by decide) v n xs hs hown xv m news hx (hsrc hB) (by unfold maxLen; omega) (by omega) hB.size ?_
  intro v' w' h1 h2
  exact h v' w' h1 h2 (hB.grown h2 hB.size fun g hg => (ownr_lt hown g hg).1)
theorem own_empty {w : World} {b g : Nat} (hg : w.heap[g]? = some (.cells #[] 30 (0, 0))) (hb : b ≤ g) : w.ownsRow b 30 6 (.slice (some ⟨g, 0, none⟩) 0 0) 0 [] :=
  ⟨rfl, .inr ⟨g, 0, #[], rfl, hb, hg, by omega, by unfold maxLen; omega, by simp, by simp⟩⟩
theorem src_one6 {w : World} {g : Nat} {c0 c1 c2 c3 c4 c5 : Value} (hg : w.heap[g]? = some (.cells #[c0, c1, c2, c3, c4, c5] 30 (0, 0))) (h1 : ∀ u ∈ [c0, c1, c2, c3, c4, c5], u.oneCell' = true) : SrcAt w 6 (.slice (some ⟨g, 0, none⟩) 1 1) 1 [c0, c1, c2, c3, c4, c5] :=
  .inl ⟨_, 1, rfl, rfl, fun j u hu => by
    rw [Addr.add_lit]
    simp only [World.cell?, hg, Nat.zero_add]
    simpa using hu, h1⟩
theorem InstsOwn.mk3 {W : World} {base : Nat} {v2 : Value} {l l' : List IV} {x y : IV} {j : Nat} (h1 : l'.map IV.bare = l.map IV.bare) (h3 : ∀ z ∈ l', OwnS W base 3 1 z.lv z.ls.length (icells z.ls))
    (hx : OwnS W base 3 1 x.lv x.ls.length (icells x.ls)) (hxy : x.bare = y.bare) (hj : j ≤ l'.length) (hown : W.ownsRow base 30 6 v2 (l'.length + 1) ((flatI l').take (j * 6) ++ x.cells ++ (flatI l').drop (j * 6))) :
    InstsOwn W base v2 (l.take j ++ [y] ++ l.drop j) := by
  refine ⟨l'.take j ++ [x] ++ l'.drop j, by simp [List.map_take, List.map_drop, h1, hxy], ?_, fun z hz => ?_⟩
  · rw [flatI_app, flatI_app, ← flatI_take, ← flatI_drop, show flatI [x] = x.cells from by simp [flatI], show (l'.take j ++ [x] ++ l'.drop j).length = l'.length + 1 from by simp; omega]
    exact hown
  · simp only [List.mem_append, List.mem_singleton] at hz
    rcases hz with (hz | hz) | hz
    · exact h3 z (List.mem_of_mem_take hz)
    · rw [hz]; exact hx
    · exact h3 z (List.mem_of_mem_drop hz)
theorem ownr_up {w : World} {b b' n s : Nat} {e : TypeId} {v : Value} {xs : List Value} (h : w.ownsRow b e s v n xs) (hb : b' ≤ b) : w.ownsRow b' e s v n xs := by
  refine ⟨h.1, h.2.imp id ?_⟩
  rintro ⟨g, cap, cur, e1, e2, e3⟩
  exact ⟨g, cap, cur, e1, Nat.le_trans hb e2, e3⟩

set_option maxRecDepth 100000 in
set_option maxHeartbeats 2000000 in
theorem rput_c (w : World) (c : CV) (x : IV) (h : CVok w c) (hx : IVok w x) (hs : ∀ x ∈ c.insts, x.ls.length ≤ 40) (hs2 : ∀ x ∈ c.docs, x.rs.length ≤ 40) (hc4 : c.insts.length ≤ 1000) (hc5 : c.insts.length ≤ 40) (hd4 : c.docs.length ≤ 100) (hps : ∀ y ∈ c.insts, y.path.size ≤ 400) (hxp : x.path.size ≤ 400) (hxl : x.ls.length ≤ 17592186044416) :
    Calls Try.prog 23 #[c.val, .agg x.cells.toArray] w (PutC w c x) := by
  have HCP := Lib.hid (fun (W : World) (hb : Below w.heap.size w W) => rcopy_c W c (h.below hb) hs hs2 hc5 hd4)
  have HCI := Lib.hid (fun (W : World) (hb : Below w.heap.size w W) => rcopiedB_c W x (hx.below hb) hxl)
  have HIV := Lib.hid h.insts.2
  have HPS := Lib.hid hps
  have HXP := Lib.hid hxp
  have HC4 := Lib.hid hc4
  have hl := h.insts.1
  have hl2 := h.docs.1
  obtain ⟨pl, cp, hlv⟩ := hx.rl.form
  obtain ⟨id, mo, iv, dv, cl, is, ds⟩ := c
  obtain ⟨path, item, st, bf, lv, ls, due⟩ := x
  dsimp only at HIV HPS HXP HC4 hl hl2 hlv
  obtain ⟨a, ca, hiv, -⟩ := hl
  obtain ⟨a2, ca2, hdv, -⟩ := hl2
  subst hiv hdv hlv
  unfold CV.val IV.cells
  unfold CV.val at HCP
  unfold IV.cells at HCI
  dsimp only at HCP HCI ⊢
  obtain ⟨w0, hw0⟩ : ∃ x, x = ((w.alloc (.cells #[.int .i64 id, .string mo, .slice a is.length ca, .slice a2 ds.length ca2, .int .i64 cl] 25)).alloc (.cells #[.string path, .string item, .int .i64 st, .int .i64 bf, .slice pl (icells ls).length cp, .int .i64 due] 30)).alloc (.cells #[.int .i64 0, .string ⟨#[]⟩, .slice none 0 0, .slice none 0 0, .int .i64 0] 25) := ⟨_, rfl⟩
  have HBW := Lib.hid (show Below w.heap.size w w0 from by rw [hw0]; exact ((box_bel' w _).alloc (box_bel' w _).size _).alloc (by simp; omega) _)
  have HQ := Lib.hid (show w0.heap[w.heap.size]? = some (.cells #[.int .i64 id, .string mo, .slice a is.length ca, .slice a2 ds.length ca2, .int .i64 cl] 25 (0, 0)) from by rw [hw0]; exact three_old w _ _ _)
  have HQ2 := Lib.hid (show w0.heap[w.heap.size + 1]? = some (.cells #[.string path, .string item, .int .i64 st, .int .i64 bf, .slice pl (icells ls).length cp, .int .i64 due] 30 (0, 0)) from by rw [hw0]; exact three_mid w _ _ _)
  have HQ3 := Lib.hid (show w0.heap[w.heap.size + 2]? = some (.cells #[.int .i64 0, .string ⟨#[]⟩, .slice none 0 0, .slice none 0 0, .int .i64 0] 25 (0, 0)) from by rw [hw0]; exact three_new w _ _ _)
  have HSW := Lib.hid (show w0.heap.size = w.heap.size + 3 from by rw [hw0]; simp)
  have HW0 := Lib.hid hw0
  clear h hx hs hs2 hc4 hc5 hd4 hps hxp hxl hw0
  go_enter Try.func23, Try.ntmps23
  go_wp2_with fail
  rw [← HW0.out]
  obtain ⟨d0, d1, d2, d3, d4, dz⟩ := cells5 HQ.out
  go_wp2_with fail
  refine (HCP.out _ HBW.out).mono ?_
  rintro e w1 ⟨vI, vD, rfl, hi, hd, hb1⟩
  dsimp only at hi hd
  have HB1 := Lib.hid hb1
  rw [HSW.out] at hi hd
  obtain ⟨pD, cD, hvD⟩ := hd.form
  obtain ⟨pI, cI, hvI⟩ : ∃ p c, vI = .slice p is.length c := by
    obtain ⟨l', k1, k2, -⟩ := hi
    obtain ⟨p, c, hv, -⟩ := (OwnS.ofRow k2).form
    exact ⟨p, c, by rw [hv, show l'.length = is.length by simpa using congrArg List.length k1]⟩
  subst hvI hvD
  have HI1 := Lib.hid hi
  have HD1 := Lib.hid hd
  have hq1 := (hb1.block w.heap.size (by rw [HSW.out]; omega)).trans HQ.out
  have hq2 := (hb1.block (w.heap.size + 1) (by rw [HSW.out]; omega)).trans HQ2.out
  have hq3 := (hb1.block (w.heap.size + 2) (by rw [HSW.out]; omega)).trans HQ3.out
  have hs1 := hb1.size
  rw [HSW.out] at hs1
  clear d0 d1 d2 d3 d4 dz hi hd hb1
  obtain ⟨d0, d1, d2, d3, d4, dz⟩ := cells5 hq1
  obtain ⟨f0, f1, f2, f3, f4, f5, fz⟩ := cells6 hq2
  obtain ⟨w1', hw1'⟩ : ∃ z, z = putC w1 w.heap.size (.int .i64 id) (.string mo) (.slice pI is.length cI) (.slice pD ds.length cD) (.int .i64 cl) := ⟨_, rfl⟩
  have HA1 := Lib.hid (show w1'.heap[w.heap.size]? = some (.cells #[.int .i64 id, .string mo, .slice pI is.length cI, .slice pD ds.length cD, .int .i64 cl] 25 (0, 0)) from by rw [hw1']; exact putC_at hq1 _ _ _ _ _)
  have HA2 := Lib.hid (show w1'.heap[w.heap.size + 1]? = some (.cells #[.string path, .string item, .int .i64 st, .int .i64 bf, .slice pl (icells ls).length cp, .int .i64 due] 30 (0, 0)) from by rw [hw1']; exact (putC_far w1 w.heap.size (w.heap.size + 1) (by omega) _ _ _ _ _).trans hq2)
  have HA3 := Lib.hid (show w1'.heap[w.heap.size + 2]? = some (.cells #[.int .i64 0, .string ⟨#[]⟩, .slice none 0 0, .slice none 0 0, .int .i64 0] 25 (0, 0)) from by rw [hw1']; exact (putC_far w1 w.heap.size (w.heap.size + 2) (by omega) _ _ _ _ _).trans hq3)
  have HAI := Lib.hid (show InstsOwn w1' (w.heap.size + 3) (.slice pI is.length cI) is from by rw [hw1']; exact HI1.out.kept fun b hb _ => putC_far w1 w.heap.size b (by omega) _ _ _ _ _)
  have HAD := Lib.hid (show DocsOwn w1' (w.heap.size + 3) (.slice pD ds.length cD) ds from by rw [hw1']; exact HD1.out.kept fun b hb _ => putC_far w1 w.heap.size b (by omega) _ _ _ _ _)
  have HAB := Lib.hid (show Below w.heap.size w w1' from by rw [hw1']; exact putC_below (HBW.out.trans (HB1.out.mono HBW.out.size)) (Nat.le_refl _) _ _ _ _ _)
  have HAS := Lib.hid (show w.heap.size + 3 ≤ w1'.heap.size from by rw [hw1']; simpa [World.size_setCell] using hs1)
  have hw1u := hw1'
  unfold putC at hw1u
  have HW1 := Lib.hid hw1u
  clear hw1u
  clear hq1 hq2 hq3 hs1 hw1'
  go_wp2_with fail
  rw [← HW1.out]
  clear HW1 HI1 HD1 HB1 d0 d1 d2 d3 d4 dz f0 f1 f2 f3 f4 f5 fz
  refine (HCI.out _ HAB.out).mono ?_
  rintro e w2 ⟨vL, rfl, hown, hb1⟩
  dsimp only at hown
  obtain ⟨pL, cL, hvL, -⟩ := hown.form
  subst hvL
  have hq2 := (hb1.block (w.heap.size + 1) (by have := HAS.out; omega)).trans HA2.out
  obtain ⟨wy, hwy⟩ : ∃ z, z = putI w2 (w.heap.size + 1) (.string path) (.string item) (.int .i64 st) (.int .i64 bf) (.slice pL ls.length cL) (.int .i64 due) := ⟨_, rfl⟩
  have hq : wy.heap[w.heap.size]? = some (.cells #[.int .i64 id, .string mo, .slice pI is.length cI, .slice pD ds.length cD, .int .i64 cl] 25 (0, 0)) := by rw [hwy]; exact (putI_far w2 (w.heap.size + 1) w.heap.size (by omega) _ _ _ _ _ _).trans ((hb1.block w.heap.size (by have := HAS.out; omega)).trans HA1.out)
  have hq3 : wy.heap[w.heap.size + 2]? = some (.cells #[.int .i64 0, .string ⟨#[]⟩, .slice none 0 0, .slice none 0 0, .int .i64 0] 25 (0, 0)) := by rw [hwy]; exact (putI_far w2 (w.heap.size + 1) (w.heap.size + 2) (by omega) _ _ _ _ _ _).trans ((hb1.block (w.heap.size + 2) (by have := HAS.out; omega)).trans HA3.out)
  have hi : InstsOwn wy (w.heap.size + 3) (.slice pI is.length cI) is := by rw [hwy]; exact (HAI.out.below hb1).kept fun b hb _ => putI_far w2 (w.heap.size + 1) b (by omega) _ _ _ _ _ _
  have hd : DocsOwn wy (w.heap.size + 3) (.slice pD ds.length cD) ds := by rw [hwy]; exact (HAD.out.below hb1).kept fun b hb _ => putI_far w2 (w.heap.size + 1) b (by omega) _ _ _ _ _ _
  have hl : OwnS wy (w.heap.size + 3) 3 1 (.slice pL ls.length cL) ls.length (icells ls) := by rw [hwy]; exact (hown.up HAS.out).keep fun b hb => (by have := hown.base b hb; have := HAS.out; exact putI_far w2 (w.heap.size + 1) b (by omega) _ _ _ _ _ _)
  have hb : Below w.heap.size w wy := by rw [hwy]; exact putI_below (HAB.out.trans (hb1.mono HAB.out.size)) (by omega) _ _ _ _ _ _
  have hwyu := hwy
  unfold putI at hwyu
  have HWY := Lib.hid hwyu
  clear hwyu
  obtain ⟨f0, f1, f2, f3, f4, f5, fz⟩ := cells6 hq2
  have HYD := Lib.hid ((hb1.block w.heap.size (by have := HAS.out; omega)).trans HA1.out)
  obtain ⟨d0, d1, d2, d3, d4, dz⟩ := cells5 HYD.out
  have hq2 : wy.heap[w.heap.size + 1]? = some (.cells #[.string path, .string item, .int .i64 st, .int .i64 bf, .slice pL ls.length cL, .int .i64 due] 30 (0, 0)) := by rw [hwy]; exact putI_at hq2 _ _ _ _ _ _
  clear hown hb1 hwy
  have HIO := Lib.hid hi
  have HDO := Lib.hid hd
  have HLO := Lib.hid hl
  have HB := Lib.hid hb
  obtain ⟨lq, hlq, hbq⟩ := hi.is (w0 := w) HIV.out
  have HLQ := Lib.hid hlq
  obtain ⟨l', h1, h2, h3⟩ := hi
  have hlen : l'.length = is.length := by simpa using congrArg List.length h1
  have H1 := Lib.hid h1
  have H2 := Lib.hid h2
  have H3 := Lib.hid h3
  have HQA := Lib.hid hq
  have HQB := Lib.hid hq2
  have HQC := Lib.hid hq3
  have HLN := Lib.hid hlen
  have hE1 := idxZ_bare (f := hasP path) (fun _ => rfl) hbq
  have hE2 := idxZ_bare (f := gtP path) (fun _ => rfl) hbq
  have HPQ := Lib.hid (show ∀ y ∈ lq, y.path.size ≤ 400 from fun y hy => by
    have : y.bare ∈ lq.map IV.bare := List.mem_map.2 ⟨y, hy, rfl⟩
    rw [hbq] at this
    obtain ⟨z, hz, he⟩ := List.mem_map.1 this
    have := HPS.out z hz
    rwa [show z.path = y.path from by have := congrArg IV.path he; exact this] at this)
  have HCC := Lib.hid (fun (W : World) (hb : Below wy.heap.size wy W) => cells5 ((hb.block w.heap.size (Array.getElem?_eq_some_iff.1 HQA.out).1).trans HQA.out))
  have HCI := Lib.hid (fun (W : World) (hb : Below wy.heap.size wy W) => cells6 ((hb.block (w.heap.size + 1) (Array.getElem?_eq_some_iff.1 HQB.out).1).trans HQB.out))
  have HCZ := Lib.hid (fun (W : World) (hb : Below wy.heap.size wy W) => cells5 ((hb.block (w.heap.size + 2) (Array.getElem?_eq_some_iff.1 HQC.out).1).trans HQC.out))
  have HBQ := Lib.hid hbq
  clear hq hq2 hq3 hd hl hb hlq hbq h1 h2 h3 hlen hE1 hE2

  have hni : is.length ≤ 1000 := HC4.out
  obtain ⟨i0, hi, hz0, hz1, hz2⟩ := info_parts infoInst
  go_wp2_with fail
  rw [← HWY.out]
  clear HWY HYD d0 d1 d2 d3 d4 dz f0 f1 f2 f3 f4 f5 fz
  have HPA := Lib.hid (show ∀ (k : Nat) (h1 : k < is.length) (h2 : k < lq.length), lq[k].path = is[k].path from fun k h1 h2 => by
    have e : (lq.map IV.bare)[k]? = (is.map IV.bare)[k]? := by rw [HBQ.out]
    rw [List.getElem?_map, List.getElem?_map, List.getElem?_eq_getElem h1, List.getElem?_eq_getElem h2] at e
    have := congrArg IV.path (Option.some.inj e)
    exact this)
  have HQL := Lib.hid (show lq.length = is.length from by simpa using congrArg List.length HBQ.out)
  go_loopw [14] (fun i wr => ∃ k d : Nat, k ≤ is.length ∧ i = .int .i64 k ∧ wr = wy.drewN d ∧ ∀ y ∈ is.take k, hasP path y = false) (fun i _ => is.length - (intOf i).toNat)
  case atStart => exact ⟨0, 0, by omega, rfl, rfl, by simp⟩
  case round =>
    obtain ⟨k, d, hk, rfl, hwr, hall⟩ := hrel
    have HAL := Lib.hid hall
    have HBR := Lib.hid (show Below wy.heap.size wy wr from by rw [hwr]; exact below_drewN (Below.refl _ _) _)
    have HWR := Lib.hid hwr
    clear hall hwr
    obtain ⟨d0, d1, d2, d3, d4, dz⟩ := HCC.out wr HBR.out
    obtain ⟨f0, f1, f2, f3, f4, f5, fz⟩ := HCI.out wr HBR.out
    obtain ⟨e0, e1, e2, e3, e4, ez⟩ := HCZ.out wr HBR.out
    by_cases hlt : k < is.length
    · have hltq : k < lq.length := by rw [HQL.out]; exact hlt
      have hpath := HPA.out k hlt hltq
      obtain ⟨x, hx⟩ : ∃ x, x = lq[k] := ⟨_, rfl⟩
      have hrow : rowI lq k = x.cells := by unfold rowI; rw [List.getElem?_eq_getElem hltq, ← hx]; rfl
      rw [← hx] at hpath
      have HHIT := Lib.hid (fun (hb : (x.path.toList == path.toList) = true) => idx_hit (f := hasP path) hlt HAL.out (by rw [hpath] at hb; exact hb))
      have HNXT := Lib.hid (fun (hb : (x.path.toList == path.toList) = false) => idx_next (f := hasP path) hlt HAL.out (by rw [hpath] at hb; exact hb))
      have hr6 : Rows6 wr (.slice pI is.length cI) is.length (rowI lq) := by have := HLQ.out.1.below HBR.out; rwa [HQL.out] at this
      have hlen := HLN.out
      have h2 := ownr_below H2.out HBR.out
      rcases h2.2 with ⟨hv0, hn0⟩ | ⟨g, cap, cur, hv0, hbg, hg, hnc, hcm, hcs, htk⟩
      · omega
      simp only [Value.slice.injEq] at hv0
      obtain ⟨rfl, hl0, rfl⟩ := hv0
      obtain ⟨g2, o, ha, hgl, c0, c1, c2, c3, c4, c5⟩ := hr6.row hlt hrow
      simp only [Option.some.injEq, Addr.mk.injEq, and_true] at ha
      obtain ⟨rfl, rfl⟩ := ha
      simp only [Nat.zero_add] at c0 c1 c2 c3 c4 c5
      obtain ⟨xp, xi, xs, xb, xl, xls, xd⟩ := x
      dsimp only at c0 c1 c2 c3 c4 c5
      dsimp only at HHIT HNXT
      obtain ⟨q, hq⟩ : ∃ q, (xp.toList == path.toList) = q := ⟨_, rfl⟩
      rw [hq] at HHIT HNXT
      clear hr6 hrow hx hpath hltq
      have sz : ∀ o, wr.frozen? ⟨g, o, none⟩ = false := fun o => by simp [World.frozen?, hg]
      cases q
      · have HN := Lib.hid (HNXT.out rfl)
        clear HHIT HNXT hlen h2 hcs htk hnc hcm hbg hg hl0
        go_wp2_with fail
        go_quiet (fail)
        go_wp2_with fail
        go_roundw
        case rel => exact ⟨k + 1, d + nq, by omega, by go_num, by rw [HWR.out, World.drewN_drewN], HN.out⟩
        case measure => simp [intOf]; omega
      · have HN := Lib.hid (HHIT.out rfl)
        clear HHIT HNXT
        have hk2 : is.findIdx (hasP path) < is.length := by rw [HN.out]; exact hlt
        have HPF := Lib.hid (show putF is ⟨path, item, st, bf, .slice pl (icells ls).length cp, ls, due⟩ = is.set k ⟨path, item, st, bf, .slice pl (icells ls).length cp, ls, due⟩ from by unfold putF; rw [if_pos hk2, HN.out])
        have HG := Lib.hid (And.intro (show w.heap.size + 3 ≤ g from hbg) hg)
        have HSET := Lib.hid (fun (d : Nat) => InstsOwn.set (w := wr.drewN d) (y := ⟨path, item, st, bf, .slice pl (icells ls).length cp, ls, due⟩) (x := ⟨path, item, st, bf, .slice pL ls.length cL, ls, due⟩) (n := is.length) H1.out (ownr_below h2 (below_drewN (Below.refl _ _) _)) (fun z hz => ownS_below (H3.out z hz) (below_drewN HBR.out _)) (ownS_below HLO.out (below_drewN HBR.out _)) rfl (k := k) (by omega))
        have HQZ := Lib.hid ((HBR.out.block (w.heap.size + 2) (Array.getElem?_eq_some_iff.1 HQC.out).1).trans HQC.out)
        have hgw : w.heap.size + 3 ≤ g := hbg
        have hne2 : g ≠ w.heap.size := by omega
        clear hlen h2 hcs htk hnc hcm hbg hg hl0 hk2
        go_wp2_with fail
        go_quiet (fail)
        go_wp2_with fail
        refine bodyPost_ret (results_cell_row Try.results23 _ _ (w.heap.size + 2) 25 _ (0, 0) _ rfl (putC_at ((putR_far (wr.drewN nq) g (k * 6) (w.heap.size + 2) (by have := HG.out.1; omega) _ _ _ _ _ _).trans HQZ.out) _ _ _ _ _) Try.underlying25 rfl infoC5) rfl ?_
        refine ⟨_, _, rfl, ?_, ?_, ?_⟩
        · rw [HPF.out]
          exact ((HSET.out nq).kept fun b hb _ => putC_far _ (w.heap.size + 2) b (by omega) _ _ _ _ _).up (by omega)
        · exact ((DocsOwn.far (HDO.out.below (below_drewN HBR.out nq)) (by decide) (by decide) (show (wr.drewN nq).heap[g]? = _ from HG.out.2) (fun b hb => putR_far (wr.drewN nq) g (k * 6) b hb _ _ _ _ _ _)).kept fun b hb _ => putC_far _ (w.heap.size + 2) b (by omega) _ _ _ _ _).up (by omega)
        · exact putC_below (putR_below (HB.out.trans ((below_drewN HBR.out nq).mono HB.out.size)) (by have := HG.out.1; omega) _ _ _ _ _ _ _) (by omega) _ _ _ _ _
    · have HNO := Lib.hid (idx_none (f := hasP path) (k := k) (by omega) HAL.out)
      go_wp2_with fail
      clear hlt d0 d1 d2 d3 d4 dz f0 f1 f2 f3 f4 f5 fz e0 e1 e2 e3 e4 ez
      go_loopw [6] (fun i wr => ∃ j : Nat, j ≤ is.length ∧ i = .int .i64 j ∧ Below wy.heap.size wy wr ∧ ∀ y ∈ is.take j, gtP path y = false) (fun i _ => is.length - (intOf i).toNat)
      case atStart => exact ⟨0, by omega, rfl, HBR.out, by simp⟩
      case round =>
        clear hk HAL HWR HBR
        obtain ⟨j, hj, rfl, hbz, hall⟩ := hrel
        have HAL := Lib.hid hall
        have HBZ := Lib.hid hbz
        clear hall hbz
        obtain ⟨d0, d1, d2, d3, d4, dz⟩ := HCC.out _ HBZ.out
        obtain ⟨f0, f1, f2, f3, f4, f5, fz⟩ := HCI.out _ HBZ.out
        obtain ⟨e0, e1, e2, e3, e4, ez⟩ := HCZ.out _ HBZ.out
        have hlen := HLN.out
        have HOZ := Lib.hid (ownr_below H2.out HBZ.out)
        by_cases hlt : j < is.length
        · have hltq : j < lq.length := by rw [HQL.out]; exact hlt
          have hpath := HPA.out j hlt hltq
          obtain ⟨x, hx⟩ : ∃ x, x = lq[j] := ⟨_, rfl⟩
          have hrow : rowI lq j = x.cells := by unfold rowI; rw [List.getElem?_eq_getElem hltq, ← hx]; rfl
          have hxs := HPQ.out x (by rw [hx]; exact List.getElem_mem hltq)
          rw [← hx] at hpath
          have HHIT := Lib.hid (fun (hb : gtP path is[j] = true) => idx_hit (f := gtP path) hlt HAL.out hb)
          have HNXT := Lib.hid (fun (hb : gtP path is[j] = false) => idx_next (f := gtP path) hlt HAL.out hb)
          have hgt : gtP path is[j] = decide (0 < ordF x.path.data.toList path.data.toList) := by rw [hpath]; rfl
          rw [hgt] at HHIT HNXT
          have hr6 : Rows6 wr (.slice pI is.length cI) is.length (rowI lq) := by have := HLQ.out.1.below HBZ.out; rwa [HQL.out] at this
          rcases HOZ.out.2 with ⟨hv0, hn0⟩ | ⟨g, cap, cur, hv0, hbg, hg, hnc, hcm, hcs, htk⟩
          · omega
          simp only [Value.slice.injEq] at hv0
          obtain ⟨rfl, hl0, rfl⟩ := hv0
          obtain ⟨g2, o, ha, hgl, c0, c1, c2, c3, c4, c5⟩ := hr6.row hlt hrow
          simp only [Option.some.injEq, Addr.mk.injEq, and_true] at ha
          obtain ⟨rfl, rfl⟩ := ha
          simp only [Nat.zero_add] at c0 c1 c2 c3 c4 c5
          obtain ⟨xp, xi, xs, xb, xl, xls, xd⟩ := x
          dsimp only at c0 c1 c2 c3 c4 c5 HHIT HNXT hxs
          have HO := Lib.hid (fun W => rorder_c W xp path (by omega) (by have := HXP.out; omega))
          obtain ⟨R, hR⟩ : ∃ R : Int, ordF xp.data.toList path.data.toList = R := ⟨_, rfl⟩
          rw [hR] at HHIT HNXT
          simp only [hR] at HO
          have hd : decide ((j : Int) < (is.length : Int)) = true := decide_eq_true (by omega)
          have HKP := Lib.hid (show ∀ W : World, Below wr.heap.size wr W → (W.cell? ⟨w.heap.size, 2, none⟩ = some (.slice (some ⟨g, 0, none⟩) is.length cI) ∧ W.cell? ⟨g, j * 6, none⟩ = some (.string xp) ∧ W.cell? ⟨w.heap.size + 1, 0, none⟩ = some (.string path) ∧ Below wr.heap.size wr W) from fun W hb =>
            ⟨(HCC.out W (HBZ.out.trans (hb.mono HBZ.out.size))).2.2.1, (hb.cell (p := ⟨g, j * 6, none⟩) hgl).trans c0, (HCI.out W (HBZ.out.trans (hb.mono HBZ.out.size))).1, hb⟩)
          have hncA : is.length ≤ cI := by omega
          clear hlen hcs htk hnc hcm hbg hg hl0 hR hgt hr6 hrow hx hpath hltq hxs c0 c1 c2 c3 c4 c5 d0 d1 d2 d3 d4 dz f0 f1 f2 f3 f4 f5 fz e0 e1 e2 e3 e4 ez
          go_wp2_with fail
          go_region_held3 (fun W => W.cell? ⟨w.heap.size, 2, none⟩ = some (.slice (some ⟨g, 0, none⟩) is.length cI) ∧ W.cell? ⟨g, j * 6, none⟩ = some (.string xp) ∧ W.cell? ⟨w.heap.size + 1, 0, none⟩ = some (.string path) ∧ Below wr.heap.size wr W)
            (first
              | exact HKP.out _ (Below.refl _ _)
              | exact HKP.out _ ((Below.refl _ _).drew)
              | (refine HKP.out _ ?_; assumption)
              | (refine HKP.out _ (Below.drew ?_); assumption))
            (first
              | (go_split_ands; go_at_call 49; refine (HO.out _).mono ?_
                 rintro e u1 ⟨rfl, hb1⟩
                 have hB1 : Below wr.heap.size wr u1 := Below.trans (by assumption) (hb1.mono (Below.size (by assumption)))
                 clear hb1)
              | fail "no arm")
          have HU := Lib.hid (HBZ.out.trans (Below.mono (by assumption : Below wr.heap.size wr u1) HBZ.out.size))
          clear hB1 HKP
          by_cases hR0 : 0 < R
          · have HJ := Lib.hid (HHIT.out (decide_eq_true hR0))
            have hle : decide (R ≤ 0) = false := decide_eq_false (by omega)
            have hle2 : ¬ (R ≤ 0) := by omega
            have HPF := Lib.hid (show putF is ⟨path, item, st, bf, .slice pl (icells ls).length cp, ls, due⟩ = is.take j ++ [⟨path, item, st, bf, .slice pl (icells ls).length cp, ls, due⟩] ++ is.drop j from by unfold putF; rw [if_neg (by rw [HNO.out]; omega), HJ.out])
            have hltA := hlt
            clear HHIT HNXT hd hlt
            have hjl : j ≤ is.length := hj
            have hcjA : j < cI := by have := hncA; omega
            have HSB := Lib.hid (show w.heap.size + 3 ≤ u1.heap.size from by have h1 := (Array.getElem?_eq_some_iff.1 HQC.out).1; have h2 := HU.out.size; omega)
            have HOW := Lib.hid (by have := ownr_below H2.out HU.out; rw [HLN.out] at this; exact this)
            have hb3 : (j : Int) ≤ (is.length : Int) := by omega
            have hb5 : j ≤ is.length := hjl
            have HONE := Lib.hid (flatI_one l' (fun z hz u hu => by
              obtain ⟨pz, cz, hzz, -⟩ := (H3.out z hz).form
              simp only [IV.cells, List.mem_cons, List.not_mem_nil, or_false, hzz] at hu
              rcases hu with rfl | rfl | rfl | rfl | rfl | rfl <;> rfl))
            have hcj : ¬ (cI = j) := (by have h1 := hcjA; omega)
            have hb6 : j ≤ cI := by have h1 := hcjA; omega
            have hb4 : (j : Int) ≤ (cI : Int) := by omega
            have HS1 := Lib.hid (fun (W : World) (hb : Below u1.heap.size u1 W) => (show SrcAt W 6 (.slice (some ⟨g, 0, none⟩) j cI) j ((flatI l').take (j * 6)) from by
              have := row_piece (o := 0) (m := j) (c := cI) (ownr_below HOW.out hb) HONE.out 0 j (Or.inr rfl) (by omega)
              rwa [Nat.zero_mul, List.drop_zero] at this))
            have HS2 := Lib.hid (fun (W : World) (hb : Below u1.heap.size u1 W) => (show SrcAt W 6 (.slice (some ⟨g, j * 6, none⟩) (is.length - j) (cI - j)) (is.length - j) ((flatI l').drop (j * 6)) from by
              have := row_piece (o := j * 6) (m := is.length - j) (c := cI - j) (ownr_below HOW.out hb) HONE.out j j (Or.inr rfl) (by omega)
              rwa [List.take_of_length_le (by have := HOW.out.1; rw [List.length_drop]; omega)] at this))
            have HKP := Lib.hid (show ∀ W : World, Below u1.heap.size u1 W → (fun W => W.cell? ⟨w.heap.size, 2, none⟩ = some (.slice (some ⟨g, 0, none⟩) is.length cI) ∧ (W.cell? ⟨w.heap.size + 1, 0, none⟩ = some (.string path) ∧ W.cell? ⟨w.heap.size + 1, 1, none⟩ = some (.string item) ∧ W.cell? ⟨w.heap.size + 1, 2, none⟩ = some (.int .i64 st) ∧ W.cell? ⟨w.heap.size + 1, 3, none⟩ = some (.int .i64 bf) ∧ W.cell? ⟨w.heap.size + 1, 4, none⟩ = some (.slice pL ls.length cL) ∧ W.cell? ⟨w.heap.size + 1, 5, none⟩ = some (.int .i64 due)) ∧ Below u1.heap.size u1 W) W from fun W hb => by
              have hb' := HU.out.trans (hb.mono HU.out.size)
              obtain ⟨d0, d1, d2, d3, d4, dz⟩ := HCC.out W hb'
              obtain ⟨f0, f1, f2, f3, f4, f5, fz⟩ := HCI.out W hb'
              exact ⟨d2, ⟨f0, f1, f2, f3, f4, f5⟩, hb⟩)
            go_wp2_with fail
            refine wp_region_cut (S := (fun W => W.cell? ⟨w.heap.size, 2, none⟩ = some (.slice (some ⟨g, 0, none⟩) is.length cI) ∧ (W.cell? ⟨w.heap.size + 1, 0, none⟩ = some (.string path) ∧ W.cell? ⟨w.heap.size + 1, 1, none⟩ = some (.string item) ∧ W.cell? ⟨w.heap.size + 1, 2, none⟩ = some (.int .i64 st) ∧ W.cell? ⟨w.heap.size + 1, 3, none⟩ = some (.int .i64 bf) ∧ W.cell? ⟨w.heap.size + 1, 4, none⟩ = some (.slice pL ls.length cL) ∧ W.cell? ⟨w.heap.size + 1, 5, none⟩ = some (.int .i64 due)) ∧ Below u1.heap.size u1 W)) 15 (by kernel_rfl) (by kernel_rfl) ?_ (fun hHeld => ?_)
            · (try dsimp only)
              (first
                | exact HKP.out _ ((Below.refl _ _).drew)
                | exact HKP.out _ (((Below.refl _ u1).alloc (Nat.le_refl _) _).drew)
                | exact HKP.out _ ((((Below.refl _ u1).alloc (Nat.le_refl _) _).alloc (by simp) _).drew)
                | exact HKP.out _ (hB2.alloc hB2.size _)
                | (refine HKP.out _ ?_; assumption))
            simp only [List.take_succ_cons, List.take_zero]
            (try dsimp only at hHeld)
            all_goals (refine wpAnyH_take (i := 1) (v := ?_) rfl (by decide +kernel) (by decide +kernel) (by decide +kernel) (fun _ _ _ h => h) (Or.inl ⟨by rfl, ?_⟩) (by assumption) ?_; rotate_left 1; (focus (intro w hSw; (try dsimp only at hSw); (try simp only [List.getElem_toArray, List.getElem_cons_succ, List.getElem_cons_zero]); first | (go_simp; done) | (go_simp; with_reducible rfl))); (try simp only [Act.put, List.getElem_toArray, List.getElem_cons_succ, List.getElem_cons_zero, List.setIfInBounds_toArray, List.set_cons_zero, List.set_cons_succ]))
            all_goals (refine wpAnyH_take (i := 2) (v := ?_) rfl (by decide +kernel) (by decide +kernel) (by decide +kernel) (fun _ _ _ h => h) (Or.inl ⟨by rfl, ?_⟩) (by assumption) ?_; rotate_left 1; (focus (intro w hSw; (try dsimp only at hSw); (try simp only [List.getElem_toArray, List.getElem_cons_succ, List.getElem_cons_zero]); first | (go_simp; done) | (go_simp; with_reducible rfl))); (try simp only [Act.put, List.getElem_toArray, List.getElem_cons_succ, List.getElem_cons_zero, List.setIfInBounds_toArray, List.set_cons_zero, List.set_cons_succ]))
            all_goals (refine wpAnyH_take (i := 3) (v := ?_) rfl (by decide +kernel) (by decide +kernel) (by decide +kernel) (fun _ _ _ h => h) (Or.inl ⟨by rfl, ?_⟩) (by assumption) ?_; rotate_left 1; (focus (intro w hSw; (try dsimp only at hSw); (try simp only [List.getElem_toArray, List.getElem_cons_succ, List.getElem_cons_zero]); first | (go_simp; done) | (go_simp; with_reducible rfl))); (try simp only [Act.put, List.getElem_toArray, List.getElem_cons_succ, List.getElem_cons_zero, List.setIfInBounds_toArray, List.set_cons_zero, List.set_cons_succ]))
            all_goals (refine wpAnyH_take (i := 4) (v := ?_) rfl (by decide +kernel) (by decide +kernel) (by decide +kernel) (fun _ _ _ h => h) (Or.inl ⟨by rfl, ?_⟩) (by assumption) ?_; rotate_left 1; (focus (intro w hSw; (try dsimp only at hSw); (try simp only [List.getElem_toArray, List.getElem_cons_succ, List.getElem_cons_zero]); first | (go_simp; done) | (go_simp; with_reducible rfl))); (try simp only [Act.put, List.getElem_toArray, List.getElem_cons_succ, List.getElem_cons_zero, List.setIfInBounds_toArray, List.set_cons_zero, List.set_cons_succ]))
            all_goals (refine wpAnyH_take (i := 6) (v := ?_) rfl (by decide +kernel) (by decide +kernel) (by decide +kernel) (fun _ _ _ h => h) (Or.inl ⟨by rfl, ?_⟩) (by assumption) ?_; rotate_left 1; (focus (intro w hSw; (try dsimp only at hSw); (try simp only [List.getElem_toArray, List.getElem_cons_succ, List.getElem_cons_zero]); first | (go_simp; done) | (go_simp; with_reducible rfl))); (try simp only [Act.put, List.getElem_toArray, List.getElem_cons_succ, List.getElem_cons_zero, List.setIfInBounds_toArray, List.set_cons_zero, List.set_cons_succ]))
            all_goals (refine wpAnyH_take (i := 9) (v := ?_) rfl (by decide +kernel) (by decide +kernel) (by decide +kernel) (fun _ _ _ h => h) (Or.inl ⟨by rfl, ?_⟩) (by assumption) ?_; rotate_left 1; (focus (intro w hSw; (try dsimp only at hSw); (try simp only [List.getElem_toArray, List.getElem_cons_succ, List.getElem_cons_zero]); first | (go_simp; done) | (go_simp; with_reducible rfl))); (try simp only [Act.put, List.getElem_toArray, List.getElem_cons_succ, List.getElem_cons_zero, List.setIfInBounds_toArray, List.set_cons_zero, List.set_cons_succ]))
            all_goals (refine wpAnyH_take (i := 10) (v := ?_) rfl (by decide +kernel) (by decide +kernel) (by decide +kernel) (fun _ _ _ h => h) (Or.inl ⟨by rfl, ?_⟩) (by assumption) ?_; rotate_left 1; (focus (intro w hSw; (try dsimp only at hSw); (try simp only [List.getElem_toArray, List.getElem_cons_succ, List.getElem_cons_zero]); first | (go_simp; done) | (go_simp; with_reducible rfl))); (try simp only [Act.put, List.getElem_toArray, List.getElem_cons_succ, List.getElem_cons_zero, List.setIfInBounds_toArray, List.set_cons_zero, List.set_cons_succ]))
            all_goals (refine wpAnyH_take (i := 11) (v := ?_) rfl (by decide +kernel) (by decide +kernel) (by decide +kernel) (fun _ _ _ h => h) (Or.inl ⟨by rfl, ?_⟩) (by assumption) ?_; rotate_left 1; (focus (intro w hSw; (try dsimp only at hSw); (try simp only [List.getElem_toArray, List.getElem_cons_succ, List.getElem_cons_zero]); first | (go_simp; done) | (go_simp; with_reducible rfl))); (try simp only [Act.put, List.getElem_toArray, List.getElem_cons_succ, List.getElem_cons_zero, List.setIfInBounds_toArray, List.set_cons_zero, List.set_cons_succ]))
            all_goals (refine wpAnyH_take (i := 12) (v := ?_) rfl (by decide +kernel) (by decide +kernel) (by decide +kernel) (fun _ _ _ h => h) (Or.inl ⟨by rfl, ?_⟩) (by assumption) ?_; rotate_left 1; (focus (intro w hSw; (try dsimp only at hSw); (try simp only [List.getElem_toArray, List.getElem_cons_succ, List.getElem_cons_zero]); first | (go_simp; done) | (go_simp; with_reducible rfl))); (try simp only [Act.put, List.getElem_toArray, List.getElem_cons_succ, List.getElem_cons_zero, List.setIfInBounds_toArray, List.set_cons_zero, List.set_cons_succ]))
            iterate 5 (all_goals (
              (first
                | (refine wpAnyH_ready (rs := [0, 7]) (by decide +kernel) (by simp) ?_; refine (AllReadyH.cons rfl (fun Kx hKx => ?_) (AllReadyH.cons rfl (fun Kx hKx => ?_) AllReadyH.nil)))
                | (refine wpAnyH_ready (rs := [5, 7]) (by decide +kernel) (by simp) ?_; refine (AllReadyH.cons rfl (fun Kx hKx => ?_) (AllReadyH.cons rfl (fun Kx hKx => ?_) AllReadyH.nil)))
                | (refine wpAnyH_ready (rs := [0]) (by decide +kernel) (by simp) ?_; refine (AllReadyH.cons rfl (fun Kx hKx => ?_) AllReadyH.nil))
                | (refine wpAnyH_ready (rs := [7]) (by decide +kernel) (by simp) ?_; refine (AllReadyH.cons rfl (fun Kx hKx => ?_) AllReadyH.nil))
                | (refine wpAnyH_ready (rs := [5]) (by decide +kernel) (by simp) ?_; refine (AllReadyH.cons rfl (fun Kx hKx => ?_) AllReadyH.nil))
                | (refine wpAnyH_ready (rs := [8]) (by decide +kernel) (by simp) ?_; refine (AllReadyH.cons rfl (fun Kx hKx => ?_) AllReadyH.nil))
                | (refine wpAnyH_ready (rs := [13]) (by decide +kernel) (by simp) ?_; refine (AllReadyH.cons rfl (fun Kx hKx => ?_) AllReadyH.nil)))
              all_goals (
                first
                  | (first
                  | (go_split_ands
                     refine step_append_Q (by rfl) (Operand.tmp 52) (Operand.tmp 56) (by rfl) u1 (.slice (some ⟨u1.heap.size, 0, none⟩) 0 0) 0 [] (by rfl) _ j ((flatI l').take (j * 6)) (by rfl) (by assumption) ?_ ?_ (by omega) ?_
                     · first | exact own_empty (show (u1.alloc (.cells #[] 30)).heap[u1.heap.size]? = some (.cells #[] 30 (0, 0)) from heap_alloc_new u1 _) (Nat.le_refl _) | exact own_empty (show ((u1.alloc (.cells #[] 30)).alloc (.cells #[.string path, .string item, .int .i64 st, .int .i64 bf, .slice pL ls.length cL, .int .i64 due] 30)).heap[u1.heap.size]? = some (.cells #[] 30 (0, 0)) from two_old u1 _ _) (Nat.le_refl _) | exact own_empty (show ((u1.alloc (.cells #[.string path, .string item, .int .i64 st, .int .i64 bf, .slice pL ls.length cL, .int .i64 due] 30)).alloc (.cells #[] 30)).heap[u1.heap.size + 1]? = some (.cells #[] 30 (0, 0)) from two_new u1 _ _) (Nat.le_succ _)
                     · intro hB1; first | exact HS1.out _ hB1 | exact HS1.out _ hB1 _
                     intro v2 w2 hown2 hgrow2 hB2)
                  | (go_split_ands
                     refine step_append_Q (by rfl) (Operand.tmp 52) (Operand.tmp 56) (by rfl) u1 (.slice (some ⟨u1.heap.size + 1, 0, none⟩) 0 0) 0 [] (by rfl) _ j ((flatI l').take (j * 6)) (by rfl) (by assumption) ?_ ?_ (by omega) ?_
                     · first | exact own_empty (show (u1.alloc (.cells #[] 30)).heap[u1.heap.size]? = some (.cells #[] 30 (0, 0)) from heap_alloc_new u1 _) (Nat.le_refl _) | exact own_empty (show ((u1.alloc (.cells #[] 30)).alloc (.cells #[.string path, .string item, .int .i64 st, .int .i64 bf, .slice pL ls.length cL, .int .i64 due] 30)).heap[u1.heap.size]? = some (.cells #[] 30 (0, 0)) from two_old u1 _ _) (Nat.le_refl _) | exact own_empty (show ((u1.alloc (.cells #[.string path, .string item, .int .i64 st, .int .i64 bf, .slice pL ls.length cL, .int .i64 due] 30)).alloc (.cells #[] 30)).heap[u1.heap.size + 1]? = some (.cells #[] 30 (0, 0)) from two_new u1 _ _) (Nat.le_succ _)
                     · intro hB1; first | exact HS1.out _ hB1 | exact HS1.out _ hB1 _
                     intro v2 w2 hown2 hgrow2 hB2)
                  | (go_split_ands
                     refine step_append_Q (by rfl) (Operand.tmp 57) (Operand.tmp 59) (by rfl) u1 v2 (0 + j) ([] ++ (flatI l').take (j * 6)) (by rfl) (.slice (some ⟨w2.heap.size, 0, none⟩) 1 1) 1 [.string path, .string item, .int .i64 st, .int .i64 bf, .slice pL ls.length cL, .int .i64 due] (by rfl) (by assumption) ?_ ?_ (by omega) ?_
                     · exact ownr_below hown2 ((Below.refl _ _).alloc (Nat.le_refl _) _)
                     · intro hB1; exact src_one6 (heap_alloc_new w2 _) (by simp [Value.oneCell'])
                     intro v3 w3 hown3 hgrow3 hB3)
                  | (go_split_ands
                     refine step_append_Q (by rfl) (Operand.tmp 57) (Operand.tmp 59) (by rfl) u1 v2 (0 + j) ([] ++ (flatI l').take (j * 6)) (by rfl) (.slice (some ⟨u1.heap.size + 1, 0, none⟩) 1 1) 1 [.string path, .string item, .int .i64 st, .int .i64 bf, .slice pL ls.length cL, .int .i64 due] (by rfl) (by assumption) ?_ ?_ (by omega) ?_
                     · exact hown2
                     · intro hB1; exact src_one6 ((hgrow2.block (u1.heap.size + 1) (by simp) (by simp [Value.ownBlock])).trans (show ((u1.alloc (.cells #[] 30)).alloc (.cells #[.string path, .string item, .int .i64 st, .int .i64 bf, .slice pL ls.length cL, .int .i64 due] 30)).heap[u1.heap.size + 1]? = some (.cells #[.string path, .string item, .int .i64 st, .int .i64 bf, .slice pL ls.length cL, .int .i64 due] 30 (0, 0)) from two_new u1 _ _)) (by simp [Value.oneCell'])
                     intro v3 w3 hown3 hgrow3 hB3)
                  | (go_split_ands
                     refine step_append_Q (by rfl) (Operand.tmp 57) (Operand.tmp 59) (by rfl) u1 v2 (0 + j) ([] ++ (flatI l').take (j * 6)) (by rfl) (.slice (some ⟨u1.heap.size, 0, none⟩) 1 1) 1 [.string path, .string item, .int .i64 st, .int .i64 bf, .slice pL ls.length cL, .int .i64 due] (by rfl) (by assumption) ?_ ?_ (by omega) ?_
                     · exact hown2
                     · intro hB1; exact src_one6 ((hgrow2.block u1.heap.size (by simp; omega) (by simp [Value.ownBlock])).trans (show ((u1.alloc (.cells #[.string path, .string item, .int .i64 st, .int .i64 bf, .slice pL ls.length cL, .int .i64 due] 30)).alloc (.cells #[] 30)).heap[u1.heap.size]? = some (.cells #[.string path, .string item, .int .i64 st, .int .i64 bf, .slice pL ls.length cL, .int .i64 due] 30 (0, 0)) from two_old u1 _ _)) (by simp [Value.oneCell'])
                     intro v3 w3 hown3 hgrow3 hB3)
                  | (go_split_ands
                     refine step_append_Q (by rfl) (Operand.tmp 60) (Operand.tmp 64) (by rfl) u1 v3 (0 + j + 1) ([] ++ (flatI l').take (j * 6) ++ [.string path, .string item, .int .i64 st, .int .i64 bf, .slice pL ls.length cL, .int .i64 due]) (by rfl) _ (is.length - j) ((flatI l').drop (j * 6)) (by rfl) (by assumption) ?_ ?_ (by omega) ?_
                     · exact hown3
                     · intro hB1; first | exact HS2.out _ hB1 | exact HS2.out _ hB1 _
                     intro v4 w4 hown4 hgrow4 hB4)
                  | fail "no arm")
                  | ((try simp only [List.getElem_toArray, List.getElem_cons_succ, List.getElem_cons_zero]); go_simp)
                refine hKx.out _ _ ?_ (fun hHeld => ?_)
                · (try dsimp only)
                  (first
                    | exact HKP.out _ ((Below.refl _ _).drew)
                    | exact HKP.out _ (((Below.refl _ u1).alloc (Nat.le_refl _) _).drew)
                    | exact HKP.out _ ((((Below.refl _ u1).alloc (Nat.le_refl _) _).alloc (by simp) _).drew)
                    | exact HKP.out _ (hB2.alloc hB2.size _)
                    | (refine HKP.out _ ?_; assumption))
                (try dsimp only at hHeld)
                clear hKx Kx
                (try simp only [Act.put, List.getElem_toArray, List.getElem_cons_succ, List.getElem_cons_zero, List.setIfInBounds_toArray, List.set_cons_zero, List.set_cons_succ])
                repeat (first
                   | (refine wpAnyH_take (i := 14) (v := ?_) rfl (by decide +kernel) (by decide +kernel) (by decide +kernel) (fun _ _ _ h => h) (Or.inl ⟨by rfl, ?_⟩) (by assumption) ?_; rotate_left 1; (focus (intro w hSw; (try dsimp only at hSw); (try simp only [List.getElem_toArray, List.getElem_cons_succ, List.getElem_cons_zero]); first | (go_simp; done) | (go_simp; with_reducible rfl))); (try simp only [Act.put, List.getElem_toArray, List.getElem_cons_succ, List.getElem_cons_zero, List.setIfInBounds_toArray, List.set_cons_zero, List.set_cons_succ]))
                   | fail "nothing to take"))))
            all_goals refine wpAnyH_done (by decide +kernel) ?_ _
            all_goals simp only [cutPost, List.drop_succ_cons, List.drop_zero]
            all_goals
              have HB4 := Lib.hid (HU.out.trans (hB4.mono HU.out.size))
              have hown5 : w4.ownsRow (w.heap.size + 3) 30 6 v4 (l'.length + 1) ((flatI l').take (j * 6) ++ [.string path, .string item, .int .i64 st, .int .i64 bf, .slice pL ls.length cL, .int .i64 due] ++ (flatI l').drop (j * 6)) := by
                have := ownr_up hown4 HSB.out
                rw [show 0 + j + 1 + (is.length - j) = l'.length + 1 by have := HLN.out; omega, List.nil_append] at this
                exact this
              obtain ⟨p4, c4', hv4, -⟩ := (OwnS.ofRow hown5).form
              rw [HLN.out] at hv4
              subst hv4
              have HO5 := Lib.hid hown5
              clear hown4 hown5 hown3 hown2 hgrow2 hgrow3 hgrow4 hB2 hB3 hB4 hHeld HKP
              obtain ⟨d0, d1, d2, d3, d4, dz⟩ := HCC.out w4 HB4.out
              obtain ⟨e0, e1, e2, e3, e4, ez⟩ := HCZ.out w4 HB4.out
              go_wp2_with fail
              refine bodyPost_ret (results_cell_row Try.results23 _ _ (w.heap.size + 2) 25 _ (0, 0) _ rfl (putC_at ((Below.heap_setCell w4 ⟨w.heap.size, 2, none⟩ _ (w.heap.size + 2) (by show w.heap.size + 2 ≠ w.heap.size; omega)).trans ((HB4.out.block (w.heap.size + 2) (Array.getElem?_eq_some_iff.1 HQC.out).1).trans HQC.out)) _ _ _ _ _) Try.underlying25 rfl infoC5) rfl ?_
              refine ⟨_, _, rfl, ?_, ?_, ?_⟩
              · rw [HPF.out]
                have hI := InstsOwn.mk3 (y := ⟨path, item, st, bf, .slice pl (icells ls).length cp, ls, due⟩) (x := ⟨path, item, st, bf, .slice pL ls.length cL, ls, due⟩) (j := j) H1.out (fun z hz => ownS_below (H3.out z hz) HB4.out) (ownS_below HLO.out HB4.out) rfl (by have := HLN.out; omega) HO5.out
                refine InstsOwn.up (b' := w.heap.size) (base := w.heap.size + 3) (hI.kept fun b hb _ => (putC_far _ (w.heap.size + 2) b (by omega) _ _ _ _ _).trans (Below.heap_setCell w4 ⟨w.heap.size, 2, none⟩ _ b (by show b ≠ w.heap.size; omega))) (by omega)
              · refine DocsOwn.up (b' := w.heap.size) (base := w.heap.size + 3) ((HDO.out.below HB4.out).kept fun b hb _ => (putC_far _ (w.heap.size + 2) b (by omega) _ _ _ _ _).trans (Below.heap_setCell w4 ⟨w.heap.size, 2, none⟩ _ b (by show b ≠ w.heap.size; omega))) (by omega)
              · exact putC_below ((HB.out.trans (HB4.out.mono HB.out.size)).setCell (p := ⟨w.heap.size, 2, none⟩) (Nat.le_refl _) _) (by omega) _ _ _ _ _
          · have HN := Lib.hid (HNXT.out (decide_eq_false hR0))
            have hle : decide (R ≤ 0) = true := decide_eq_true (by omega)
            have hle2 : R ≤ 0 := by omega
            go_wp2_with fail
            go_roundw
            case rel => exact ⟨j + 1, by omega, by go_num, HU.out, HN.out⟩
            case measure => simp [intOf]; omega
        · have hje : j = is.length := by omega
          have HJ := Lib.hid (idx_none (f := gtP path) (k := j) (by omega) HAL.out)
          have HPF := Lib.hid (show putF is ⟨path, item, st, bf, .slice pl (icells ls).length cp, ls, due⟩ = is.take j ++ [⟨path, item, st, bf, .slice pl (icells ls).length cp, ls, due⟩] ++ is.drop j from by unfold putF; rw [if_neg (by rw [HNO.out]; omega), HJ.out, hje])
          have hd : decide ((j : Int) < (is.length : Int)) = false := decide_eq_false (by omega)
          have hjl : j ≤ is.length := hj
          clear hlen f0 f1 f2 f3 f4 f5 fz e0 e1 e2 e3 e4 ez hje
          go_wp2_with fail
          go_quiet (fail)
          go_wp2_with fail
          obtain ⟨u1, hu1⟩ : ∃ u, u = wr.drewN nq := ⟨_, rfl⟩
          rw [← hu1]
          have HU := Lib.hid (show Below wy.heap.size wy u1 from by rw [hu1]; exact below_drewN HBZ.out _)
          clear hu1 d0 d1 d2 d3 d4 dz hd
          rcases HOZ.out.2 with ⟨hv0, hn0⟩ | ⟨g, cap, cur, hv0, hbg, hg, hnc, hcm, hcs, htk⟩
          · simp only [Value.slice.injEq] at hv0
            obtain ⟨rfl, hl0, rfl⟩ := hv0
            have hj0 : j = 0 := by omega
            subst hj0
            have HL0 := Lib.hid hl0
            have HN0 := Lib.hid hn0
            clear hn0 hl0 hlt
            have HSB := Lib.hid (show w.heap.size + 3 ≤ u1.heap.size from by have h1 := (Array.getElem?_eq_some_iff.1 HQC.out).1; have h2 := HU.out.size; omega)
            have HOW := Lib.hid (by have := ownr_below H2.out HU.out; rw [HLN.out] at this; exact this)
            have hb3 : (0 : Int) ≤ (is.length : Int) := by omega
            have hb5 : 0 ≤ is.length := hjl
            have HONE := Lib.hid (flatI_one l' (fun z hz u hu => by
              obtain ⟨pz, cz, hzz, -⟩ := (H3.out z hz).form
              simp only [IV.cells, List.mem_cons, List.not_mem_nil, or_false, hzz] at hu
              rcases hu with rfl | rfl | rfl | rfl | rfl | rfl <;> rfl))
            have HS1 := Lib.hid (fun (W : World) (hb : Below u1.heap.size u1 W) => (show SrcAt W 6 (.slice none 0 0) 0 ((flatI l').take (0 * 6)) from .inr ⟨rfl, rfl, by simp⟩))
            have HS2 := Lib.hid (fun (W : World) (hb : Below u1.heap.size u1 W) => (show SrcAt W 6 (.slice none 0 0) 0 ((flatI l').drop (0 * 6)) from .inr ⟨rfl, rfl, by have := HOW.out.1; have := HL0.out; rw [List.drop_eq_nil_of_le (by omega)]⟩))
            have HKP := Lib.hid (show ∀ W : World, Below u1.heap.size u1 W → (fun W => W.cell? ⟨w.heap.size, 2, none⟩ = some (.slice none 0 0) ∧ (W.cell? ⟨w.heap.size + 1, 0, none⟩ = some (.string path) ∧ W.cell? ⟨w.heap.size + 1, 1, none⟩ = some (.string item) ∧ W.cell? ⟨w.heap.size + 1, 2, none⟩ = some (.int .i64 st) ∧ W.cell? ⟨w.heap.size + 1, 3, none⟩ = some (.int .i64 bf) ∧ W.cell? ⟨w.heap.size + 1, 4, none⟩ = some (.slice pL ls.length cL) ∧ W.cell? ⟨w.heap.size + 1, 5, none⟩ = some (.int .i64 due)) ∧ Below u1.heap.size u1 W) W from fun W hb => by
              have hb' := HU.out.trans (hb.mono HU.out.size)
              obtain ⟨d0, d1, d2, d3, d4, dz⟩ := HCC.out W hb'
              obtain ⟨f0, f1, f2, f3, f4, f5, fz⟩ := HCI.out W hb'
              rw [HL0.out] at d2
              exact ⟨d2, ⟨f0, f1, f2, f3, f4, f5⟩, hb⟩)
            go_wp2_with fail
            refine wp_region_cut (S := (fun W => W.cell? ⟨w.heap.size, 2, none⟩ = some (.slice none 0 0) ∧ (W.cell? ⟨w.heap.size + 1, 0, none⟩ = some (.string path) ∧ W.cell? ⟨w.heap.size + 1, 1, none⟩ = some (.string item) ∧ W.cell? ⟨w.heap.size + 1, 2, none⟩ = some (.int .i64 st) ∧ W.cell? ⟨w.heap.size + 1, 3, none⟩ = some (.int .i64 bf) ∧ W.cell? ⟨w.heap.size + 1, 4, none⟩ = some (.slice pL ls.length cL) ∧ W.cell? ⟨w.heap.size + 1, 5, none⟩ = some (.int .i64 due)) ∧ Below u1.heap.size u1 W)) 15 (by kernel_rfl) (by kernel_rfl) ?_ (fun hHeld => ?_)
            · (try dsimp only)
              (first
                | exact HKP.out _ ((Below.refl _ _).drew)
                | exact HKP.out _ (((Below.refl _ u1).alloc (Nat.le_refl _) _).drew)
                | exact HKP.out _ ((((Below.refl _ u1).alloc (Nat.le_refl _) _).alloc (by simp) _).drew)
                | exact HKP.out _ (hB2.alloc hB2.size _)
                | (refine HKP.out _ ?_; assumption))
            simp only [List.take_succ_cons, List.take_zero]
            (try dsimp only at hHeld)
            all_goals (refine wpAnyH_take (i := 1) (v := ?_) rfl (by decide +kernel) (by decide +kernel) (by decide +kernel) (fun _ _ _ h => h) (Or.inl ⟨by rfl, ?_⟩) (by assumption) ?_; rotate_left 1; (focus (intro w hSw; (try dsimp only at hSw); (try simp only [List.getElem_toArray, List.getElem_cons_succ, List.getElem_cons_zero]); first | (go_simp; done) | (go_simp; with_reducible rfl))); (try simp only [Act.put, List.getElem_toArray, List.getElem_cons_succ, List.getElem_cons_zero, List.setIfInBounds_toArray, List.set_cons_zero, List.set_cons_succ]))
            all_goals (refine wpAnyH_take (i := 2) (v := ?_) rfl (by decide +kernel) (by decide +kernel) (by decide +kernel) (fun _ _ _ h => h) (Or.inl ⟨by rfl, ?_⟩) (by assumption) ?_; rotate_left 1; (focus (intro w hSw; (try dsimp only at hSw); (try simp only [List.getElem_toArray, List.getElem_cons_succ, List.getElem_cons_zero]); first | (go_simp; done) | (go_simp; with_reducible rfl))); (try simp only [Act.put, List.getElem_toArray, List.getElem_cons_succ, List.getElem_cons_zero, List.setIfInBounds_toArray, List.set_cons_zero, List.set_cons_succ]))
            all_goals (refine wpAnyH_take (i := 3) (v := ?_) rfl (by decide +kernel) (by decide +kernel) (by decide +kernel) (fun _ _ _ h => h) (Or.inl ⟨by rfl, ?_⟩) (by assumption) ?_; rotate_left 1; (focus (intro w hSw; (try dsimp only at hSw); (try simp only [List.getElem_toArray, List.getElem_cons_succ, List.getElem_cons_zero]); first | (go_simp; done) | (go_simp; with_reducible rfl))); (try simp only [Act.put, List.getElem_toArray, List.getElem_cons_succ, List.getElem_cons_zero, List.setIfInBounds_toArray, List.set_cons_zero, List.set_cons_succ]))
            all_goals (refine wpAnyH_take (i := 4) (v := ?_) rfl (by decide +kernel) (by decide +kernel) (by decide +kernel) (fun _ _ _ h => h) (Or.inl ⟨by rfl, ?_⟩) (by assumption) ?_; rotate_left 1; (focus (intro w hSw; (try dsimp only at hSw); (try simp only [List.getElem_toArray, List.getElem_cons_succ, List.getElem_cons_zero]); first | (go_simp; done) | (go_simp; with_reducible rfl))); (try simp only [Act.put, List.getElem_toArray, List.getElem_cons_succ, List.getElem_cons_zero, List.setIfInBounds_toArray, List.set_cons_zero, List.set_cons_succ]))
            all_goals (refine wpAnyH_take (i := 6) (v := ?_) rfl (by decide +kernel) (by decide +kernel) (by decide +kernel) (fun _ _ _ h => h) (Or.inl ⟨by rfl, ?_⟩) (by assumption) ?_; rotate_left 1; (focus (intro w hSw; (try dsimp only at hSw); (try simp only [List.getElem_toArray, List.getElem_cons_succ, List.getElem_cons_zero]); first | (go_simp; done) | (go_simp; with_reducible rfl))); (try simp only [Act.put, List.getElem_toArray, List.getElem_cons_succ, List.getElem_cons_zero, List.setIfInBounds_toArray, List.set_cons_zero, List.set_cons_succ]))
            all_goals (refine wpAnyH_take (i := 9) (v := ?_) rfl (by decide +kernel) (by decide +kernel) (by decide +kernel) (fun _ _ _ h => h) (Or.inl ⟨by rfl, ?_⟩) (by assumption) ?_; rotate_left 1; (focus (intro w hSw; (try dsimp only at hSw); (try simp only [List.getElem_toArray, List.getElem_cons_succ, List.getElem_cons_zero]); first | (go_simp; done) | (go_simp; with_reducible rfl))); (try simp only [Act.put, List.getElem_toArray, List.getElem_cons_succ, List.getElem_cons_zero, List.setIfInBounds_toArray, List.set_cons_zero, List.set_cons_succ]))
            all_goals (refine wpAnyH_take (i := 10) (v := ?_) rfl (by decide +kernel) (by decide +kernel) (by decide +kernel) (fun _ _ _ h => h) (Or.inl ⟨by rfl, ?_⟩) (by assumption) ?_; rotate_left 1; (focus (intro w hSw; (try dsimp only at hSw); (try simp only [List.getElem_toArray, List.getElem_cons_succ, List.getElem_cons_zero]); first | (go_simp; done) | (go_simp; with_reducible rfl))); (try simp only [Act.put, List.getElem_toArray, List.getElem_cons_succ, List.getElem_cons_zero, List.setIfInBounds_toArray, List.set_cons_zero, List.set_cons_succ]))
            all_goals (refine wpAnyH_take (i := 11) (v := ?_) rfl (by decide +kernel) (by decide +kernel) (by decide +kernel) (fun _ _ _ h => h) (Or.inl ⟨by rfl, ?_⟩) (by assumption) ?_; rotate_left 1; (focus (intro w hSw; (try dsimp only at hSw); (try simp only [List.getElem_toArray, List.getElem_cons_succ, List.getElem_cons_zero]); first | (go_simp; done) | (go_simp; with_reducible rfl))); (try simp only [Act.put, List.getElem_toArray, List.getElem_cons_succ, List.getElem_cons_zero, List.setIfInBounds_toArray, List.set_cons_zero, List.set_cons_succ]))
            all_goals (refine wpAnyH_take (i := 12) (v := ?_) rfl (by decide +kernel) (by decide +kernel) (by decide +kernel) (fun _ _ _ h => h) (Or.inl ⟨by rfl, ?_⟩) (by assumption) ?_; rotate_left 1; (focus (intro w hSw; (try dsimp only at hSw); (try simp only [List.getElem_toArray, List.getElem_cons_succ, List.getElem_cons_zero]); first | (go_simp; done) | (go_simp; with_reducible rfl))); (try simp only [Act.put, List.getElem_toArray, List.getElem_cons_succ, List.getElem_cons_zero, List.setIfInBounds_toArray, List.set_cons_zero, List.set_cons_succ]))
            iterate 5 (all_goals (
              (first
                | (refine wpAnyH_ready (rs := [0, 7]) (by decide +kernel) (by simp) ?_; refine (AllReadyH.cons rfl (fun Kx hKx => ?_) (AllReadyH.cons rfl (fun Kx hKx => ?_) AllReadyH.nil)))
                | (refine wpAnyH_ready (rs := [5, 7]) (by decide +kernel) (by simp) ?_; refine (AllReadyH.cons rfl (fun Kx hKx => ?_) (AllReadyH.cons rfl (fun Kx hKx => ?_) AllReadyH.nil)))
                | (refine wpAnyH_ready (rs := [0]) (by decide +kernel) (by simp) ?_; refine (AllReadyH.cons rfl (fun Kx hKx => ?_) AllReadyH.nil))
                | (refine wpAnyH_ready (rs := [7]) (by decide +kernel) (by simp) ?_; refine (AllReadyH.cons rfl (fun Kx hKx => ?_) AllReadyH.nil))
                | (refine wpAnyH_ready (rs := [5]) (by decide +kernel) (by simp) ?_; refine (AllReadyH.cons rfl (fun Kx hKx => ?_) AllReadyH.nil))
                | (refine wpAnyH_ready (rs := [8]) (by decide +kernel) (by simp) ?_; refine (AllReadyH.cons rfl (fun Kx hKx => ?_) AllReadyH.nil))
                | (refine wpAnyH_ready (rs := [13]) (by decide +kernel) (by simp) ?_; refine (AllReadyH.cons rfl (fun Kx hKx => ?_) AllReadyH.nil)))
              all_goals (
                first
                  | (first
                  | (go_split_ands
                     refine step_append_Q (by rfl) (Operand.tmp 52) (Operand.tmp 56) (by rfl) u1 (.slice (some ⟨u1.heap.size, 0, none⟩) 0 0) 0 [] (by rfl) _ 0 ((flatI l').take (0 * 6)) (by rfl) (by assumption) ?_ ?_ (by omega) ?_
                     · first | exact own_empty (show (u1.alloc (.cells #[] 30)).heap[u1.heap.size]? = some (.cells #[] 30 (0, 0)) from heap_alloc_new u1 _) (Nat.le_refl _) | exact own_empty (show ((u1.alloc (.cells #[] 30)).alloc (.cells #[.string path, .string item, .int .i64 st, .int .i64 bf, .slice pL ls.length cL, .int .i64 due] 30)).heap[u1.heap.size]? = some (.cells #[] 30 (0, 0)) from two_old u1 _ _) (Nat.le_refl _) | exact own_empty (show ((u1.alloc (.cells #[.string path, .string item, .int .i64 st, .int .i64 bf, .slice pL ls.length cL, .int .i64 due] 30)).alloc (.cells #[] 30)).heap[u1.heap.size + 1]? = some (.cells #[] 30 (0, 0)) from two_new u1 _ _) (Nat.le_succ _)
                     · intro hB1; first | exact HS1.out _ hB1 | exact HS1.out _ hB1 _
                     intro v2 w2 hown2 hgrow2 hB2)
                  | (go_split_ands
                     refine step_append_Q (by rfl) (Operand.tmp 52) (Operand.tmp 56) (by rfl) u1 (.slice (some ⟨u1.heap.size + 1, 0, none⟩) 0 0) 0 [] (by rfl) _ 0 ((flatI l').take (0 * 6)) (by rfl) (by assumption) ?_ ?_ (by omega) ?_
                     · first | exact own_empty (show (u1.alloc (.cells #[] 30)).heap[u1.heap.size]? = some (.cells #[] 30 (0, 0)) from heap_alloc_new u1 _) (Nat.le_refl _) | exact own_empty (show ((u1.alloc (.cells #[] 30)).alloc (.cells #[.string path, .string item, .int .i64 st, .int .i64 bf, .slice pL ls.length cL, .int .i64 due] 30)).heap[u1.heap.size]? = some (.cells #[] 30 (0, 0)) from two_old u1 _ _) (Nat.le_refl _) | exact own_empty (show ((u1.alloc (.cells #[.string path, .string item, .int .i64 st, .int .i64 bf, .slice pL ls.length cL, .int .i64 due] 30)).alloc (.cells #[] 30)).heap[u1.heap.size + 1]? = some (.cells #[] 30 (0, 0)) from two_new u1 _ _) (Nat.le_succ _)
                     · intro hB1; first | exact HS1.out _ hB1 | exact HS1.out _ hB1 _
                     intro v2 w2 hown2 hgrow2 hB2)
                  | (go_split_ands
                     refine step_append_Q (by rfl) (Operand.tmp 57) (Operand.tmp 59) (by rfl) u1 v2 (0 + 0) ([] ++ (flatI l').take (0 * 6)) (by rfl) (.slice (some ⟨w2.heap.size, 0, none⟩) 1 1) 1 [.string path, .string item, .int .i64 st, .int .i64 bf, .slice pL ls.length cL, .int .i64 due] (by rfl) (by assumption) ?_ ?_ (by omega) ?_
                     · exact ownr_below hown2 ((Below.refl _ _).alloc (Nat.le_refl _) _)
                     · intro hB1; exact src_one6 (heap_alloc_new w2 _) (by simp [Value.oneCell'])
                     intro v3 w3 hown3 hgrow3 hB3)
                  | (go_split_ands
                     refine step_append_Q (by rfl) (Operand.tmp 57) (Operand.tmp 59) (by rfl) u1 v2 (0 + 0) ([] ++ (flatI l').take (0 * 6)) (by rfl) (.slice (some ⟨u1.heap.size + 1, 0, none⟩) 1 1) 1 [.string path, .string item, .int .i64 st, .int .i64 bf, .slice pL ls.length cL, .int .i64 due] (by rfl) (by assumption) ?_ ?_ (by omega) ?_
                     · exact hown2
                     · intro hB1; exact src_one6 ((hgrow2.block (u1.heap.size + 1) (by simp) (by simp [Value.ownBlock])).trans (show ((u1.alloc (.cells #[] 30)).alloc (.cells #[.string path, .string item, .int .i64 st, .int .i64 bf, .slice pL ls.length cL, .int .i64 due] 30)).heap[u1.heap.size + 1]? = some (.cells #[.string path, .string item, .int .i64 st, .int .i64 bf, .slice pL ls.length cL, .int .i64 due] 30 (0, 0)) from two_new u1 _ _)) (by simp [Value.oneCell'])
                     intro v3 w3 hown3 hgrow3 hB3)
                  | (go_split_ands
                     refine step_append_Q (by rfl) (Operand.tmp 57) (Operand.tmp 59) (by rfl) u1 v2 (0 + 0) ([] ++ (flatI l').take (0 * 6)) (by rfl) (.slice (some ⟨u1.heap.size, 0, none⟩) 1 1) 1 [.string path, .string item, .int .i64 st, .int .i64 bf, .slice pL ls.length cL, .int .i64 due] (by rfl) (by assumption) ?_ ?_ (by omega) ?_
                     · exact hown2
                     · intro hB1; exact src_one6 ((hgrow2.block u1.heap.size (by simp; omega) (by simp [Value.ownBlock])).trans (show ((u1.alloc (.cells #[.string path, .string item, .int .i64 st, .int .i64 bf, .slice pL ls.length cL, .int .i64 due] 30)).alloc (.cells #[] 30)).heap[u1.heap.size]? = some (.cells #[.string path, .string item, .int .i64 st, .int .i64 bf, .slice pL ls.length cL, .int .i64 due] 30 (0, 0)) from two_old u1 _ _)) (by simp [Value.oneCell'])
                     intro v3 w3 hown3 hgrow3 hB3)
                  | (go_split_ands
                     refine step_append_Q (by rfl) (Operand.tmp 60) (Operand.tmp 64) (by rfl) u1 v3 (0 + 0 + 1) ([] ++ (flatI l').take (0 * 6) ++ [.string path, .string item, .int .i64 st, .int .i64 bf, .slice pL ls.length cL, .int .i64 due]) (by rfl) _ 0 ((flatI l').drop (0 * 6)) (by rfl) (by assumption) ?_ ?_ (by omega) ?_
                     · exact hown3
                     · intro hB1; first | exact HS2.out _ hB1 | exact HS2.out _ hB1 _
                     intro v4 w4 hown4 hgrow4 hB4)
                  | fail "no arm")
                  | ((try simp only [List.getElem_toArray, List.getElem_cons_succ, List.getElem_cons_zero]); go_simp)
                refine hKx.out _ _ ?_ (fun hHeld => ?_)
                · (try dsimp only)
                  (first
                    | exact HKP.out _ ((Below.refl _ _).drew)
                    | exact HKP.out _ (((Below.refl _ u1).alloc (Nat.le_refl _) _).drew)
                    | exact HKP.out _ ((((Below.refl _ u1).alloc (Nat.le_refl _) _).alloc (by simp) _).drew)
                    | exact HKP.out _ (hB2.alloc hB2.size _)
                    | (refine HKP.out _ ?_; assumption))
                (try dsimp only at hHeld)
                clear hKx Kx
                (try simp only [Act.put, List.getElem_toArray, List.getElem_cons_succ, List.getElem_cons_zero, List.setIfInBounds_toArray, List.set_cons_zero, List.set_cons_succ])
                repeat (first
                   | (refine wpAnyH_take (i := 14) (v := ?_) rfl (by decide +kernel) (by decide +kernel) (by decide +kernel) (fun _ _ _ h => h) (Or.inl ⟨by rfl, ?_⟩) (by assumption) ?_; rotate_left 1; (focus (intro w hSw; (try dsimp only at hSw); (try simp only [List.getElem_toArray, List.getElem_cons_succ, List.getElem_cons_zero]); first | (go_simp; done) | (go_simp; with_reducible rfl))); (try simp only [Act.put, List.getElem_toArray, List.getElem_cons_succ, List.getElem_cons_zero, List.setIfInBounds_toArray, List.set_cons_zero, List.set_cons_succ]))
                   | fail "nothing to take"))))
            all_goals refine wpAnyH_done (by decide +kernel) ?_ _
            all_goals simp only [cutPost, List.drop_succ_cons, List.drop_zero]
            all_goals
              have HB4 := Lib.hid (HU.out.trans (hB4.mono HU.out.size))
              have hown5 : w4.ownsRow (w.heap.size + 3) 30 6 v4 (l'.length + 1) ((flatI l').take (0 * 6) ++ [.string path, .string item, .int .i64 st, .int .i64 bf, .slice pL ls.length cL, .int .i64 due] ++ (flatI l').drop (0 * 6)) := by
                have := ownr_up hown4 HSB.out
                rw [show 0 + 0 + 1 + 0 = l'.length + 1 by have := HN0.out; omega, List.nil_append] at this
                exact this
              obtain ⟨p4, c4', hv4, -⟩ := (OwnS.ofRow hown5).form
              rw [HLN.out] at hv4
              subst hv4
              have HO5 := Lib.hid hown5
              clear hown4 hown5 hown3 hown2 hgrow2 hgrow3 hgrow4 hB2 hB3 hB4 hHeld HKP
              obtain ⟨d0, d1, d2, d3, d4, dz⟩ := HCC.out w4 HB4.out
              obtain ⟨e0, e1, e2, e3, e4, ez⟩ := HCZ.out w4 HB4.out
              go_wp2_with fail
              refine bodyPost_ret (results_cell_row Try.results23 _ _ (w.heap.size + 2) 25 _ (0, 0) _ rfl (putC_at ((Below.heap_setCell w4 ⟨w.heap.size, 2, none⟩ _ (w.heap.size + 2) (by show w.heap.size + 2 ≠ w.heap.size; omega)).trans ((HB4.out.block (w.heap.size + 2) (Array.getElem?_eq_some_iff.1 HQC.out).1).trans HQC.out)) _ _ _ _ _) Try.underlying25 rfl infoC5) rfl ?_
              refine ⟨_, _, rfl, ?_, ?_, ?_⟩
              · rw [HPF.out]
                have hI := InstsOwn.mk3 (y := ⟨path, item, st, bf, .slice pl (icells ls).length cp, ls, due⟩) (x := ⟨path, item, st, bf, .slice pL ls.length cL, ls, due⟩) (j := 0) H1.out (fun z hz => ownS_below (H3.out z hz) HB4.out) (ownS_below HLO.out HB4.out) rfl (by have := HLN.out; omega) HO5.out
                refine InstsOwn.up (b' := w.heap.size) (base := w.heap.size + 3) (hI.kept fun b hb _ => (putC_far _ (w.heap.size + 2) b (by omega) _ _ _ _ _).trans (Below.heap_setCell w4 ⟨w.heap.size, 2, none⟩ _ b (by show b ≠ w.heap.size; omega))) (by omega)
              · refine DocsOwn.up (b' := w.heap.size) (base := w.heap.size + 3) ((HDO.out.below HB4.out).kept fun b hb _ => (putC_far _ (w.heap.size + 2) b (by omega) _ _ _ _ _).trans (Below.heap_setCell w4 ⟨w.heap.size, 2, none⟩ _ b (by show b ≠ w.heap.size; omega))) (by omega)
              · exact putC_below ((HB.out.trans (HB4.out.mono HB.out.size)).setCell (p := ⟨w.heap.size, 2, none⟩) (Nat.le_refl _) _) (by omega) _ _ _ _ _
          · simp only [Value.slice.injEq] at hv0
            obtain ⟨rfl, hl0, rfl⟩ := hv0
            have hln := HLN.out
            have hncA : is.length ≤ cI := by omega
            have hltA := hlt
            clear hcs htk hnc hcm hbg hg hl0 hln hlt
            by_cases hcI : cI = is.length
            · have HSB := Lib.hid (show w.heap.size + 3 ≤ u1.heap.size from by have h1 := (Array.getElem?_eq_some_iff.1 HQC.out).1; have h2 := HU.out.size; omega)
              have HOW := Lib.hid (by have := ownr_below H2.out HU.out; rw [HLN.out] at this; exact this)
              have hb3 : (j : Int) ≤ (is.length : Int) := by omega
              have hb5 : j ≤ is.length := hjl
              have HONE := Lib.hid (flatI_one l' (fun z hz u hu => by
                obtain ⟨pz, cz, hzz, -⟩ := (H3.out z hz).form
                simp only [IV.cells, List.mem_cons, List.not_mem_nil, or_false, hzz] at hu
                rcases hu with rfl | rfl | rfl | rfl | rfl | rfl <;> rfl))
              have hcj : j = cI := by omega
              have HJE := Lib.hid (show is.length = cI from hcI.symm)
              clear hcI hltA hncA
              subst hcj
              have hb4 : (j : Int) ≤ (j : Int) := by omega
              have HS1 := Lib.hid (fun (W : World) (hb : Below u1.heap.size u1 W) (kc : Nat) => (show SrcAt W 6 (.slice (some ⟨g, 0, none⟩) j kc) j ((flatI l').take (j * 6)) from by
                have := row_piece (o := 0) (m := j) (c := kc) (ownr_below HOW.out hb) HONE.out 0 j (Or.inr rfl) (by omega)
                rwa [Nat.zero_mul, List.drop_zero] at this))
              have HS2 := Lib.hid (fun (W : World) (hb : Below u1.heap.size u1 W) (kc : Nat) => (show SrcAt W 6 (.slice (some ⟨g, 0, none⟩) (is.length - j) kc) (is.length - j) ((flatI l').drop (j * 6)) from by
                have := row_piece (o := 0) (m := is.length - j) (c := kc) (ownr_below HOW.out hb) HONE.out j j (Or.inl (by have := HJE.out; omega)) (by omega)
                rwa [List.take_of_length_le (by have := HOW.out.1; rw [List.length_drop]; omega)] at this))
              have HKP := Lib.hid (show ∀ W : World, Below u1.heap.size u1 W → (fun W => W.cell? ⟨w.heap.size, 2, none⟩ = some (.slice (some ⟨g, 0, none⟩) is.length j) ∧ (W.cell? ⟨w.heap.size + 1, 0, none⟩ = some (.string path) ∧ W.cell? ⟨w.heap.size + 1, 1, none⟩ = some (.string item) ∧ W.cell? ⟨w.heap.size + 1, 2, none⟩ = some (.int .i64 st) ∧ W.cell? ⟨w.heap.size + 1, 3, none⟩ = some (.int .i64 bf) ∧ W.cell? ⟨w.heap.size + 1, 4, none⟩ = some (.slice pL ls.length cL) ∧ W.cell? ⟨w.heap.size + 1, 5, none⟩ = some (.int .i64 due)) ∧ Below u1.heap.size u1 W) W from fun W hb => by
                have hb' := HU.out.trans (hb.mono HU.out.size)
                obtain ⟨d0, d1, d2, d3, d4, dz⟩ := HCC.out W hb'
                obtain ⟨f0, f1, f2, f3, f4, f5, fz⟩ := HCI.out W hb'
                exact ⟨d2, ⟨f0, f1, f2, f3, f4, f5⟩, hb⟩)
              go_wp2_with fail
              refine wp_region_cut (S := (fun W => W.cell? ⟨w.heap.size, 2, none⟩ = some (.slice (some ⟨g, 0, none⟩) is.length j) ∧ (W.cell? ⟨w.heap.size + 1, 0, none⟩ = some (.string path) ∧ W.cell? ⟨w.heap.size + 1, 1, none⟩ = some (.string item) ∧ W.cell? ⟨w.heap.size + 1, 2, none⟩ = some (.int .i64 st) ∧ W.cell? ⟨w.heap.size + 1, 3, none⟩ = some (.int .i64 bf) ∧ W.cell? ⟨w.heap.size + 1, 4, none⟩ = some (.slice pL ls.length cL) ∧ W.cell? ⟨w.heap.size + 1, 5, none⟩ = some (.int .i64 due)) ∧ Below u1.heap.size u1 W)) 15 (by kernel_rfl) (by kernel_rfl) ?_ (fun hHeld => ?_)
              · (try dsimp only)
                (first
                  | exact HKP.out _ ((Below.refl _ _).drew)
                  | exact HKP.out _ (((Below.refl _ u1).alloc (Nat.le_refl _) _).drew)
                  | exact HKP.out _ ((((Below.refl _ u1).alloc (Nat.le_refl _) _).alloc (by simp) _).drew)
                  | exact HKP.out _ (hB2.alloc hB2.size _)
                  | (refine HKP.out _ ?_; assumption))
              simp only [List.take_succ_cons, List.take_zero]
              (try dsimp only at hHeld)
              all_goals (refine wpAnyH_take (i := 1) (v := ?_) rfl (by decide +kernel) (by decide +kernel) (by decide +kernel) (fun _ _ _ h => h) (Or.inl ⟨by rfl, ?_⟩) (by assumption) ?_; rotate_left 1; (focus (intro w hSw; (try dsimp only at hSw); (try simp only [List.getElem_toArray, List.getElem_cons_succ, List.getElem_cons_zero]); first | (go_simp; done) | (go_simp; with_reducible rfl))); (try simp only [Act.put, List.getElem_toArray, List.getElem_cons_succ, List.getElem_cons_zero, List.setIfInBounds_toArray, List.set_cons_zero, List.set_cons_succ]))
              all_goals (refine wpAnyH_take (i := 2) (v := ?_) rfl (by decide +kernel) (by decide +kernel) (by decide +kernel) (fun _ _ _ h => h) (Or.inl ⟨by rfl, ?_⟩) (by assumption) ?_; rotate_left 1; (focus (intro w hSw; (try dsimp only at hSw); (try simp only [List.getElem_toArray, List.getElem_cons_succ, List.getElem_cons_zero]); first | (go_simp; done) | (go_simp; with_reducible rfl))); (try simp only [Act.put, List.getElem_toArray, List.getElem_cons_succ, List.getElem_cons_zero, List.setIfInBounds_toArray, List.set_cons_zero, List.set_cons_succ]))
              all_goals (refine wpAnyH_take (i := 3) (v := ?_) rfl (by decide +kernel) (by decide +kernel) (by decide +kernel) (fun _ _ _ h => h) (Or.inl ⟨by rfl, ?_⟩) (by assumption) ?_; rotate_left 1; (focus (intro w hSw; (try dsimp only at hSw); (try simp only [List.getElem_toArray, List.getElem_cons_succ, List.getElem_cons_zero]); first | (go_simp; done) | (go_simp; with_reducible rfl))); (try simp only [Act.put, List.getElem_toArray, List.getElem_cons_succ, List.getElem_cons_zero, List.setIfInBounds_toArray, List.set_cons_zero, List.set_cons_succ]))
              all_goals (refine wpAnyH_take (i := 4) (v := ?_) rfl (by decide +kernel) (by decide +kernel) (by decide +kernel) (fun _ _ _ h => h) (Or.inl ⟨by rfl, ?_⟩) (by assumption) ?_; rotate_left 1; (focus (intro w hSw; (try dsimp only at hSw); (try simp only [List.getElem_toArray, List.getElem_cons_succ, List.getElem_cons_zero]); first | (go_simp; done) | (go_simp; with_reducible rfl))); (try simp only [Act.put, List.getElem_toArray, List.getElem_cons_succ, List.getElem_cons_zero, List.setIfInBounds_toArray, List.set_cons_zero, List.set_cons_succ]))
              all_goals (refine wpAnyH_take (i := 6) (v := ?_) rfl (by decide +kernel) (by decide +kernel) (by decide +kernel) (fun _ _ _ h => h) (Or.inl ⟨by rfl, ?_⟩) (by assumption) ?_; rotate_left 1; (focus (intro w hSw; (try dsimp only at hSw); (try simp only [List.getElem_toArray, List.getElem_cons_succ, List.getElem_cons_zero]); first | (go_simp; done) | (go_simp; with_reducible rfl))); (try simp only [Act.put, List.getElem_toArray, List.getElem_cons_succ, List.getElem_cons_zero, List.setIfInBounds_toArray, List.set_cons_zero, List.set_cons_succ]))
              all_goals (refine wpAnyH_take (i := 9) (v := ?_) rfl (by decide +kernel) (by decide +kernel) (by decide +kernel) (fun _ _ _ h => h) (Or.inl ⟨by rfl, ?_⟩) (by assumption) ?_; rotate_left 1; (focus (intro w hSw; (try dsimp only at hSw); (try simp only [List.getElem_toArray, List.getElem_cons_succ, List.getElem_cons_zero]); first | (go_simp; done) | (go_simp; with_reducible rfl))); (try simp only [Act.put, List.getElem_toArray, List.getElem_cons_succ, List.getElem_cons_zero, List.setIfInBounds_toArray, List.set_cons_zero, List.set_cons_succ]))
              all_goals (refine wpAnyH_take (i := 10) (v := ?_) rfl (by decide +kernel) (by decide +kernel) (by decide +kernel) (fun _ _ _ h => h) (Or.inl ⟨by rfl, ?_⟩) (by assumption) ?_; rotate_left 1; (focus (intro w hSw; (try dsimp only at hSw); (try simp only [List.getElem_toArray, List.getElem_cons_succ, List.getElem_cons_zero]); first | (go_simp; done) | (go_simp; with_reducible rfl))); (try simp only [Act.put, List.getElem_toArray, List.getElem_cons_succ, List.getElem_cons_zero, List.setIfInBounds_toArray, List.set_cons_zero, List.set_cons_succ]))
              all_goals (refine wpAnyH_take (i := 11) (v := ?_) rfl (by decide +kernel) (by decide +kernel) (by decide +kernel) (fun _ _ _ h => h) (Or.inl ⟨by rfl, ?_⟩) (by assumption) ?_; rotate_left 1; (focus (intro w hSw; (try dsimp only at hSw); (try simp only [List.getElem_toArray, List.getElem_cons_succ, List.getElem_cons_zero]); first | (go_simp; done) | (go_simp; with_reducible rfl))); (try simp only [Act.put, List.getElem_toArray, List.getElem_cons_succ, List.getElem_cons_zero, List.setIfInBounds_toArray, List.set_cons_zero, List.set_cons_succ]))
              all_goals (refine wpAnyH_take (i := 12) (v := ?_) rfl (by decide +kernel) (by decide +kernel) (by decide +kernel) (fun _ _ _ h => h) (Or.inl ⟨by rfl, ?_⟩) (by assumption) ?_; rotate_left 1; (focus (intro w hSw; (try dsimp only at hSw); (try simp only [List.getElem_toArray, List.getElem_cons_succ, List.getElem_cons_zero]); first | (go_simp; done) | (go_simp; with_reducible rfl))); (try simp only [Act.put, List.getElem_toArray, List.getElem_cons_succ, List.getElem_cons_zero, List.setIfInBounds_toArray, List.set_cons_zero, List.set_cons_succ]))
              iterate 5 (all_goals (
                (first
                  | (refine wpAnyH_ready (rs := [0, 7]) (by decide +kernel) (by simp) ?_; refine (AllReadyH.cons rfl (fun Kx hKx => ?_) (AllReadyH.cons rfl (fun Kx hKx => ?_) AllReadyH.nil)))
                  | (refine wpAnyH_ready (rs := [5, 7]) (by decide +kernel) (by simp) ?_; refine (AllReadyH.cons rfl (fun Kx hKx => ?_) (AllReadyH.cons rfl (fun Kx hKx => ?_) AllReadyH.nil)))
                  | (refine wpAnyH_ready (rs := [0]) (by decide +kernel) (by simp) ?_; refine (AllReadyH.cons rfl (fun Kx hKx => ?_) AllReadyH.nil))
                  | (refine wpAnyH_ready (rs := [7]) (by decide +kernel) (by simp) ?_; refine (AllReadyH.cons rfl (fun Kx hKx => ?_) AllReadyH.nil))
                  | (refine wpAnyH_ready (rs := [5]) (by decide +kernel) (by simp) ?_; refine (AllReadyH.cons rfl (fun Kx hKx => ?_) AllReadyH.nil))
                  | (refine wpAnyH_ready (rs := [8]) (by decide +kernel) (by simp) ?_; refine (AllReadyH.cons rfl (fun Kx hKx => ?_) AllReadyH.nil))
                  | (refine wpAnyH_ready (rs := [13]) (by decide +kernel) (by simp) ?_; refine (AllReadyH.cons rfl (fun Kx hKx => ?_) AllReadyH.nil)))
                all_goals (
                  first
                    | (first
                    | (go_split_ands
                       refine step_append_Q (by rfl) (Operand.tmp 52) (Operand.tmp 56) (by rfl) u1 (.slice (some ⟨u1.heap.size, 0, none⟩) 0 0) 0 [] (by rfl) _ j ((flatI l').take (j * 6)) (by rfl) (by assumption) ?_ ?_ (by omega) ?_
                       · first | exact own_empty (show (u1.alloc (.cells #[] 30)).heap[u1.heap.size]? = some (.cells #[] 30 (0, 0)) from heap_alloc_new u1 _) (Nat.le_refl _) | exact own_empty (show ((u1.alloc (.cells #[] 30)).alloc (.cells #[.string path, .string item, .int .i64 st, .int .i64 bf, .slice pL ls.length cL, .int .i64 due] 30)).heap[u1.heap.size]? = some (.cells #[] 30 (0, 0)) from two_old u1 _ _) (Nat.le_refl _) | exact own_empty (show ((u1.alloc (.cells #[.string path, .string item, .int .i64 st, .int .i64 bf, .slice pL ls.length cL, .int .i64 due] 30)).alloc (.cells #[] 30)).heap[u1.heap.size + 1]? = some (.cells #[] 30 (0, 0)) from two_new u1 _ _) (Nat.le_succ _)
                       · intro hB1; first | exact HS1.out _ hB1 | exact HS1.out _ hB1 _
                       intro v2 w2 hown2 hgrow2 hB2)
                    | (go_split_ands
                       refine step_append_Q (by rfl) (Operand.tmp 52) (Operand.tmp 56) (by rfl) u1 (.slice (some ⟨u1.heap.size + 1, 0, none⟩) 0 0) 0 [] (by rfl) _ j ((flatI l').take (j * 6)) (by rfl) (by assumption) ?_ ?_ (by omega) ?_
                       · first | exact own_empty (show (u1.alloc (.cells #[] 30)).heap[u1.heap.size]? = some (.cells #[] 30 (0, 0)) from heap_alloc_new u1 _) (Nat.le_refl _) | exact own_empty (show ((u1.alloc (.cells #[] 30)).alloc (.cells #[.string path, .string item, .int .i64 st, .int .i64 bf, .slice pL ls.length cL, .int .i64 due] 30)).heap[u1.heap.size]? = some (.cells #[] 30 (0, 0)) from two_old u1 _ _) (Nat.le_refl _) | exact own_empty (show ((u1.alloc (.cells #[.string path, .string item, .int .i64 st, .int .i64 bf, .slice pL ls.length cL, .int .i64 due] 30)).alloc (.cells #[] 30)).heap[u1.heap.size + 1]? = some (.cells #[] 30 (0, 0)) from two_new u1 _ _) (Nat.le_succ _)
                       · intro hB1; first | exact HS1.out _ hB1 | exact HS1.out _ hB1 _
                       intro v2 w2 hown2 hgrow2 hB2)
                    | (go_split_ands
                       refine step_append_Q (by rfl) (Operand.tmp 57) (Operand.tmp 59) (by rfl) u1 v2 (0 + j) ([] ++ (flatI l').take (j * 6)) (by rfl) (.slice (some ⟨w2.heap.size, 0, none⟩) 1 1) 1 [.string path, .string item, .int .i64 st, .int .i64 bf, .slice pL ls.length cL, .int .i64 due] (by rfl) (by assumption) ?_ ?_ (by omega) ?_
                       · exact ownr_below hown2 ((Below.refl _ _).alloc (Nat.le_refl _) _)
                       · intro hB1; exact src_one6 (heap_alloc_new w2 _) (by simp [Value.oneCell'])
                       intro v3 w3 hown3 hgrow3 hB3)
                    | (go_split_ands
                       refine step_append_Q (by rfl) (Operand.tmp 57) (Operand.tmp 59) (by rfl) u1 v2 (0 + j) ([] ++ (flatI l').take (j * 6)) (by rfl) (.slice (some ⟨u1.heap.size + 1, 0, none⟩) 1 1) 1 [.string path, .string item, .int .i64 st, .int .i64 bf, .slice pL ls.length cL, .int .i64 due] (by rfl) (by assumption) ?_ ?_ (by omega) ?_
                       · exact hown2
                       · intro hB1; exact src_one6 ((hgrow2.block (u1.heap.size + 1) (by simp) (by simp [Value.ownBlock])).trans (show ((u1.alloc (.cells #[] 30)).alloc (.cells #[.string path, .string item, .int .i64 st, .int .i64 bf, .slice pL ls.length cL, .int .i64 due] 30)).heap[u1.heap.size + 1]? = some (.cells #[.string path, .string item, .int .i64 st, .int .i64 bf, .slice pL ls.length cL, .int .i64 due] 30 (0, 0)) from two_new u1 _ _)) (by simp [Value.oneCell'])
                       intro v3 w3 hown3 hgrow3 hB3)
                    | (go_split_ands
                       refine step_append_Q (by rfl) (Operand.tmp 57) (Operand.tmp 59) (by rfl) u1 v2 (0 + j) ([] ++ (flatI l').take (j * 6)) (by rfl) (.slice (some ⟨u1.heap.size, 0, none⟩) 1 1) 1 [.string path, .string item, .int .i64 st, .int .i64 bf, .slice pL ls.length cL, .int .i64 due] (by rfl) (by assumption) ?_ ?_ (by omega) ?_
                       · exact hown2
                       · intro hB1; exact src_one6 ((hgrow2.block u1.heap.size (by simp; omega) (by simp [Value.ownBlock])).trans (show ((u1.alloc (.cells #[.string path, .string item, .int .i64 st, .int .i64 bf, .slice pL ls.length cL, .int .i64 due] 30)).alloc (.cells #[] 30)).heap[u1.heap.size]? = some (.cells #[.string path, .string item, .int .i64 st, .int .i64 bf, .slice pL ls.length cL, .int .i64 due] 30 (0, 0)) from two_old u1 _ _)) (by simp [Value.oneCell'])
                       intro v3 w3 hown3 hgrow3 hB3)
                    | (go_split_ands
                       refine step_append_Q (by rfl) (Operand.tmp 60) (Operand.tmp 64) (by rfl) u1 v3 (0 + j + 1) ([] ++ (flatI l').take (j * 6) ++ [.string path, .string item, .int .i64 st, .int .i64 bf, .slice pL ls.length cL, .int .i64 due]) (by rfl) _ (is.length - j) ((flatI l').drop (j * 6)) (by rfl) (by assumption) ?_ ?_ (by omega) ?_
                       · exact hown3
                       · intro hB1; first | exact HS2.out _ hB1 | exact HS2.out _ hB1 _
                       intro v4 w4 hown4 hgrow4 hB4)
                    | fail "no arm")
                    | ((try simp only [List.getElem_toArray, List.getElem_cons_succ, List.getElem_cons_zero]); go_simp)
                  refine hKx.out _ _ ?_ (fun hHeld => ?_)
                  · (try dsimp only)
                    (first
                      | exact HKP.out _ ((Below.refl _ _).drew)
                      | exact HKP.out _ (((Below.refl _ u1).alloc (Nat.le_refl _) _).drew)
                      | exact HKP.out _ ((((Below.refl _ u1).alloc (Nat.le_refl _) _).alloc (by simp) _).drew)
                      | exact HKP.out _ (hB2.alloc hB2.size _)
                      | (refine HKP.out _ ?_; assumption))
                  (try dsimp only at hHeld)
                  clear hKx Kx
                  (try simp only [Act.put, List.getElem_toArray, List.getElem_cons_succ, List.getElem_cons_zero, List.setIfInBounds_toArray, List.set_cons_zero, List.set_cons_succ])
                  repeat (first
                     | (refine wpAnyH_take (i := 14) (v := ?_) rfl (by decide +kernel) (by decide +kernel) (by decide +kernel) (fun _ _ _ h => h) (Or.inl ⟨by rfl, ?_⟩) (by assumption) ?_; rotate_left 1; (focus (intro w hSw; (try dsimp only at hSw); (try simp only [List.getElem_toArray, List.getElem_cons_succ, List.getElem_cons_zero]); first | (go_simp; done) | (go_simp; with_reducible rfl))); (try simp only [Act.put, List.getElem_toArray, List.getElem_cons_succ, List.getElem_cons_zero, List.setIfInBounds_toArray, List.set_cons_zero, List.set_cons_succ]))
                     | fail "nothing to take"))))
              all_goals refine wpAnyH_done (by decide +kernel) ?_ _
              all_goals simp only [cutPost, List.drop_succ_cons, List.drop_zero]
              all_goals
                have HB4 := Lib.hid (HU.out.trans (hB4.mono HU.out.size))
                have hown5 : w4.ownsRow (w.heap.size + 3) 30 6 v4 (l'.length + 1) ((flatI l').take (j * 6) ++ [.string path, .string item, .int .i64 st, .int .i64 bf, .slice pL ls.length cL, .int .i64 due] ++ (flatI l').drop (j * 6)) := by
                  have := ownr_up hown4 HSB.out
                  rw [show 0 + j + 1 + (is.length - j) = l'.length + 1 by have := HLN.out; omega, List.nil_append] at this
                  exact this
                obtain ⟨p4, c4', hv4, -⟩ := (OwnS.ofRow hown5).form
                rw [HLN.out] at hv4
                subst hv4
                have HO5 := Lib.hid hown5
                clear hown4 hown5 hown3 hown2 hgrow2 hgrow3 hgrow4 hB2 hB3 hB4 hHeld HKP
                obtain ⟨d0, d1, d2, d3, d4, dz⟩ := HCC.out w4 HB4.out
                obtain ⟨e0, e1, e2, e3, e4, ez⟩ := HCZ.out w4 HB4.out
                go_wp2_with fail
                refine bodyPost_ret (results_cell_row Try.results23 _ _ (w.heap.size + 2) 25 _ (0, 0) _ rfl (putC_at ((Below.heap_setCell w4 ⟨w.heap.size, 2, none⟩ _ (w.heap.size + 2) (by show w.heap.size + 2 ≠ w.heap.size; omega)).trans ((HB4.out.block (w.heap.size + 2) (Array.getElem?_eq_some_iff.1 HQC.out).1).trans HQC.out)) _ _ _ _ _) Try.underlying25 rfl infoC5) rfl ?_
                refine ⟨_, _, rfl, ?_, ?_, ?_⟩
                · rw [HPF.out]
                  have hI := InstsOwn.mk3 (y := ⟨path, item, st, bf, .slice pl (icells ls).length cp, ls, due⟩) (x := ⟨path, item, st, bf, .slice pL ls.length cL, ls, due⟩) (j := j) H1.out (fun z hz => ownS_below (H3.out z hz) HB4.out) (ownS_below HLO.out HB4.out) rfl (by have := HLN.out; omega) HO5.out
                  refine InstsOwn.up (b' := w.heap.size) (base := w.heap.size + 3) (hI.kept fun b hb _ => (putC_far _ (w.heap.size + 2) b (by omega) _ _ _ _ _).trans (Below.heap_setCell w4 ⟨w.heap.size, 2, none⟩ _ b (by show b ≠ w.heap.size; omega))) (by omega)
                · refine DocsOwn.up (b' := w.heap.size) (base := w.heap.size + 3) ((HDO.out.below HB4.out).kept fun b hb _ => (putC_far _ (w.heap.size + 2) b (by omega) _ _ _ _ _).trans (Below.heap_setCell w4 ⟨w.heap.size, 2, none⟩ _ b (by show b ≠ w.heap.size; omega))) (by omega)
                · exact putC_below ((HB.out.trans (HB4.out.mono HB.out.size)).setCell (p := ⟨w.heap.size, 2, none⟩) (Nat.le_refl _) _) (by omega) _ _ _ _ _
            · have HSB := Lib.hid (show w.heap.size + 3 ≤ u1.heap.size from by have h1 := (Array.getElem?_eq_some_iff.1 HQC.out).1; have h2 := HU.out.size; omega)
              have HOW := Lib.hid (by have := ownr_below H2.out HU.out; rw [HLN.out] at this; exact this)
              have hb3 : (j : Int) ≤ (is.length : Int) := by omega
              have hb5 : j ≤ is.length := hjl
              have HONE := Lib.hid (flatI_one l' (fun z hz u hu => by
                obtain ⟨pz, cz, hzz, -⟩ := (H3.out z hz).form
                simp only [IV.cells, List.mem_cons, List.not_mem_nil, or_false, hzz] at hu
                rcases hu with rfl | rfl | rfl | rfl | rfl | rfl <;> rfl))
              have hcj : ¬ (cI = j) := by omega
              have hb6 : j ≤ cI := by omega
              have hb4 : (j : Int) ≤ (cI : Int) := by omega
              have HS1 := Lib.hid (fun (W : World) (hb : Below u1.heap.size u1 W) => (show SrcAt W 6 (.slice (some ⟨g, 0, none⟩) j cI) j ((flatI l').take (j * 6)) from by
                have := row_piece (o := 0) (m := j) (c := cI) (ownr_below HOW.out hb) HONE.out 0 j (Or.inr rfl) (by omega)
                rwa [Nat.zero_mul, List.drop_zero] at this))
              have HS2 := Lib.hid (fun (W : World) (hb : Below u1.heap.size u1 W) => (show SrcAt W 6 (.slice (some ⟨g, j * 6, none⟩) (is.length - j) (cI - j)) (is.length - j) ((flatI l').drop (j * 6)) from by
                have := row_piece (o := j * 6) (m := is.length - j) (c := cI - j) (ownr_below HOW.out hb) HONE.out j j (Or.inr rfl) (by omega)
                rwa [List.take_of_length_le (by have := HOW.out.1; rw [List.length_drop]; omega)] at this))
              clear hcI hltA hncA
              have HKP := Lib.hid (show ∀ W : World, Below u1.heap.size u1 W → (fun W => W.cell? ⟨w.heap.size, 2, none⟩ = some (.slice (some ⟨g, 0, none⟩) is.length cI) ∧ (W.cell? ⟨w.heap.size + 1, 0, none⟩ = some (.string path) ∧ W.cell? ⟨w.heap.size + 1, 1, none⟩ = some (.string item) ∧ W.cell? ⟨w.heap.size + 1, 2, none⟩ = some (.int .i64 st) ∧ W.cell? ⟨w.heap.size + 1, 3, none⟩ = some (.int .i64 bf) ∧ W.cell? ⟨w.heap.size + 1, 4, none⟩ = some (.slice pL ls.length cL) ∧ W.cell? ⟨w.heap.size + 1, 5, none⟩ = some (.int .i64 due)) ∧ Below u1.heap.size u1 W) W from fun W hb => by
                have hb' := HU.out.trans (hb.mono HU.out.size)
                obtain ⟨d0, d1, d2, d3, d4, dz⟩ := HCC.out W hb'
                obtain ⟨f0, f1, f2, f3, f4, f5, fz⟩ := HCI.out W hb'
                exact ⟨d2, ⟨f0, f1, f2, f3, f4, f5⟩, hb⟩)
              go_wp2_with fail
              refine wp_region_cut (S := (fun W => W.cell? ⟨w.heap.size, 2, none⟩ = some (.slice (some ⟨g, 0, none⟩) is.length cI) ∧ (W.cell? ⟨w.heap.size + 1, 0, none⟩ = some (.string path) ∧ W.cell? ⟨w.heap.size + 1, 1, none⟩ = some (.string item) ∧ W.cell? ⟨w.heap.size + 1, 2, none⟩ = some (.int .i64 st) ∧ W.cell? ⟨w.heap.size + 1, 3, none⟩ = some (.int .i64 bf) ∧ W.cell? ⟨w.heap.size + 1, 4, none⟩ = some (.slice pL ls.length cL) ∧ W.cell? ⟨w.heap.size + 1, 5, none⟩ = some (.int .i64 due)) ∧ Below u1.heap.size u1 W)) 15 (by kernel_rfl) (by kernel_rfl) ?_ (fun hHeld => ?_)
              · (try dsimp only)
                (first
                  | exact HKP.out _ ((Below.refl _ _).drew)
                  | exact HKP.out _ (((Below.refl _ u1).alloc (Nat.le_refl _) _).drew)
                  | exact HKP.out _ ((((Below.refl _ u1).alloc (Nat.le_refl _) _).alloc (by simp) _).drew)
                  | exact HKP.out _ (hB2.alloc hB2.size _)
                  | (refine HKP.out _ ?_; assumption))
              simp only [List.take_succ_cons, List.take_zero]
              (try dsimp only at hHeld)
              all_goals (refine wpAnyH_take (i := 1) (v := ?_) rfl (by decide +kernel) (by decide +kernel) (by decide +kernel) (fun _ _ _ h => h) (Or.inl ⟨by rfl, ?_⟩) (by assumption) ?_; rotate_left 1; (focus (intro w hSw; (try dsimp only at hSw); (try simp only [List.getElem_toArray, List.getElem_cons_succ, List.getElem_cons_zero]); first | (go_simp; done) | (go_simp; with_reducible rfl))); (try simp only [Act.put, List.getElem_toArray, List.getElem_cons_succ, List.getElem_cons_zero, List.setIfInBounds_toArray, List.set_cons_zero, List.set_cons_succ]))
              all_goals (refine wpAnyH_take (i := 2) (v := ?_) rfl (by decide +kernel) (by decide +kernel) (by decide +kernel) (fun _ _ _ h => h) (Or.inl ⟨by rfl, ?_⟩) (by assumption) ?_; rotate_left 1; (focus (intro w hSw; (try dsimp only at hSw); (try simp only [List.getElem_toArray, List.getElem_cons_succ, List.getElem_cons_zero]); first | (go_simp; done) | (go_simp; with_reducible rfl))); (try simp only [Act.put, List.getElem_toArray, List.getElem_cons_succ, List.getElem_cons_zero, List.setIfInBounds_toArray, List.set_cons_zero, List.set_cons_succ]))
              all_goals (refine wpAnyH_take (i := 3) (v := ?_) rfl (by decide +kernel) (by decide +kernel) (by decide +kernel) (fun _ _ _ h => h) (Or.inl ⟨by rfl, ?_⟩) (by assumption) ?_; rotate_left 1; (focus (intro w hSw; (try dsimp only at hSw); (try simp only [List.getElem_toArray, List.getElem_cons_succ, List.getElem_cons_zero]); first | (go_simp; done) | (go_simp; with_reducible rfl))); (try simp only [Act.put, List.getElem_toArray, List.getElem_cons_succ, List.getElem_cons_zero, List.setIfInBounds_toArray, List.set_cons_zero, List.set_cons_succ]))
              all_goals (refine wpAnyH_take (i := 4) (v := ?_) rfl (by decide +kernel) (by decide +kernel) (by decide +kernel) (fun _ _ _ h => h) (Or.inl ⟨by rfl, ?_⟩) (by assumption) ?_; rotate_left 1; (focus (intro w hSw; (try dsimp only at hSw); (try simp only [List.getElem_toArray, List.getElem_cons_succ, List.getElem_cons_zero]); first | (go_simp; done) | (go_simp; with_reducible rfl))); (try simp only [Act.put, List.getElem_toArray, List.getElem_cons_succ, List.getElem_cons_zero, List.setIfInBounds_toArray, List.set_cons_zero, List.set_cons_succ]))
              all_goals (refine wpAnyH_take (i := 6) (v := ?_) rfl (by decide +kernel) (by decide +kernel) (by decide +kernel) (fun _ _ _ h => h) (Or.inl ⟨by rfl, ?_⟩) (by assumption) ?_; rotate_left 1; (focus (intro w hSw; (try dsimp only at hSw); (try simp only [List.getElem_toArray, List.getElem_cons_succ, List.getElem_cons_zero]); first | (go_simp; done) | (go_simp; with_reducible rfl))); (try simp only [Act.put, List.getElem_toArray, List.getElem_cons_succ, List.getElem_cons_zero, List.setIfInBounds_toArray, List.set_cons_zero, List.set_cons_succ]))
              all_goals (refine wpAnyH_take (i := 9) (v := ?_) rfl (by decide +kernel) (by decide +kernel) (by decide +kernel) (fun _ _ _ h => h) (Or.inl ⟨by rfl, ?_⟩) (by assumption) ?_; rotate_left 1; (focus (intro w hSw; (try dsimp only at hSw); (try simp only [List.getElem_toArray, List.getElem_cons_succ, List.getElem_cons_zero]); first | (go_simp; done) | (go_simp; with_reducible rfl))); (try simp only [Act.put, List.getElem_toArray, List.getElem_cons_succ, List.getElem_cons_zero, List.setIfInBounds_toArray, List.set_cons_zero, List.set_cons_succ]))
              all_goals (refine wpAnyH_take (i := 10) (v := ?_) rfl (by decide +kernel) (by decide +kernel) (by decide +kernel) (fun _ _ _ h => h) (Or.inl ⟨by rfl, ?_⟩) (by assumption) ?_; rotate_left 1; (focus (intro w hSw; (try dsimp only at hSw); (try simp only [List.getElem_toArray, List.getElem_cons_succ, List.getElem_cons_zero]); first | (go_simp; done) | (go_simp; with_reducible rfl))); (try simp only [Act.put, List.getElem_toArray, List.getElem_cons_succ, List.getElem_cons_zero, List.setIfInBounds_toArray, List.set_cons_zero, List.set_cons_succ]))
              all_goals (refine wpAnyH_take (i := 11) (v := ?_) rfl (by decide +kernel) (by decide +kernel) (by decide +kernel) (fun _ _ _ h => h) (Or.inl ⟨by rfl, ?_⟩) (by assumption) ?_; rotate_left 1; (focus (intro w hSw; (try dsimp only at hSw); (try simp only [List.getElem_toArray, List.getElem_cons_succ, List.getElem_cons_zero]); first | (go_simp; done) | (go_simp; with_reducible rfl))); (try simp only [Act.put, List.getElem_toArray, List.getElem_cons_succ, List.getElem_cons_zero, List.setIfInBounds_toArray, List.set_cons_zero, List.set_cons_succ]))
              all_goals (refine wpAnyH_take (i := 12) (v := ?_) rfl (by decide +kernel) (by decide +kernel) (by decide +kernel) (fun _ _ _ h => h) (Or.inl ⟨by rfl, ?_⟩) (by assumption) ?_; rotate_left 1; (focus (intro w hSw; (try dsimp only at hSw); (try simp only [List.getElem_toArray, List.getElem_cons_succ, List.getElem_cons_zero]); first | (go_simp; done) | (go_simp; with_reducible rfl))); (try simp only [Act.put, List.getElem_toArray, List.getElem_cons_succ, List.getElem_cons_zero, List.setIfInBounds_toArray, List.set_cons_zero, List.set_cons_succ]))
              iterate 5 (all_goals (
                (first
                  | (refine wpAnyH_ready (rs := [0, 7]) (by decide +kernel) (by simp) ?_; refine (AllReadyH.cons rfl (fun Kx hKx => ?_) (AllReadyH.cons rfl (fun Kx hKx => ?_) AllReadyH.nil)))
                  | (refine wpAnyH_ready (rs := [5, 7]) (by decide +kernel) (by simp) ?_; refine (AllReadyH.cons rfl (fun Kx hKx => ?_) (AllReadyH.cons rfl (fun Kx hKx => ?_) AllReadyH.nil)))
                  | (refine wpAnyH_ready (rs := [0]) (by decide +kernel) (by simp) ?_; refine (AllReadyH.cons rfl (fun Kx hKx => ?_) AllReadyH.nil))
                  | (refine wpAnyH_ready (rs := [7]) (by decide +kernel) (by simp) ?_; refine (AllReadyH.cons rfl (fun Kx hKx => ?_) AllReadyH.nil))
                  | (refine wpAnyH_ready (rs := [5]) (by decide +kernel) (by simp) ?_; refine (AllReadyH.cons rfl (fun Kx hKx => ?_) AllReadyH.nil))
                  | (refine wpAnyH_ready (rs := [8]) (by decide +kernel) (by simp) ?_; refine (AllReadyH.cons rfl (fun Kx hKx => ?_) AllReadyH.nil))
                  | (refine wpAnyH_ready (rs := [13]) (by decide +kernel) (by simp) ?_; refine (AllReadyH.cons rfl (fun Kx hKx => ?_) AllReadyH.nil)))
                all_goals (
                  first
                    | (first
                    | (go_split_ands
                       refine step_append_Q (by rfl) (Operand.tmp 52) (Operand.tmp 56) (by rfl) u1 (.slice (some ⟨u1.heap.size, 0, none⟩) 0 0) 0 [] (by rfl) _ j ((flatI l').take (j * 6)) (by rfl) (by assumption) ?_ ?_ (by omega) ?_
                       · first | exact own_empty (show (u1.alloc (.cells #[] 30)).heap[u1.heap.size]? = some (.cells #[] 30 (0, 0)) from heap_alloc_new u1 _) (Nat.le_refl _) | exact own_empty (show ((u1.alloc (.cells #[] 30)).alloc (.cells #[.string path, .string item, .int .i64 st, .int .i64 bf, .slice pL ls.length cL, .int .i64 due] 30)).heap[u1.heap.size]? = some (.cells #[] 30 (0, 0)) from two_old u1 _ _) (Nat.le_refl _) | exact own_empty (show ((u1.alloc (.cells #[.string path, .string item, .int .i64 st, .int .i64 bf, .slice pL ls.length cL, .int .i64 due] 30)).alloc (.cells #[] 30)).heap[u1.heap.size + 1]? = some (.cells #[] 30 (0, 0)) from two_new u1 _ _) (Nat.le_succ _)
                       · intro hB1; first | exact HS1.out _ hB1 | exact HS1.out _ hB1 _
                       intro v2 w2 hown2 hgrow2 hB2)
                    | (go_split_ands
                       refine step_append_Q (by rfl) (Operand.tmp 52) (Operand.tmp 56) (by rfl) u1 (.slice (some ⟨u1.heap.size + 1, 0, none⟩) 0 0) 0 [] (by rfl) _ j ((flatI l').take (j * 6)) (by rfl) (by assumption) ?_ ?_ (by omega) ?_
                       · first | exact own_empty (show (u1.alloc (.cells #[] 30)).heap[u1.heap.size]? = some (.cells #[] 30 (0, 0)) from heap_alloc_new u1 _) (Nat.le_refl _) | exact own_empty (show ((u1.alloc (.cells #[] 30)).alloc (.cells #[.string path, .string item, .int .i64 st, .int .i64 bf, .slice pL ls.length cL, .int .i64 due] 30)).heap[u1.heap.size]? = some (.cells #[] 30 (0, 0)) from two_old u1 _ _) (Nat.le_refl _) | exact own_empty (show ((u1.alloc (.cells #[.string path, .string item, .int .i64 st, .int .i64 bf, .slice pL ls.length cL, .int .i64 due] 30)).alloc (.cells #[] 30)).heap[u1.heap.size + 1]? = some (.cells #[] 30 (0, 0)) from two_new u1 _ _) (Nat.le_succ _)
                       · intro hB1; first | exact HS1.out _ hB1 | exact HS1.out _ hB1 _
                       intro v2 w2 hown2 hgrow2 hB2)
                    | (go_split_ands
                       refine step_append_Q (by rfl) (Operand.tmp 57) (Operand.tmp 59) (by rfl) u1 v2 (0 + j) ([] ++ (flatI l').take (j * 6)) (by rfl) (.slice (some ⟨w2.heap.size, 0, none⟩) 1 1) 1 [.string path, .string item, .int .i64 st, .int .i64 bf, .slice pL ls.length cL, .int .i64 due] (by rfl) (by assumption) ?_ ?_ (by omega) ?_
                       · exact ownr_below hown2 ((Below.refl _ _).alloc (Nat.le_refl _) _)
                       · intro hB1; exact src_one6 (heap_alloc_new w2 _) (by simp [Value.oneCell'])
                       intro v3 w3 hown3 hgrow3 hB3)
                    | (go_split_ands
                       refine step_append_Q (by rfl) (Operand.tmp 57) (Operand.tmp 59) (by rfl) u1 v2 (0 + j) ([] ++ (flatI l').take (j * 6)) (by rfl) (.slice (some ⟨u1.heap.size + 1, 0, none⟩) 1 1) 1 [.string path, .string item, .int .i64 st, .int .i64 bf, .slice pL ls.length cL, .int .i64 due] (by rfl) (by assumption) ?_ ?_ (by omega) ?_
                       · exact hown2
                       · intro hB1; exact src_one6 ((hgrow2.block (u1.heap.size + 1) (by simp) (by simp [Value.ownBlock])).trans (show ((u1.alloc (.cells #[] 30)).alloc (.cells #[.string path, .string item, .int .i64 st, .int .i64 bf, .slice pL ls.length cL, .int .i64 due] 30)).heap[u1.heap.size + 1]? = some (.cells #[.string path, .string item, .int .i64 st, .int .i64 bf, .slice pL ls.length cL, .int .i64 due] 30 (0, 0)) from two_new u1 _ _)) (by simp [Value.oneCell'])
                       intro v3 w3 hown3 hgrow3 hB3)
                    | (go_split_ands
                       refine step_append_Q (by rfl) (Operand.tmp 57) (Operand.tmp 59) (by rfl) u1 v2 (0 + j) ([] ++ (flatI l').take (j * 6)) (by rfl) (.slice (some ⟨u1.heap.size, 0, none⟩) 1 1) 1 [.string path, .string item, .int .i64 st, .int .i64 bf, .slice pL ls.length cL, .int .i64 due] (by rfl) (by assumption) ?_ ?_ (by omega) ?_
                       · exact hown2
                       · intro hB1; exact src_one6 ((hgrow2.block u1.heap.size (by simp; omega) (by simp [Value.ownBlock])).trans (show ((u1.alloc (.cells #[.string path, .string item, .int .i64 st, .int .i64 bf, .slice pL ls.length cL, .int .i64 due] 30)).alloc (.cells #[] 30)).heap[u1.heap.size]? = some (.cells #[.string path, .string item, .int .i64 st, .int .i64 bf, .slice pL ls.length cL, .int .i64 due] 30 (0, 0)) from two_old u1 _ _)) (by simp [Value.oneCell'])
                       intro v3 w3 hown3 hgrow3 hB3)
                    | (go_split_ands
                       refine step_append_Q (by rfl) (Operand.tmp 60) (Operand.tmp 64) (by rfl) u1 v3 (0 + j + 1) ([] ++ (flatI l').take (j * 6) ++ [.string path, .string item, .int .i64 st, .int .i64 bf, .slice pL ls.length cL, .int .i64 due]) (by rfl) _ (is.length - j) ((flatI l').drop (j * 6)) (by rfl) (by assumption) ?_ ?_ (by omega) ?_
                       · exact hown3
                       · intro hB1; first | exact HS2.out _ hB1 | exact HS2.out _ hB1 _
                       intro v4 w4 hown4 hgrow4 hB4)
                    | fail "no arm")
                    | ((try simp only [List.getElem_toArray, List.getElem_cons_succ, List.getElem_cons_zero]); go_simp)
                  refine hKx.out _ _ ?_ (fun hHeld => ?_)
                  · (try dsimp only)
                    (first
                      | exact HKP.out _ ((Below.refl _ _).drew)
                      | exact HKP.out _ (((Below.refl _ u1).alloc (Nat.le_refl _) _).drew)
                      | exact HKP.out _ ((((Below.refl _ u1).alloc (Nat.le_refl _) _).alloc (by simp) _).drew)
                      | exact HKP.out _ (hB2.alloc hB2.size _)
                      | (refine HKP.out _ ?_; assumption))
                  (try dsimp only at hHeld)
                  clear hKx Kx
                  (try simp only [Act.put, List.getElem_toArray, List.getElem_cons_succ, List.getElem_cons_zero, List.setIfInBounds_toArray, List.set_cons_zero, List.set_cons_succ])
                  repeat (first
                     | (refine wpAnyH_take (i := 14) (v := ?_) rfl (by decide +kernel) (by decide +kernel) (by decide +kernel) (fun _ _ _ h => h) (Or.inl ⟨by rfl, ?_⟩) (by assumption) ?_; rotate_left 1; (focus (intro w hSw; (try dsimp only at hSw); (try simp only [List.getElem_toArray, List.getElem_cons_succ, List.getElem_cons_zero]); first | (go_simp; done) | (go_simp; with_reducible rfl))); (try simp only [Act.put, List.getElem_toArray, List.getElem_cons_succ, List.getElem_cons_zero, List.setIfInBounds_toArray, List.set_cons_zero, List.set_cons_succ]))
                     | fail "nothing to take"))))
              all_goals refine wpAnyH_done (by decide +kernel) ?_ _
              all_goals simp only [cutPost, List.drop_succ_cons, List.drop_zero]
              all_goals
                have HB4 := Lib.hid (HU.out.trans (hB4.mono HU.out.size))
                have hown5 : w4.ownsRow (w.heap.size + 3) 30 6 v4 (l'.length + 1) ((flatI l').take (j * 6) ++ [.string path, .string item, .int .i64 st, .int .i64 bf, .slice pL ls.length cL, .int .i64 due] ++ (flatI l').drop (j * 6)) := by
                  have := ownr_up hown4 HSB.out
                  rw [show 0 + j + 1 + (is.length - j) = l'.length + 1 by have := HLN.out; omega, List.nil_append] at this
                  exact this
                obtain ⟨p4, c4', hv4, -⟩ := (OwnS.ofRow hown5).form
                rw [HLN.out] at hv4
                subst hv4
                have HO5 := Lib.hid hown5
                clear hown4 hown5 hown3 hown2 hgrow2 hgrow3 hgrow4 hB2 hB3 hB4 hHeld HKP
                obtain ⟨d0, d1, d2, d3, d4, dz⟩ := HCC.out w4 HB4.out
                obtain ⟨e0, e1, e2, e3, e4, ez⟩ := HCZ.out w4 HB4.out
                go_wp2_with fail
                refine bodyPost_ret (results_cell_row Try.results23 _ _ (w.heap.size + 2) 25 _ (0, 0) _ rfl (putC_at ((Below.heap_setCell w4 ⟨w.heap.size, 2, none⟩ _ (w.heap.size + 2) (by show w.heap.size + 2 ≠ w.heap.size; omega)).trans ((HB4.out.block (w.heap.size + 2) (Array.getElem?_eq_some_iff.1 HQC.out).1).trans HQC.out)) _ _ _ _ _) Try.underlying25 rfl infoC5) rfl ?_
                refine ⟨_, _, rfl, ?_, ?_, ?_⟩
                · rw [HPF.out]
                  have hI := InstsOwn.mk3 (y := ⟨path, item, st, bf, .slice pl (icells ls).length cp, ls, due⟩) (x := ⟨path, item, st, bf, .slice pL ls.length cL, ls, due⟩) (j := j) H1.out (fun z hz => ownS_below (H3.out z hz) HB4.out) (ownS_below HLO.out HB4.out) rfl (by have := HLN.out; omega) HO5.out
                  refine InstsOwn.up (b' := w.heap.size) (base := w.heap.size + 3) (hI.kept fun b hb _ => (putC_far _ (w.heap.size + 2) b (by omega) _ _ _ _ _).trans (Below.heap_setCell w4 ⟨w.heap.size, 2, none⟩ _ b (by show b ≠ w.heap.size; omega))) (by omega)
                · refine DocsOwn.up (b' := w.heap.size) (base := w.heap.size + 3) ((HDO.out.below HB4.out).kept fun b hb _ => (putC_far _ (w.heap.size + 2) b (by omega) _ _ _ _ _).trans (Below.heap_setCell w4 ⟨w.heap.size, 2, none⟩ _ b (by show b ≠ w.heap.size; omega))) (by omega)
                · exact putC_below ((HB.out.trans (HB4.out.mono HB.out.size)).setCell (p := ⟨w.heap.size, 2, none⟩) (Nat.le_refl _) _) (by omega) _ _ _ _ _
end Go.Proofs.Ytncloiimbclklaa
