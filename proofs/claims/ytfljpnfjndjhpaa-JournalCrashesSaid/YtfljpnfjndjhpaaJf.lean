/- journal: frame. -/
import Derived.Test.YtfljpnfjndjhpaaJh
import Derived.Test.YtfljpnfjndjhpaaVa
namespace Go.Proofs.Ytfljpnfjndjhpaa
open Go.RowKit
set_option linter.unusedVariables false

/-- append(v, src..) onto a slice without room behind it, of a block of whatever type. -/
theorem run_append_full {P : Program} (w : World) (t tx ty e T : TypeId) (i : TypeInfo) (z : Value) (bytes : Nat) (ht : P.underlying t = some (.slice e)) (hi : P.info? e = some i) (hz : i.zero = some z)
    (hsize : i.size = 1) (hby : i.bytes = bytes) (hzs : z.cells.size = 1)
    (g n : Nat) (cur : Array Value) (hg : w.heap[g]? = some (.cells cur T (0, 0))) (hc : cur.size = n) (x : Value) (m : Nat) (news : List Value) (hs : Src P 1 tx x m news w)
    (h63 : n + m ≤ maxLen) (hbytes : (n + m) * bytes ≤ 140737488355328) :
    ∃ gg cap cur' T' w', (Builtin.append_ #[t, tx] ty #[.slice (some ⟨g, 0, none⟩) n n, x]).run P w = .ok (.slice (some ⟨gg, 0, none⟩) (n + m) cap) w' ∧ w'.heap[gg]? = some (.cells cur' T' (0, 0)) ∧ n + m ≤ cap ∧ cap ≤ maxLen ∧
      cur'.toList.take (n + m) = cur.toList ++ news ∧ Below g w w' ∧ g ≤ gg := by
  subst hby
  have hgl : g < w.heap.size := (Array.getElem?_eq_some_iff.1 hg).1
  have hsmall : n + m ≤ 9223372036854775807 := by simp only [maxLen] at h63; omega
  have hnl : news.length = m := by have := hs.newsLen; omega
  by_cases hm : m = 0
  · subst hm
    have hn : news = [] := List.eq_nil_of_length_eq_zero hnl
    subst hn
    have hcells := hs.cells
    have hlx := hs.len
    have hr : (Builtin.append_ #[t, tx] ty #[.slice (some ⟨g, 0, none⟩) n n, x]).run P w = .ok (.slice (some ⟨g, 0, none⟩) (n + 0) n) w := by
      rcases hs.kind with ⟨e', hk⟩ | hk <;> simp [Builtin.append_, run_underlying ht, run_underlying hk, sizeOf, typeInfo, hi, hsize, hlx, hcells, Addr.add_lit, storeCells]
    refine ⟨g, n, cur, T, _, hr, hg, by omega, by omega, ?_, Below.refl _ _, Nat.le_refl _⟩
    have : cur.toList.length = n := by simp [hc]
    simp [List.take_of_length_le, this]
  · have holds : ∀ j u, cur.toList[j]? = some u → w.cell? ((⟨g, 0, none⟩ : Addr).add j) = some u := by
      intro j u hu
      simp only [Addr.add_lit, Nat.zero_add, World.cell?, hg]
      simpa using hu
    have hr := run_append_grow_src (P := P) w t tx ty e i z ht hi hz (some ⟨g, 0, none⟩) n n cur.toList (run_firstCells_some w.drew i.size n ⟨g, 0, none⟩ n n cur.toList (by simp [hsize, hc]) (by simpa using holds)) x m news (by rw [hsize]; exact hs) (by omega) (by omega) (growslice_fits (by omega) hbytes)
    have hge := grownCap_ge w (n + m) n e
    have hcm : grownCap w (n + m) n e ≤ maxLen := grownCap_le_maxLen w (n + m) n e h63
    refine ⟨_, _, _, _, _, hr, heap_alloc_new w.drew _, hge, hcm, ?_, ((Below.refl _ _).drew).alloc (by simp; omega) _, by omega⟩
    have hlen : (cur.toList ++ news).length = n + m := by simp [hc, hnl]
    simp only [Array.toList_append]
    rw [← hlen]
    exact List.take_left

theorem wpList_append_full {P : Program} {ops : Array Oper} {rest : List Oper} {o : Oper} {a : Act} {w : World} {Q : Exit → Act → World → Prop} (hgd : o.guard = none) (s x : Operand) (t tx : TypeId)
    (ho : o.op = .call { callee := .builtin .append, args := #[s, x], argTypes := #[t, tx] })
    (e T : TypeId) (i : TypeInfo) (z : Value) (bytes : Nat) (ht : P.underlying t = some (.slice e)) (hi : P.info? e = some i) (hz : i.zero = some z)
    (hsize : i.size = 1) (hby : i.bytes = bytes) (hzs : z.cells.size = 1)
    (g n : Nat) (cur : Array Value) (hs : a.eval s = .slice (some ⟨g, 0, none⟩) n n) (hg : w.heap[g]? = some (.cells cur T (0, 0))) (hc : cur.size = n) (xv : Value) (m : Nat) (news : List Value) (hx : a.eval x = xv) (hsrc : Src P 1 tx xv m news w)
    (h63 : n + m ≤ maxLen) (hbytes : (n + m) * bytes ≤ 140737488355328)
    (h : ∀ gg cap cur' T' w', w'.heap[gg]? = some (.cells cur' T' (0, 0)) → n + m ≤ cap → cap ≤ maxLen → cur'.toList.take (n + m) = cur.toList ++ news → Below g w w' → g ≤ gg → wpList P ops Q rest (a.put o.dst (.slice (some ⟨gg, 0, none⟩) (n + m) cap)) w') : wpList P ops Q (o :: rest) a w := by
  refine wpList_plain hgd fun K hK => ?_
  obtain ⟨gg, cap, cur', T', w', hr, h2, h3, h4, h5, h6, h7⟩ := run_append_full (P := P) w t tx o.type e T i z bytes ht hi hz hsize hby hzs g n cur hg hc xv m news hsrc h63 hbytes
  unfold Oper.wp execOp
  simp only [ho, resolve, invoke, builtin, Sem.run_bind, Sem.run_pure, Result.andThen_ok, List.map_toArray, List.map_cons, List.map_nil, hs, hx, hr]
  exact hK _ _ (h gg cap cur' T' w' h2 h3 h4 h5 h6 h7)

theorem rd_take {w : World} {g n cap : Nat} {cur : Array Value} {T : TypeId} {xs : List UInt8} (h : w.heap[g]? = some (.cells cur T (0, 0))) (hn : xs.length = n) (hc : n ≤ cap) (hm : cap ≤ maxLen) (ht : cur.toList.take n = bcells xs) : Rd w (.slice (some ⟨g, 0, none⟩) n cap) xs := by
  subst hn
  refine ⟨_, cap, rfl, hc, hm, by simp, fun _ => ⟨g, 0, rfl, fun i hi => ?_⟩⟩
  have : (cur.toList.take xs.length)[i]? = (bcells xs)[i]? := by rw [ht]
  rw [List.getElem?_take_of_lt hi] at this
  simp only [World.cell?, h, Nat.zero_add]
  simp only [Array.getElem?_toList] at this
  rw [this]
  simp [bcells, hi]

set_option maxRecDepth 100000 in
set_option maxHeartbeats 4000000 in
theorem frame_c (w : World) (v : Value) (b : List UInt8) (h : Rd w v b) (hl : b.length ≤ 4294967295) :
    Calls Try.prog 22 #[v] w fun e w' => ∃ r, e = .returned r ∧ Rd w' r (frameB b) ∧ Below w.heap.size w w' ∧ ∀ g, r.ownBlock = some g → w.heap.size ≤ g := by
  have HR := Lib.hid h
  obtain ⟨p, c, rfl, h1, h2, _⟩ := h
  obtain ⟨i0, hi, hz0, hz1, hz2⟩ := info_parts infoU8
  have hs8 := hk_size b.length (crcOf b) 4
  have HH : ∃ H, H = hk b.length (crcOf b) 4 := ⟨_, rfl⟩
  obtain ⟨H, hH⟩ := HH
  have hs8 : H.size = 8 := by rw [hH]; exact hk_size _ _ _
  have h18 : ∀ v ∈ H.toList, v.oneCell' = true := by rw [hH]; simp [hk, hcell, Value.oneCell']
  have hHL : H.toList = bcells (headB b) := by rw [hH]; exact headB_cells b
  have HH := Lib.hid hH
  have HP := Lib.hid (And.intro hs8 (And.intro h18 hHL))
  clear hH hs8 h18 hHL
  unfold maxLen at h2
  have hst : ∀ W : World, Sem.run Try.prog (storeCells ⟨W.heap.size, 0, none⟩ H.toList) (W.alloc (.cells #[.int .u8 0, .int .u8 0, .int .u8 0, .int .u8 0, .int .u8 0, .int .u8 0, .int .u8 0, .int .u8 0] 71 (0, 0))) = .ok () ((W.alloc (.cells #[.int .u8 0, .int .u8 0, .int .u8 0, .int .u8 0, .int .u8 0, .int .u8 0, .int .u8 0, .int .u8 0] 71 (0, 0))).setRow W.heap.size H) := by
    intro W
    have := run_storeCells_from (P := Try.prog) W.heap.size 71 H.toList 0 _ _ (heap_alloc_new W (.cells #[.int .u8 0, .int .u8 0, .int .u8 0, .int .u8 0, .int .u8 0, .int .u8 0, .int .u8 0, .int .u8 0] 71 (0, 0))) (by simp [HP.out.1]) HP.out.2.1
    simpa using this
  have hs8 := HP.out.1
  go_enter Try.func22, Try.ntmps22
  go_wp2_with (first
    | (go_at_call 40; refine (headerOf_c _ _ b HR.out hl).mono ?_; rintro e w1 ⟨rfl, hb1⟩; unfold headV; rw [← HH.out]; have HB1 := Lib.hid hb1; clear hb1)
    | (at_builtin; go_must (refine wpList_append_full rfl _ _ 23 23 rfl 5 71 i0 (.int .u8 0) 1 Try.underlying23 hi hz0 hz1 hz2 rfl w1.heap.size 8 H rfl (setRow_heap _ _ _ _ _ _ (heap_alloc_new w1 _)) HP.out.1 _ b.length (bcells b) rfl (Rd.src Try.underlying23 (HR.out.below ((HB1.out.alloc HB1.out.size _).trans (below_setRow (Below.refl _ _) HB1.out.size _)))) (by unfold maxLen; omega) (by omega) ?_); intro gg cap cur' T' w3 k1 k2 k3 k4 k5 k6))
  refine bodyPost_ret (v := .slice (some ⟨gg, 0, none⟩) (8 + b.length) cap) (by simp [results, Try.results22, go_sem]) rfl ⟨_, rfl, ?_, ?_, ?_⟩
  · refine rd_take k1 ?_ k2 k3 ?_
    · simp [frameB, headB, be4]; omega
    · rw [k4, HP.out.2.2, frameB, bcells_append]
  · exact ((HB1.out.alloc HB1.out.size _).trans ((below_setRow (Below.refl _ _) HB1.out.size _).trans (k5.mono HB1.out.size)))
  · rintro g hg
    simp only [Value.ownBlock, Option.some.injEq] at hg
    have := HB1.out.size
    omega
end Go.Proofs.Ytfljpnfjndjhpaa
