/- slices.Insert of one element of six cells: the mathematics, the copies. -/
import Derived.Test.YtncloiimbclklaaZg
import Derived.Lib.AppendZerosOnto
import Derived.Lib.Overlaps
import Derived.Laws.CopyRow
import Derived.Laws.Externs
import Derived.Shelf.RegionOpenPlain
import Derived.Test.YtncloiimbclklaaVq
namespace Go.Proofs.Ytncloiimbclklaa
open Go Go.RowKit Go.Shelf
set_option linter.unusedVariables false
set_option linter.unusedSimpArgs false

theorem run_copy_rowS {P : Program} (w : World) (dT sT ty elem : TypeId) (size g o dLen dCap : Nat) (a : Addr) (sLen sCap : Nat) (cur : Array Value) (t : TypeId) (cs : List Value) (n : Nat)
    (hu : P.underlying dT = some (.slice elem)) (hs : (P.info? elem).map (·.size) = some size)
    (hg : w.heap[g]? = some (.cells cur t (0, 0))) (hn : Nat.min sLen dLen = n) (hl : cs.length = n * size)
    (hsrc : ∀ j v, cs[j]? = some v → w.cell? (a.add j) = some v) (hfit : o + cs.length ≤ cur.size) (h1 : ∀ v ∈ cs, v.oneCell' = true) :
    (Builtin.copy_ #[dT, sT] ty #[.slice (some ⟨g, o, none⟩) dLen dCap, .slice (some a) sLen sCap]).run P w =
      .ok (goInt n) (w.setRow g (cur.toList.take o ++ cs ++ cur.toList.drop (o + cs.length)).toArray) := by
  have hst := run_storeCells_at P g o t cs 0 cur w hg (by simpa using hfit) h1
  have hf := run_firstCells_some (P := P) w size n a sLen sCap cs hl hsrc
  cases hq : P.info? elem with
  | none => simp [hq] at hs
  | some i =>
    have hi : i.size = size := by simpa [hq] using hs
    simp [Builtin.copy_, run_underlying hu, Builtin.lenOf, sizeOf, typeInfo, hq, hi, hn, hf, hst]

theorem wp_copy_runJ {P : Program} (w : World) {o : Oper} {a : Act} {K : Act → World → Prop} {Q : Exit → Act → World → Prop} (d s : Operand) (t t' : TypeId)
    (ho : o.op = .call { callee := .builtin .copy, args := #[d, s], argTypes := #[t, t'] }) (v u : Value) (hd : a.eval d = v) (hs : a.eval s = u) {v' : Value} {w' : World}
    (hr : (Builtin.copy_ #[t, t'] o.type #[v, u]).run P w = .ok v' w') (h : K (a.put o.dst v') w') : o.wp P a w K Q := by
  unfold Oper.wp execOp
  simp only [ho, resolve, invoke, builtin, Sem.run_bind, Sem.run_pure, Result.andThen_ok, List.map_toArray, List.map_cons, List.map_nil, hd, hs, hr]
  exact h
theorem wpList_copy_runJ {P : Program} (w : World) {ops : Array Oper} {rest : List Oper} {o : Oper} {a : Act} {Q : Exit → Act → World → Prop} (hgd : o.guard = none) (d s : Operand) (t t' : TypeId)
    (ho : o.op = .call { callee := .builtin .copy, args := #[d, s], argTypes := #[t, t'] }) (v u : Value) (hd : a.eval d = v) (hs : a.eval s = u) {v' : Value} {w' : World}
    (hr : (Builtin.copy_ #[t, t'] o.type #[v, u]).run P w = .ok v' w') (h : wpList P ops Q rest (a.put o.dst v') w') : wpList P ops Q (o :: rest) a w :=
  wpList_plain hgd fun _ hK => wp_copy_runJ w d s t t' ho v u hd hs hr (hK _ _ h)
theorem step_copy_runJ {P : Program} {ops : Array Oper} {o : Oper} {a : Act} {w : World} {K : Act → World → Prop} {Q : Exit → Act → World → Prop} {E : Prop}
    (hg : o.guard = none) (d x : Operand) (dT sT : TypeId) (hop : o.op = Op.call { callee := Callee.builtin Builtin.copy, args := #[d, x], argTypes := #[dT, sT] })
    (v u : Value) (hd : a.eval d = v) (hx : a.eval x = u) {v' : Value} {w' : World} (hr : (Builtin.copy_ #[dT, sT] o.type #[v, u]).run P w = .ok v' w') (hK : K (a.put o.dst v') w') :
    if Region.wanted o (yielded ops a.tmps) = true then Oper.wp P o a w K Q else E := by
  have hw : Region.wanted o (yielded ops a.tmps) = true := by simp [Region.wanted, hg]
  rw [if_pos hw]
  unfold Oper.wp
  simp [execOp, hop, resolve, invoke, builtin, hd, hx, hr, Result.andThen]
  exact hK

/-- What stood from k on moves on by six places; then the six are laid. -/
theorem ins_shift (cur B ys : List Value) (k : Nat) (h6 : ys.length = 6) (hk : k + 6 ≤ cur.length) :
    (((cur.take (k + 6) ++ B ++ cur.drop (k + 6 + B.length)).take k ++ ys ++ (cur.take (k + 6) ++ B ++ cur.drop (k + 6 + B.length)).drop (k + 6))).take (k + 6 + B.length) = cur.take k ++ ys ++ B := by
  have h1 : (cur.take (k + 6)).length = k + 6 := by rw [List.length_take]; omega
  have h2 : (cur.take (k + 6) ++ B ++ cur.drop (k + 6 + B.length)).take k = cur.take k := by
    rw [List.append_assoc, List.take_append_of_le_length (by omega), List.take_take, Nat.min_eq_left (by omega)]
  have h3 : (cur.take (k + 6) ++ B ++ cur.drop (k + 6 + B.length)).drop (k + 6) = B ++ cur.drop (k + 6 + B.length) := by
    rw [List.append_assoc]
    exact List.drop_left' h1
  rw [h2, h3, ← List.append_assoc]
  exact List.take_left' (by simp [h6]; omega)
/-- The six are laid behind the first k, then what stood from k on. -/
theorem ins_grow (cur A B ys : List Value) (k : Nat) (h6 : ys.length = 6) (hA : cur.take k = A) (hk : A.length = k) :
    (((cur.take k ++ ys ++ cur.drop (k + 6)).take (k + 6) ++ B ++ (cur.take k ++ ys ++ cur.drop (k + 6)).drop (k + 6 + B.length))).take (k + 6 + B.length) = A ++ ys ++ B := by
  have h2 : (cur.take k ++ ys ++ cur.drop (k + 6)).take (k + 6) = A ++ ys := by
    rw [hA]
    exact List.take_left' (by simp [h6, hk])
  rw [h2]
  exact List.take_left' (by simp [h6, hk]; omega)
theorem ins_shift_len (cur B ys : List Value) (k : Nat) (h6 : ys.length = 6) (hk : k + 6 + B.length ≤ cur.length) :
    ((cur.take (k + 6) ++ B ++ cur.drop (k + 6 + B.length)).take k ++ ys ++ (cur.take (k + 6) ++ B ++ cur.drop (k + 6 + B.length)).drop (k + 6)).length = cur.length := by
  simp [h6]; omega

section
variable (w : World) (base n : Nat) (xs : List Value) (vb : Nat) (c0 c1 c2 c3 c4 c5 : Value)

/-- slices.Insert: at the end. -/
theorem insE_c (v : Value) (hown : w.ownsRow base 30 6 v n xs) (hv : w.heap[vb]? = some (.cells #[c0, c1, c2, c3, c4, c5] 30 (0, 0))) (h1 : ∀ u ∈ [c0, c1, c2, c3, c4, c5], u.oneCell' = true) (hn : n ≤ 1000) (hb : base ≤ w.heap.size) :
    Calls Try.prog 48 #[v, .int .i64 n, .slice (some ⟨vb, 0, none⟩) 1 1] w fun e w' => ∃ v', e = .returned v' ∧ w'.ownsRow base 30 6 v' (n + 1) (xs ++ [c0, c1, c2, c3, c4, c5]) ∧ w.grownBy w' v.ownBlock := by
  obtain ⟨i0, hi, hz0, hz1, hz2⟩ := info_parts infoInst
  have hnews : ∀ (j : Nat) u, [c0, c1, c2, c3, c4, c5][j]? = some u → w.cell? ((⟨vb, 0, none⟩ : Addr).add j) = some u := by
    intro j u hu
    rw [Addr.add_lit]
    simp only [World.cell?, hv, Nat.zero_add]
    simpa using hu
  have HO := Lib.hid hown
  have HN := Lib.hid hnews
  have H1 := Lib.hid h1
  have HM := Lib.hid (show n + 1 ≤ maxLen from by unfold maxLen; omega)
  have HM2 := Lib.hid (show (n + 1) * 80 ≤ 140737488355328 from by omega)
  have HI := Lib.hid hi
  have HB := Lib.hid hb
  have hq1 : ¬ ((1 : Int) = 0) := by omega
  rcases hown.2 with ⟨hv0, hn0⟩ | ⟨g, cap, cur, hv0, hbg, hg, hnc, hcm, hcs, htk⟩
  · subst hv0 hn0
    clear hnews hown h1 hv hn hb
    go_enter Try.func48, Try.ntmps48
    go_wp2_with (at_builtin; refine wpList_append_own _ rfl _ _ 22 rfl base 30 i0 (.agg #[.string ⟨#[]⟩, .string ⟨#[]⟩, .int .i64 0, .int .i64 0, .slice none 0 0, .int .i64 0]) 6 80 Try.underlying22 HI.out hz0 hz1 hz2 rfl (by decide) _ _ _ rfl HO.out ⟨vb, 0, none⟩ 1 1 [c0, c1, c2, c3, c4, c5] rfl rfl HN.out H1.out HM.out HM2.out HB.out ?_)
    intro v2 w4 hown4 hgrow _
    have HP := Lib.hid hown4
    have HG := Lib.hid hgrow
    clear hown4 hgrow
    go_wp2_with fail
    go_ret
    exact ⟨_, rfl, HP.out, HG.out⟩
  · subst hv0
    unfold maxLen at hcm
    clear hnews hown h1 hv hn hb hcs htk hg hbg
    have hcn : cap = n ∨ ¬ cap = n := Classical.em _
    rcases hcn with hcn | hcn
    all_goals
      (try subst hcn)
      go_enter Try.func48, Try.ntmps48
      go_wp2_with (at_builtin; refine wpList_append_own _ rfl _ _ 22 rfl base 30 i0 (.agg #[.string ⟨#[]⟩, .string ⟨#[]⟩, .int .i64 0, .int .i64 0, .slice none 0 0, .int .i64 0]) 6 80 Try.underlying22 HI.out hz0 hz1 hz2 rfl (by decide) _ _ _ rfl HO.out ⟨vb, 0, none⟩ 1 1 [c0, c1, c2, c3, c4, c5] rfl rfl HN.out H1.out HM.out HM2.out HB.out ?_)
      intro v2 w4 hown4 hgrow _
      have HP := Lib.hid hown4
      have HG := Lib.hid hgrow
      clear hown4 hgrow
      go_wp2_with fail
      go_ret
      exact ⟨_, rfl, HP.out, HG.out⟩

/-- slices.Insert: ahead of the end, no room. -/
theorem insG_c (g i : Nat) (cur : Array Value) (hin : i < n) (hg : w.heap[g]? = some (.cells cur 30 (0, 0))) (hcs : n * 6 ≤ cur.size) (htk : cur.toList.take (n * 6) = xs) (hone : ∀ u ∈ xs, u.oneCell' = true)
    (hv : w.heap[vb]? = some (.cells #[c0, c1, c2, c3, c4, c5] 30 (0, 0))) (h1 : ∀ u ∈ [c0, c1, c2, c3, c4, c5], u.oneCell' = true) (hn : n ≤ 1000) (hb : base ≤ w.heap.size) :
    Calls Try.prog 48 #[.slice (some ⟨g, 0, none⟩) n n, .int .i64 i, .slice (some ⟨vb, 0, none⟩) 1 1] w fun e w' => ∃ v', e = .returned v' ∧ w'.ownsRow base 30 6 v' (n + 1) (xs.take (i * 6) ++ [c0, c1, c2, c3, c4, c5] ++ xs.drop (i * 6)) ∧ w.grownBy w' none := by
  obtain ⟨i0, hi, hz0, hz1, hz2⟩ := info_parts infoInst
  have hxl : xs.length = n * 6 := by rw [← htk, List.length_take, Array.length_toList]; omega
  have hsz : (Try.prog.info? 30).map (·.size) = some 6 := infoI6
  have hold : (Builtin.firstCells i0.size i (.slice (some ⟨g, 0, none⟩) i n)).run Try.prog w.drew = .ok (xs.take (i * 6)).toArray w.drew := by
    rw [hz1]
    exact run_firstCells_some w.drew 6 i ⟨g, 0, none⟩ i n (xs.take (i * 6)) (by rw [List.length_take]; omega) (fun j v hj => by
      rw [Addr.add_lit, Nat.zero_add, cell_of_row w.drew g j cur 30 (0, 0) hg]
      rw [← htk, List.take_take, List.getElem?_take] at hj
      split at hj
      · simpa using hj
      · cases hj)
  obtain ⟨G, hG⟩ : ∃ G, G = grownCap w (n + 1) n 30 := ⟨_, rfl⟩
  have hGn : n + 1 ≤ G := by rw [hG]; exact grownCap_ge w _ _ _
  have hGm : G ≤ maxLen := by rw [hG]; exact grownCap_le_maxLen w (n + 1) n 30 (by unfold maxLen; omega)
  obtain ⟨ROW, hROW⟩ : ∃ ROW : Array Value, ROW = (xs.take (i * 6)).toArray ++ Builtin.zeroCells (Value.agg #[.string ⟨#[]⟩, .string ⟨#[]⟩, .int .i64 0, .int .i64 0, .slice none 0 0, .int .i64 0]).cells (n + 1 - i) ++ Builtin.zeroCells (Value.agg #[.string ⟨#[]⟩, .string ⟨#[]⟩, .int .i64 0, .int .i64 0, .slice none 0 0, .int .i64 0]).cells (G - (n + 1)) := ⟨_, rfl⟩
  have hrz : ∀ ty, (Builtin.append_ #[22, 3] ty #[.slice (some ⟨g, 0, none⟩) i n, .int .i64 ((n : Int) + 1 - (i : Int))]).run Try.prog w =
      .ok (.slice (some ⟨w.heap.size, 0, none⟩) (n + 1) G) (w.drew.alloc (.cells ROW 30)) := fun ty => by
    have h := Lib.run_append_grow_zeros w 22 3 ty 30 i0 _ .i64 .i64 Try.underlying22 Try.underlying3 hi hz0 (some ⟨g, 0, none⟩) i n (xs.take (i * 6)) hold (n + 1 - i) (by omega) (by omega) (by omega) (by omega) (by rw [hz2]; omega) (by rw [hz2, show i + (n + 1 - i) = n + 1 by omega]; exact growslice_fits (by omega) (by omega))
    rw [show i + (n + 1 - i) = n + 1 by omega, ← hG, ← hROW] at h
    rw [show (n : Int) + 1 - (i : Int) = ((n + 1 - i : Nat) : Int) by omega]
    exact h
  have hRs : ROW.size = i * 6 + (n + 1 - i) * 6 + (G - (n + 1)) * 6 := by
    rw [hROW]
    simp only [Array.size_append, size_zeroCells, List.size_toArray, List.length_take]
    simp [Value.cells]
    omega
  have hRt : ROW.toList.take (i * 6) = xs.take (i * 6) := by
    rw [hROW]
    simp only [Array.toList_append, List.append_assoc]
    exact List.take_left' (by rw [List.length_take]; omega)
  have hgl : g < w.heap.size := (Array.getElem?_eq_some_iff.1 hg).1
  have hvl : vb < w.heap.size := (Array.getElem?_eq_some_iff.1 hv).1
  obtain ⟨W1, hW1⟩ : ∃ W1, W1 = w.drew.alloc (.cells ROW 30) := ⟨_, rfl⟩
  have hN : W1.heap[w.heap.size]? = some (.cells ROW 30 (0, 0)) := by rw [hW1]; exact heap_alloc_new w.drew _
  have hB1 : ∀ k, k < w.heap.size → W1.heap[k]? = w.heap[k]? := fun k hk => by rw [hW1]; exact Below.heap_alloc w.drew _ k hk
  obtain ⟨R1, hR1⟩ : ∃ R1 : Array Value, R1 = (ROW.toList.take (i * 6) ++ [c0, c1, c2, c3, c4, c5] ++ ROW.toList.drop (i * 6 + 6)).toArray := ⟨_, rfl⟩
  have hcpA : ∀ (W : World), W.heap = W1.heap → ∀ ty dc, (Builtin.copy_ #[22, 22] ty #[.slice (some ⟨w.heap.size, i * 6, none⟩) (n + 1 - i) dc, .slice (some ⟨vb, 0, none⟩) 1 1]).run Try.prog W = .ok (goInt 1) (W.setRow w.heap.size R1) := fun W hW ty dc => by
    rw [hR1]
    exact run_copy_rowS W _ _ ty 30 6 w.heap.size (i * 6) (n + 1 - i) dc ⟨vb, 0, none⟩ 1 1 ROW 30 [c0, c1, c2, c3, c4, c5] 1 Try.underlying22 hsz (by rw [hW]; exact hN) (by simp only [Nat.min_def]; split <;> omega) rfl
      (fun j v hj => by
        rw [Addr.add_lit, Nat.zero_add, cell_of_row W vb j _ 30 (0, 0) (by rw [hW, hB1 vb hvl]; exact hv)]
        simpa using hj)
      (by simp only [List.length_cons, List.length_nil]; rw [hRs]; omega) h1
  obtain ⟨R2, hR2⟩ : ∃ R2 : Array Value, R2 = (R1.toList.take (i * 6 + 6) ++ xs.drop (i * 6) ++ R1.toList.drop (i * 6 + 6 + (xs.drop (i * 6)).length)).toArray := ⟨_, rfl⟩
  have hR1s : R1.size = ROW.size := by rw [hR1]; simp; omega
  have hdl : (xs.drop (i * 6)).length = (n - i) * 6 := by rw [List.length_drop, hxl]; omega
  have hcpB : ∀ (W : World), W.heap = (W1.setRow w.heap.size R1).heap → ∀ ty dc sc, (Builtin.copy_ #[22, 22] ty #[.slice (some ⟨w.heap.size, (i + 1) * 6, none⟩) (n + 1 - (i + 1)) dc, .slice (some ⟨g, i * 6, none⟩) (n - i) sc]).run Try.prog W = .ok (goInt (n - i : Nat)) (W.setRow w.heap.size R2) := fun W hW ty dc sc => by
    rw [hR2]
    have := run_copy_rowS W 22 22 ty 30 6 w.heap.size (i * 6 + 6) (n + 1 - (i + 1)) dc ⟨g, i * 6, none⟩ (n - i) sc R1 30 (xs.drop (i * 6)) (n - i) Try.underlying22 hsz (by rw [hW]; exact setRow_heap W1 w.heap.size ROW R1 _ _ hN) (by simp only [Nat.min_def]; split <;> omega) hdl
      (fun j v hj => by
        rw [Addr.add_lit, cell_of_row W g (i * 6 + j) cur 30 (0, 0) (by rw [hW, setRow_other W1 w.heap.size g R1 (by omega), hB1 g hgl]; exact hg)]
        rw [← htk, List.getElem?_drop, List.getElem?_take] at hj
        split at hj
        · simpa using hj
        · cases hj)
      (by rw [hdl, hR1s, hRs]; omega) (fun v hv => hone v (List.mem_of_mem_drop hv))
    rw [show (i + 1) * 6 = i * 6 + 6 by omega]
    exact this
  have hG63 : G ≤ 9223372036854775807 := by unfold maxLen at hGm; omega
  have hfin : ∀ W : World, W.heap = ((W1.setRow w.heap.size R1).setRow w.heap.size R2).heap → W.os = w.os → W.tape = w.tape → W.output = w.output → W.ownsRow base 30 6 (.slice (some ⟨w.heap.size, 0, none⟩) (n + 1) G) (n + 1) (xs.take (i * 6) ++ [c0, c1, c2, c3, c4, c5] ++ xs.drop (i * 6)) ∧ w.grownBy W none := by
    intro W hW e1 e2 e3
    have hh : W.heap[w.heap.size]? = some (.cells R2 30 (0, 0)) := by rw [hW]; exact setRow_heap _ _ R1 R2 _ _ (setRow_heap W1 w.heap.size ROW R1 _ _ hN)
    have hR2s : R2.size = ROW.size := by rw [hR2]; simp; omega
    refine ⟨⟨by simp [hxl]; omega, .inr ⟨w.heap.size, G, R2, rfl, hb, hh, hGn, hGm, by rw [hR2s, hRs]; omega, ?_⟩⟩, ⟨e1, e2, e3, ?_, fun k hk _ => ?_⟩⟩
    · rw [hR2, hR1]
      have := ins_grow ROW.toList (xs.take (i * 6)) (xs.drop (i * 6)) [c0, c1, c2, c3, c4, c5] (i * 6) rfl hRt (by rw [List.length_take]; omega)
      rw [hdl] at this ⊢
      rw [show (n + 1) * 6 = i * 6 + 6 + (n - i) * 6 by omega]
      exact this
    · have := (Array.getElem?_eq_some_iff.1 hh).1; omega
    · rw [hW, setRow_other _ w.heap.size k R2 (by omega), setRow_other _ w.heap.size k R1 (by omega)]
      exact hB1 k hk
  have HRZ := Lib.hid hrz
  have HCA := Lib.hid hcpA
  have HCB := Lib.hid hcpB
  have HFN := Lib.hid hfin
  have HE1 := Lib.hid (show ((w.alloc (.cells ROW 30)).drew).heap = W1.heap from by rw [hW1]; rfl)
  have HE2 := Lib.hid (show ((((w.alloc (.cells ROW 30)).drew).setRow w.heap.size R1).drew).heap = (W1.setRow w.heap.size R1).heap from by rw [hW1]; rfl)
  have HE3 := Lib.hid (show ((((w.alloc (.cells ROW 30)).drew).setRow w.heap.size R1).drew.setRow w.heap.size R2).heap = ((W1.setRow w.heap.size R1).setRow w.heap.size R2).heap from by rw [hW1]; rfl)
  clear hrz hcpA hcpB hfin hW1 hold hN hB1 hRt hRs hR1 hR1s hR2 hdl hG hROW hg hcs htk hone hv h1 hb hi hz0 hz1 hz2 hsz hxl hgl hvl hGm
  have mixed : Try.prog.follows .mixedOrders = true := by kernel_rfl
  have hq1 : ¬ ((1 : Int) = 0) := by omega
  have hq2 : ¬ ((i : Int) = (n : Int)) := by omega
  have hq3 : ¬ (n = i) := by omega
  have hq4 : ¬ (G = i) := by omega
  have hq5 : ¬ (G = i + 1) := by omega
  have hb1 : (0 : Int) ≤ (i : Int) + 1 := by omega
  have htn : ((i : Int) + 1).toNat = i + 1 := by omega
  have hw1 : IntKind.i64.wrap ((i : Int) + 1) = (i : Int) + 1 := by rw [IntKind.wrap_i64]; omega
  have hb3 : (i : Int) ≤ (n : Int) := by omega
  have hin' : i ≤ n := by omega
  go_enter Try.func48, Try.ntmps48
  go_wp2_with (first
    | (at_builtin; refine Lib.wpList_append_run _ rfl _ _ _ _ rfl _ _ rfl rfl _ _ (HRZ.out _) ?_)
    | ((with_reducible show wpList _ _ _ ({ dst := _, op := Op.call { callee := Callee.builtin Builtin.copy, args := _, argTypes := _ }, type := _, pos := _, after := _, guard := _ } :: _) _ _); refine wpList_copy_runJ _ rfl _ _ 22 22 rfl _ _ rfl rfl (HCA.out _ HE1.out _ _) ?_))
  go_region_law_o (refine step_copy_runJ rfl _ _ 22 22 rfl (.slice (some ⟨w.heap.size, (i + 1) * 6, none⟩) (n + 1 - (i + 1)) (G - (i + 1))) (.slice (some ⟨g, i * 6, none⟩) (n - i) (n - i)) (by simp [Act.eval, Act.put]) (by simp [Act.eval, Act.put]) (HCB.out _ HE2.out 3 (G - (i + 1)) (n - i)) ?_)
  go_wp2
  go_ret
  exact ⟨_, rfl, HFN.out _ HE3.out rfl rfl rfl⟩

/-- slices.Insert: ahead of the end, in place. -/
theorem insS_c (g i cap : Nat) (cur : Array Value) (hin : i < n) (hnc : n < cap) (hcm : cap ≤ maxLen) (hvg : vb ≠ g) (hbg : base ≤ g) (hg : w.heap[g]? = some (.cells cur 30 (0, 0))) (hcs : cur.size = cap * 6) (htk : cur.toList.take (n * 6) = xs) (hone : ∀ u ∈ xs, u.oneCell' = true)
    (hv : w.heap[vb]? = some (.cells #[c0, c1, c2, c3, c4, c5] 30 (0, 0))) (h1 : ∀ u ∈ [c0, c1, c2, c3, c4, c5], u.oneCell' = true) (hn : n ≤ 1000) (hb : base ≤ w.heap.size) :
    Calls Try.prog 48 #[.slice (some ⟨g, 0, none⟩) n cap, .int .i64 i, .slice (some ⟨vb, 0, none⟩) 1 1] w fun e w' => ∃ v', e = .returned v' ∧ w'.ownsRow base 30 6 v' (n + 1) (xs.take (i * 6) ++ [c0, c1, c2, c3, c4, c5] ++ xs.drop (i * 6)) ∧ w.grownBy w' (some g) := by
  have hxl : xs.length = n * 6 := by rw [← htk, List.length_take, Array.length_toList]; omega
  have hsz : (Try.prog.info? 30).map (·.size) = some 6 := infoI6
  have hz9 : ∀ w, (Go.sizeOf 30).run Try.prog w = .ok 6 w := fun w => by
    obtain ⟨i0, hi, hz0, hz1, hz2⟩ := info_parts infoInst
    simp [Go.sizeOf, typeInfo, hi, hz1]
  have hdl : (xs.drop (i * 6)).length = (n - i) * 6 := by rw [List.length_drop, hxl]; omega
  have hov : ∀ lb cb, (callFunc 63 #[.slice (some ⟨vb, 0, none⟩) 1 1, .slice (some ⟨g, (i + 1) * 6, none⟩) lb cb]).run Try.prog w = .ok (.value (.bool false)) w := fun lb cb => by
    rw [run_callFunc_extern Try.func63 (by kernel_rfl) (by kernel_rfl) (by kernel_rfl) (e := Extern.SlicesOverlaps.overlaps #[22, 22] #[4]) (by kernel_rfl),
      Lib.run_overlaps_apart w 22 4 30 Try.underlying22 6 hz9 ⟨vb, 0, none⟩ ⟨g, (i + 1) * 6, none⟩ 1 1 lb cb hvg 30 30 6 cur.size (by simp [World.shape?, hv]) (by simp [World.shape?, hg]) (by omega) (by simp [World.frozen?, hv]) (by simp [World.frozen?, hv])]
    rfl
  have hcl : ∀ j u, xs[j]? = some u → cur[j]? = some u := fun j u hj => by
    rw [← htk, List.getElem?_take] at hj
    split at hj
    · simpa using hj
    · cases hj
  obtain ⟨R1, hR1⟩ : ∃ R1 : Array Value, R1 = (cur.toList.take (i * 6 + 6) ++ xs.drop (i * 6) ++ cur.toList.drop (i * 6 + 6 + (xs.drop (i * 6)).length)).toArray := ⟨_, rfl⟩
  have hR1s : R1.size = cur.size := by rw [hR1]; simp [hxl]; omega
  have hcpB : ∀ (W : World), W.heap = w.heap → ∀ ty dc sc, (Builtin.copy_ #[22, 22] ty #[.slice (some ⟨g, (i + 1) * 6, none⟩) (n - i) dc, .slice (some ⟨g, i * 6, none⟩) (n + 1 - i) sc]).run Try.prog W = .ok (goInt (n - i : Nat)) (W.setRow g R1) := fun W hW ty dc sc => by
    rw [hR1]
    have := run_copy_rowS W 22 22 ty 30 6 g (i * 6 + 6) (n - i) dc ⟨g, i * 6, none⟩ (n + 1 - i) sc cur 30 (xs.drop (i * 6)) (n - i) Try.underlying22 hsz (by rw [hW]; exact hg) (by simp only [Nat.min_def]; split <;> omega) hdl
      (fun j v hj => by
        rw [Addr.add_lit, cell_of_row W g (i * 6 + j) cur 30 (0, 0) (by rw [hW]; exact hg)]
        rw [List.getElem?_drop] at hj
        exact hcl _ _ hj)
      (by rw [hdl]; omega) (fun v hv => hone v (List.mem_of_mem_drop hv))
    rw [show (i + 1) * 6 = i * 6 + 6 by omega]
    exact this
  obtain ⟨R2, hR2⟩ : ∃ R2 : Array Value, R2 = (R1.toList.take (i * 6) ++ [c0, c1, c2, c3, c4, c5] ++ R1.toList.drop (i * 6 + 6)).toArray := ⟨_, rfl⟩
  have hcpA : ∀ (W : World), W.heap = (w.setRow g R1).heap → ∀ ty dc, (Builtin.copy_ #[22, 22] ty #[.slice (some ⟨g, i * 6, none⟩) (n + 1 - i) dc, .slice (some ⟨vb, 0, none⟩) 1 1]).run Try.prog W = .ok (goInt 1) (W.setRow g R2) := fun W hW ty dc => by
    rw [hR2]
    exact run_copy_rowS W _ _ ty 30 6 g (i * 6) (n + 1 - i) dc ⟨vb, 0, none⟩ 1 1 R1 30 [c0, c1, c2, c3, c4, c5] 1 Try.underlying22 hsz (by rw [hW]; exact setRow_heap w g cur R1 _ _ hg) (by simp only [Nat.min_def]; split <;> omega) rfl
      (fun j v hj => by
        rw [Addr.add_lit, Nat.zero_add, cell_of_row W vb j _ 30 (0, 0) (by rw [hW, setRow_other w g vb R1 hvg]; exact hv)]
        simpa using hj)
      (by simp only [List.length_cons, List.length_nil]; rw [hR1s]; omega) h1
  have hfin : ∀ W : World, W.heap = ((w.setRow g R1).setRow g R2).heap → W.os = w.os → W.tape = w.tape → W.output = w.output → W.ownsRow base 30 6 (.slice (some ⟨g, 0, none⟩) (n + 1) cap) (n + 1) (xs.take (i * 6) ++ [c0, c1, c2, c3, c4, c5] ++ xs.drop (i * 6)) ∧ w.grownBy W (some g) := by
    intro W hW e1 e2 e3
    have hh : W.heap[g]? = some (.cells R2 30 (0, 0)) := by rw [hW]; exact setRow_heap _ _ R1 R2 _ _ (setRow_heap w g cur R1 _ _ hg)
    have hR2s : R2.size = cur.size := by rw [hR2, ← hR1s]; simp; omega
    refine ⟨⟨by simp [hxl]; omega, .inr ⟨g, cap, R2, rfl, hbg, hh, by omega, hcm, by rw [hR2s]; exact hcs, ?_⟩⟩, ⟨e1, e2, e3, ?_, fun k hk hkg => ?_⟩⟩
    · rw [hR2, hR1]
      have := ins_shift cur.toList (xs.drop (i * 6)) [c0, c1, c2, c3, c4, c5] (i * 6) rfl (by rw [Array.length_toList]; omega)
      rw [hdl] at this ⊢
      rw [show (n + 1) * 6 = i * 6 + 6 + (n - i) * 6 by omega]
      have ht : cur.toList.take (i * 6) = xs.take (i * 6) := by rw [← htk, List.take_take, Nat.min_eq_left (by omega)]
      rw [ht] at this
      exact this
    · rw [hW]; simp [World.setRow]
    · have hne : k ≠ g := fun e => hkg (by rw [e])
      rw [hW, setRow_other _ g k R2 hne, setRow_other _ g k R1 hne]
  have HCA := Lib.hid hcpA
  have HCB := Lib.hid hcpB
  have HFN := Lib.hid hfin
  have HOV := Lib.hid hov
  have HE2 := Lib.hid (show ((w.drew).setRow g R1).heap = (w.setRow g R1).heap from rfl)
  have hc63 : cap ≤ 9223372036854775807 := by unfold maxLen at hcm; omega
  clear hcpA hcpB hfin hov hR1 hR1s hR2 hdl hcs htk hone hv h1 hb hsz hxl hbg hg hcl hz9 hcm hvg
  have mixed : Try.prog.follows .mixedOrders = true := by kernel_rfl
  have hq1 : ¬ ((1 : Int) = 0) := by omega
  have hq2 : ¬ ((i : Int) = (n : Int)) := by omega
  have hq3 : ¬ (cap = i) := by omega
  have hq4 : ¬ (cap = i + 1) := by omega
  have hb1 : (0 : Int) ≤ (i : Int) + 1 := by omega
  have htn : ((i : Int) + 1).toNat = i + 1 := by omega
  have hw1 : IntKind.i64.wrap ((i : Int) + 1) = (i : Int) + 1 := by rw [IntKind.wrap_i64]; omega
  have hb3 : (i : Int) ≤ (n : Int) := by omega
  have hb4 : (i : Int) ≤ (n : Int) + 1 := by omega
  have hin' : i ≤ n := by omega
  go_enter Try.func48, Try.ntmps48
  go_wp2_with (simp only [HOV.out])
  go_region_law_o (refine step_copy_runJ rfl _ _ 22 22 rfl (.slice (some ⟨g, (i + 1) * 6, none⟩) (n - i) (cap - (i + 1))) (.slice (some ⟨g, i * 6, none⟩) (n + 1 - i) (cap - i)) (by simp [Act.eval, Act.put]) (by simp [Act.eval, Act.put]) (HCB.out w.drew rfl 3 (cap - (i + 1)) (cap - i)) ?_)
  go_wp2_with ((with_reducible show wpList _ _ _ ({ dst := _, op := Op.call { callee := Callee.builtin Builtin.copy, args := _, argTypes := _ }, type := _, pos := _, after := _, guard := _ } :: _) _ _); refine wpList_copy_runJ _ rfl _ _ 22 22 rfl _ _ rfl rfl (HCA.out _ HE2.out _ _) ?_)
  go_ret
  exact ⟨_, rfl, HFN.out _ rfl rfl rfl rfl⟩
end
end Go.Proofs.Ytncloiimbclklaa

/- Putting an instance into a case: the mathematics; where the one of a path is, where a further one goes; copies of instances with many latches. Written by tools/genwb.py. -/
namespace Go.Proofs.Ytncloiimbclklaa
open Go Go.RowKit Go.Shelf
set_option linter.unusedVariables false
set_option linter.unusedSimpArgs false

def gtP (p : ByteArray) (x : IV) : Bool := decide (0 < ordF x.path.data.toList p.data.toList)
/-- An instance put into a list: in the place of the first with its path, or ahead of the first of a later path. -/
def putF (l : List IV) (x : IV) : List IV :=
  if l.findIdx (hasP x.path) < l.length then l.set (l.findIdx (hasP x.path)) x else l.take (l.findIdx (gtP x.path)) ++ [x] ++ l.drop (l.findIdx (gtP x.path))
def idxZ (f : IV → Bool) (l : List IV) : Int := if l.findIdx f < l.length then (l.findIdx f : Int) else -1
theorem idx_hit {f : IV → Bool} {l : List IV} {k : Nat} (h : k < l.length) (ht : ∀ x ∈ l.take k, f x = false) (hb : f l[k] = true) : l.findIdx f = k :=
  (List.findIdx_eq h).2 ⟨hb, fun j hj => ht _ (List.mem_take_iff_getElem.2 ⟨j, by omega, rfl⟩)⟩
theorem idx_next {f : IV → Bool} {l : List IV} {k : Nat} (h : k < l.length) (ht : ∀ x ∈ l.take k, f x = false) (hb : f l[k] = false) : ∀ x ∈ l.take (k + 1), f x = false := by
  intro x hx
  rw [List.take_succ_eq_append_getElem h, List.mem_append, List.mem_singleton] at hx
  rcases hx with hx | rfl
  · exact ht x hx
  · exact hb
theorem idx_none {f : IV → Bool} {l : List IV} {k : Nat} (h : l.length ≤ k) (ht : ∀ x ∈ l.take k, f x = false) : l.findIdx f = l.length := by
  rw [List.take_of_length_le h] at ht
  exact List.findIdx_eq_length.2 ht
theorem idxZ_hit {f : IV → Bool} {l : List IV} {k : Nat} (h : k < l.length) (hk : l.findIdx f = k) : idxZ f l = (k : Int) := by unfold idxZ; rw [hk, if_pos h]
theorem idxZ_none {f : IV → Bool} {l : List IV} (hk : l.findIdx f = l.length) : idxZ f l = -1 := by unfold idxZ; rw [hk, if_neg (Nat.lt_irrefl _)]

theorem flatI_take (l : List IV) (j : Nat) : (flatI l).take (j * 6) = flatI (l.take j) := by
  induction l generalizing j with
  | nil => simp [flatI]
  | cons x r ih =>
    cases j with
    | zero => simp [flatI]
    | succ j =>
      have := ih j
      unfold flatI at this ⊢
      rw [List.flatMap_cons, List.take_succ_cons, List.flatMap_cons, ← this, List.take_append, List.take_of_length_le (by simp [IV.cells]; omega)]
      simp [IV.cells]
      congr 1
      omega
theorem flatI_drop (l : List IV) (j : Nat) : (flatI l).drop (j * 6) = flatI (l.drop j) := by
  induction l generalizing j with
  | nil => simp [flatI]
  | cons x r ih =>
    cases j with
    | zero => simp [flatI]
    | succ j =>
      have := ih j
      unfold flatI at this ⊢
      rw [List.flatMap_cons, List.drop_succ_cons, ← this, List.drop_append, List.drop_of_length_le (by simp [IV.cells]; omega)]
      simp [IV.cells]
      congr 1
      omega
theorem flatI_app (l r : List IV) : flatI (l ++ r) = flatI l ++ flatI r := by simp [flatI]

set_option maxRecDepth 100000 in
theorem put1_c (w : World) (x : IV) (b : Nat) (p : ByteArray) (hb : b < w.heap.size) (hp : w.cell? ⟨b, 0, none⟩ = some (.string p)) (hx : x.path.size ≤ 400) (hpp : p.size ≤ 400) :
    Calls Try.prog 47 #[.agg x.cells.toArray, .pointer (some ⟨b, 0, none⟩)] w fun e w' => e = .returned (.bool (gtP p x)) ∧ Below w.heap.size w w' := by
  obtain ⟨path, item, st, bf, lv, ls, due⟩ := x
  dsimp only at hx
  obtain ⟨R, hR⟩ : ∃ R : Int, ordF path.data.toList p.data.toList = R := ⟨_, rfl⟩
  have HR := Lib.hid (show gtP p ⟨path, item, st, bf, lv, ls, due⟩ = decide (0 < R) from by rw [← hR]; rfl)
  have HB := Lib.hid (fun o => box_bel' w o)
  have HO := Lib.hid (fun W => order_c W path p (by omega) (by omega))
  simp only [hR] at HO
  clear hR hx hpp
  unfold IV.cells
  dsimp only
  go_enter Try.func47, Try.ntmps47
  go_wp2_with fail
  refine (HO.out _).mono ?_
  rintro e w' ⟨rfl, hb⟩
  have HB2 := Lib.hid (bel_tr (HB.out _) hb)
  clear hb
  go_wp2_with fail
  go_ret
  exact ⟨by rw [HR.out]; rfl, HB2.out⟩

set_option maxRecDepth 100000 in
set_option maxHeartbeats 2000000 in
theorem indexZF_c (w : World) (v : Value) (l : List IV) (hl : InstsIs w v l) (b : Nat) (p : ByteArray) (hb : b < w.heap.size) (hp : w.cell? ⟨b, 0, none⟩ = some (.string p)) :
    Calls Try.prog 46 #[v, .func (.func 54) #[] #[.pointer (some ⟨b, 0, none⟩)]] w fun e w' => e = .returned (.int .i64 (idxZ (hasP p) l)) ∧ Below w.heap.size w w' := by
  have HI := Lib.hid hl
  obtain ⟨Z, hZ⟩ : ∃ Z, Z = idxZ (hasP p) l := ⟨_, rfl⟩
  rw [← hZ]
  have HZ := Lib.hid hZ
  clear hZ
  have HP := Lib.hid (fun (W : World) (h : Below w.heap.size w W) (x : IV) => index1_c W x b p (Nat.lt_of_lt_of_le hb h.size) ((h.cell (p := ⟨b, 0, none⟩) hb).trans hp))
  have hE := enters_of Try.func54 (by kernel_rfl) rfl
  obtain ⟨a, ca, hiv, hn1, hn2, _, _⟩ := hl.1
  subst hiv
  have hn : l.length ≤ 9223372036854775807 := by unfold maxLen at hn2; omega
  clear hl hn1 hn2 hb hp
  go_enter Try.func46, Try.ntmps46
  go_wp2_with fail
  go_loopw [8] (fun i wr => ∃ k : Nat, k ≤ l.length ∧ i = .int .i64 k ∧ Below w.heap.size w wr ∧ ∀ x ∈ l.take k, hasP p x = false) (fun i _ => l.length - (intOf i).toNat)
  case atStart => exact ⟨0, by omega, rfl, Below.refl _ _, by simp⟩
  case round =>
    obtain ⟨k, hk, rfl, hbr, hall⟩ := hrel
    have HBR := Lib.hid hbr
    have HAL := Lib.hid hall
    clear hbr hall
    by_cases hlt : k < l.length
    · obtain ⟨x, hx⟩ : ∃ x, x = l[k] := ⟨_, rfl⟩
      have HX := Lib.hid hx
      have hrow : rowI l k = x.cells := by unfold rowI; rw [List.getElem?_eq_getElem hlt, ← hx]; rfl
      have HHIT := Lib.hid (fun (hb : hasP p x = true) => (idx_hit hlt HAL.out (by rw [← HX.out]; exact hb)))
      have HNXT := Lib.hid (fun (hb : hasP p x = false) => (idx_next hlt HAL.out (by rw [← HX.out]; exact hb)))
      have HC := Lib.hid (HP.out wr HBR.out x)
      obtain ⟨path, item, st, bf, lv, ls, due⟩ := x
      unfold IV.cells at HC
      dsimp only at HC
      obtain ⟨g, o, ha, hg, c0, c1, c2, c3, c4, c5⟩ := (HI.out.1.below HBR.out).row hlt hrow
      subst ha
      clear hrow hx
      obtain ⟨q, hq⟩ : ∃ q, hasP p ⟨path, item, st, bf, lv, ls, due⟩ = q := ⟨_, rfl⟩
      rw [hq] at HC HHIT HNXT
      clear hq
      cases q
      · have HN := Lib.hid (HNXT.out rfl)
        clear HHIT HNXT
        go_wp2_with fail
        refine (HC.out).mono ?_
        rintro e w' ⟨rfl, hb⟩
        have HX2 := Lib.hid (HBR.out.trans (hb.mono HBR.out.size))
        clear hb
        go_wp2_with fail
        go_roundw
        case rel => exact ⟨k + 1, by omega, by go_num, HX2.out, HN.out⟩
        case measure => simp [intOf]; omega
      · have HN := Lib.hid (HHIT.out rfl)
        clear HHIT HNXT
        go_wp2_with fail
        refine (HC.out).mono ?_
        rintro e w' ⟨rfl, hb⟩
        have HX2 := Lib.hid (HBR.out.trans (hb.mono HBR.out.size))
        clear hb
        go_wp2_with fail
        go_ret
        exact ⟨by rw [HZ.out, idxZ_hit hlt HN.out]; rfl, HX2.out⟩
    · have HE := Lib.hid (idx_none (by omega) HAL.out)
      go_wp2_with fail
      go_ret
      exact ⟨by rw [HZ.out, idxZ_none HE.out]; rfl, HBR.out⟩

set_option maxRecDepth 100000 in
set_option maxHeartbeats 2000000 in
theorem indexP_c (w : World) (v : Value) (l : List IV) (hl : InstsIs w v l) (b : Nat) (p : ByteArray) (hb : b < w.heap.size) (hp : w.cell? ⟨b, 0, none⟩ = some (.string p)) (hps : ∀ x ∈ l, x.path.size ≤ 400) (hpp : p.size ≤ 400) :
    Calls Try.prog 46 #[v, .func (.func 47) #[] #[.pointer (some ⟨b, 0, none⟩)]] w fun e w' => e = .returned (.int .i64 (idxZ (gtP p) l)) ∧ Below w.heap.size w w' := by
  have HI := Lib.hid hl
  obtain ⟨Z, hZ⟩ : ∃ Z, Z = idxZ (gtP p) l := ⟨_, rfl⟩
  rw [← hZ]
  have HZ := Lib.hid hZ
  clear hZ
  have HP := Lib.hid (fun (W : World) (h : Below w.heap.size w W) (x : IV) (hx : x.path.size ≤ 400) => put1_c W x b p (Nat.lt_of_lt_of_le hb h.size) ((h.cell (p := ⟨b, 0, none⟩) hb).trans hp) hx hpp)
  have HPS := Lib.hid hps
  clear hps hpp
  have hE := enters_of Try.func47 (by kernel_rfl) rfl
  obtain ⟨a, ca, hiv, hn1, hn2, _, _⟩ := hl.1
  subst hiv
  have hn : l.length ≤ 9223372036854775807 := by unfold maxLen at hn2; omega
  clear hl hn1 hn2 hb hp
  go_enter Try.func46, Try.ntmps46
  go_wp2_with fail
  go_loopw [8] (fun i wr => ∃ k : Nat, k ≤ l.length ∧ i = .int .i64 k ∧ Below w.heap.size w wr ∧ ∀ x ∈ l.take k, gtP p x = false) (fun i _ => l.length - (intOf i).toNat)
  case atStart => exact ⟨0, by omega, rfl, Below.refl _ _, by simp⟩
  case round =>
    obtain ⟨k, hk, rfl, hbr, hall⟩ := hrel
    have HBR := Lib.hid hbr
    have HAL := Lib.hid hall
    clear hbr hall
    by_cases hlt : k < l.length
    · obtain ⟨x, hx⟩ : ∃ x, x = l[k] := ⟨_, rfl⟩
      have HX := Lib.hid hx
      have hrow : rowI l k = x.cells := by unfold rowI; rw [List.getElem?_eq_getElem hlt, ← hx]; rfl
      have HHIT := Lib.hid (fun (hb : gtP p x = true) => (idx_hit hlt HAL.out (by rw [← HX.out]; exact hb)))
      have HNXT := Lib.hid (fun (hb : gtP p x = false) => (idx_next hlt HAL.out (by rw [← HX.out]; exact hb)))
      have HC := Lib.hid (HP.out wr HBR.out x (HPS.out x (by rw [hx]; exact List.getElem_mem hlt)))
      obtain ⟨path, item, st, bf, lv, ls, due⟩ := x
      unfold IV.cells at HC
      dsimp only at HC
      obtain ⟨g, o, ha, hg, c0, c1, c2, c3, c4, c5⟩ := (HI.out.1.below HBR.out).row hlt hrow
      subst ha
      clear hrow hx
      obtain ⟨q, hq⟩ : ∃ q, gtP p ⟨path, item, st, bf, lv, ls, due⟩ = q := ⟨_, rfl⟩
      rw [hq] at HC HHIT HNXT
      clear hq
      cases q
      · have HN := Lib.hid (HNXT.out rfl)
        clear HHIT HNXT
        go_wp2_with fail
        refine (HC.out).mono ?_
        rintro e w' ⟨rfl, hb⟩
        have HX2 := Lib.hid (HBR.out.trans (hb.mono HBR.out.size))
        clear hb
        go_wp2_with fail
        go_roundw
        case rel => exact ⟨k + 1, by omega, by go_num, HX2.out, HN.out⟩
        case measure => simp [intOf]; omega
      · have HN := Lib.hid (HHIT.out rfl)
        clear HHIT HNXT
        go_wp2_with fail
        refine (HC.out).mono ?_
        rintro e w' ⟨rfl, hb⟩
        have HX2 := Lib.hid (HBR.out.trans (hb.mono HBR.out.size))
        clear hb
        go_wp2_with fail
        go_ret
        exact ⟨by rw [HZ.out, idxZ_hit hlt HN.out]; rfl, HX2.out⟩
    · have HE := Lib.hid (idx_none (by omega) HAL.out)
      go_wp2_with fail
      go_ret
      exact ⟨by rw [HZ.out, idxZ_none HE.out]; rfl, HBR.out⟩

set_option maxRecDepth 100000 in
theorem indexZ_c (w : World) (v : Value) (l : List IV) (hl : InstsIs w v l) (p : ByteArray) :
    Calls Try.prog 29 #[v, .string p] w fun e w' => e = .returned (.int .i64 (idxZ (hasP p) l)) ∧ Below w.heap.size w w' := by
  have HC := Lib.hid (indexZF_c (w.alloc (.cells #[.string p] 9)) v l (hl.below (box_bel' w _)) w.heap.size p (by simp) (by simp only [World.cell?, heap_alloc_new]; rfl))
  have HB := Lib.hid (fun o => box_bel' w o)
  clear hl
  go_enter Try.func29, Try.ntmps29
  go_wp2_with fail
  refine (HC.out).mono ?_
  rintro e w' ⟨rfl, hb⟩
  have HX2 := Lib.hid ((HB.out _).trans (hb.mono (HB.out _).size))
  clear hb
  go_wp2_with fail
  go_ret
  exact ⟨rfl, HX2.out⟩


set_option maxRecDepth 100000 in
set_option maxHeartbeats 1000000 in
theorem copiedB_c (w : World) (x : IV) (h : IVok w x) (hs : x.ls.length ≤ 17592186044416) : Calls Try.prog 30 #[.agg x.cells.toArray] w (CopyAs w x) := by
  obtain ⟨i0, hi, hz0, hz1, hz2⟩ := info_parts infoInt
  obtain ⟨path, item, st, bf, lv, ls, due⟩ := x
  have hlen : (icells ls).length = ls.length := by simp [icells]
  have HS := Lib.hid (fun (W : World) (hb : Below w.heap.size w W) => (h.rl.below hb).src (t := 28) Try.underlying28 (icells_one ls))
  dsimp only at HS hs
  obtain ⟨p, cp, hlv⟩ := h.rl.form
  dsimp only at hlv
  subst hlv
  rw [hlen] at HS ⊢
  unfold IV.cells
  dsimp only
  have HB2 := Lib.hid (fun o o2 => (box_bel' w o).alloc (box_bel' w o).size o2)
  have HSZ := Lib.hid hs
  clear h hlen hs
  go_enter Try.func30, Try.ntmps30
  go_wp2_with (at_builtin; refine wpList_append_src rfl _ _ 28 28 rfl (w.heap.size + 2) 3 i0 (.int .i64 0) 8 Try.underlying28 hi hz0 hz1 hz2 rfl (.slice none 0 0) 0 [] rfl (World.ownsRow_nil _ _ _ _) _ ls.length (icells ls) rfl (HS.out _ (HB2.out _ _)) ?c1 ?c2 ?c3 ?_)
  case c1 => have := HSZ.out; unfold maxLen; omega
  case c2 => have := HSZ.out; omega
  case c3 => simp
  intro v' w1 hown hgrow
  have HOW := Lib.hid (OwnS.ofRow hown)
  have HB3 := Lib.hid ((HB2.out _ _).grown hgrow (by simp; omega) (fun k ek => by cases ek))
  have HG := Lib.hid hgrow
  obtain ⟨pa, ca, hv', _⟩ := (OwnS.ofRow hown).form
  subst hv'
  have hg := hgrow.block
  obtain ⟨c0, c1, c2, c3, c4, c5, cz⟩ := cells6 ((hg w.heap.size (by simp; omega) (by simp [Value.ownBlock])).trans (two_old w _ _))
  obtain ⟨r0, r1, r2, r3, r4, r5, rz⟩ := cells6 ((hg (w.heap.size + 1) (by simp) (by simp [Value.ownBlock])).trans (two_new w _ _))
  clear hown hgrow hg
  go_wp2_with fail
  have hx := (HG.out.block (w.heap.size + 1) (by simp) (by simp [Value.ownBlock])).trans (two_new w _ _)
  have hx2 := (Below.heap_setCell w1 ⟨w.heap.size, 4, none⟩ (.slice pa ls.length ca) (w.heap.size + 1) (by simp)).trans hx
  refine bodyPost_ret (results_cell_row Try.results30 _ _ (w.heap.size + 1) 30 _ (0, 0) _ rfl (putI_at hx2 _ _ _ _ _ _) Try.underlying30 rfl infoI6) rfl ?_
  refine ⟨_, rfl, ?_, putI_below (HB3.out.setCell (p := ⟨w.heap.size, 4, none⟩) (Nat.le_refl _) _) (by omega) _ _ _ _ _ _⟩
  refine (HOW.out.keep (fun g hg => ?_)).up (by omega)
  have hge := HOW.out.base g hg
  rw [putI_far _ _ _ (by omega)]
  exact Below.heap_setCell _ _ _ _ (by show g ≠ w.heap.size; omega)

set_option maxRecDepth 100000 in
set_option maxHeartbeats 1000000 in
theorem rcopiedB_c (w : World) (x : IV) (h : IVok w x) (hs : x.ls.length ≤ 17592186044416) : Calls Try.prog 31 #[.agg x.cells.toArray] w (CopyAs w x) := by
  obtain ⟨i0, hi, hz0, hz1, hz2⟩ := info_parts infoInt
  obtain ⟨path, item, st, bf, lv, ls, due⟩ := x
  have hlen : (icells ls).length = ls.length := by simp [icells]
  have HS := Lib.hid (fun (W : World) (hb : Below w.heap.size w W) => (h.rl.below hb).src (t := 28) Try.underlying28 (icells_one ls))
  dsimp only at HS hs
  obtain ⟨p, cp, hlv⟩ := h.rl.form
  dsimp only at hlv
  subst hlv
  rw [hlen] at HS ⊢
  unfold IV.cells
  dsimp only
  have HB2 := Lib.hid (fun o o2 => (box_bel' w o).alloc (box_bel' w o).size o2)
  have HB3 := Lib.hid (fun o o2 o3 => ((box_bel' w o).alloc (box_bel' w o).size o2).alloc ((box_bel' w o).alloc (box_bel' w o).size o2).size o3)
  have HE := Lib.hid (fun o o2 => (show OwnS ((((w.alloc o).alloc o2)).alloc (.cells #[] 3)) (w.heap.size + 2) 3 1 (.slice (some ⟨w.heap.size + 1 + 1, 0, none⟩) 0 0) 0 [] from by
    have := ownS_empty ((w.alloc o).alloc o2) (w.heap.size + 2) 3 1 (by simp)
    rwa [World.size_alloc, World.size_alloc] at this))
  have HSZ := Lib.hid hs
  clear h hlen hs
  go_enter Try.func31, Try.ntmps31
  go_wp2_with (at_builtin; refine wpList_append_S rfl _ _ 28 28 rfl (w.heap.size + 2) 3 i0 (.int .i64 0) 1 8 Try.underlying28 hi hz0 hz1 hz2 rfl (by decide) _ 0 [] rfl (HE.out _ _) _ ls.length (icells ls) rfl (HS.out _ (HB3.out _ _ _)) ?c1 ?c2 ?c3 ?_)
  case c1 => have := HSZ.out; unfold maxLen; omega
  case c2 => have := HSZ.out; omega
  case c3 => simp
  intro v' w1 hown hgrow how
  have HOW := Lib.hid hown
  have HB4 := Lib.hid ((HB3.out _ _ _).grown hgrow (by simp; omega) (fun k ek => by simp [Value.ownBlock] at ek; omega))
  have HG := Lib.hid hgrow
  obtain ⟨pa, ca, hv', _⟩ := hown.form
  subst hv'
  have hg := hgrow.block
  obtain ⟨c0, c1, c2, c3, c4, c5, cz⟩ := cells6 ((hg w.heap.size (by simp; omega) (by simp [Value.ownBlock]; omega)).trans (three_old w _ _ _))
  have hx := (hg (w.heap.size + 1) (by simp) (by simp [Value.ownBlock])).trans (three_mid w _ _ _)
  have HX := Lib.hid hx
  obtain ⟨r0, r1, r2, r3, r4, r5, rz⟩ := cells6 hx
  clear hown hgrow hg hx how
  go_wp2_with fail
  have hx2 := (Below.heap_setCell w1 ⟨w.heap.size, 4, none⟩ (.slice pa ls.length ca) (w.heap.size + 1) (by simp)).trans HX.out
  refine bodyPost_ret (results_cell_row Try.results31 _ _ (w.heap.size + 1) 30 _ (0, 0) _ rfl (putI_at hx2 _ _ _ _ _ _) Try.underlying30 rfl infoI6) rfl ?_
  refine ⟨_, rfl, ?_, putI_below (HB4.out.setCell (p := ⟨w.heap.size, 4, none⟩) (Nat.le_refl _) _) (by omega) _ _ _ _ _ _⟩
  refine (HOW.out.keep (fun g hg => ?_)).up (by omega)
  have hge := HOW.out.base g hg
  rw [putI_far _ _ _ (by omega)]
  exact Below.heap_setCell _ _ _ _ (by show g ≠ w.heap.size; omega)

end Go.Proofs.Ytncloiimbclklaa

/- Putting an instance into a case: slices.Insert whatever the room; a row of instances with one more, or with one in the place of another. -/
namespace Go.Proofs.Ytncloiimbclklaa
open Go Go.RowKit Go.Shelf
set_option linter.unusedVariables false
set_option linter.unusedSimpArgs false

/-- slices.Insert of one instance into a row that the call owns. -/
theorem ins_c (w : World) (base n : Nat) (xs : List Value) (v : Value) (hown : w.ownsRow base 30 6 v n xs) (i : Nat) (hi : i ≤ n) (vb : Nat) (c0 c1 c2 c3 c4 c5 : Value) (hvb : ∀ g, v.ownBlock = some g → vb ≠ g) (hone : ∀ u ∈ xs, u.oneCell' = true)
    (hv : w.heap[vb]? = some (.cells #[c0, c1, c2, c3, c4, c5] 30 (0, 0))) (h1 : ∀ u ∈ [c0, c1, c2, c3, c4, c5], u.oneCell' = true) (hn : n ≤ 1000) (hb : base ≤ w.heap.size) :
    Calls Try.prog 48 #[v, .int .i64 i, .slice (some ⟨vb, 0, none⟩) 1 1] w fun e w' => ∃ v', e = .returned v' ∧ w'.ownsRow base 30 6 v' (n + 1) (xs.take (i * 6) ++ [c0, c1, c2, c3, c4, c5] ++ xs.drop (i * 6)) ∧ w.grownBy w' v.ownBlock := by
  by_cases hin : i = n
  · subst hin
    have hl : xs.length = i * 6 := hown.1
    rw [List.take_of_length_le (by omega), List.drop_of_length_le (by omega), List.append_nil]
    exact insE_c w base i xs vb c0 c1 c2 c3 c4 c5 v hown hv h1 hn hb
  · rcases hown.2 with ⟨hv0, hn0⟩ | ⟨g, cap, cur, hv0, hbg, hg, hnc, hcm, hcs, htk⟩
    · omega
    · subst hv0
      by_cases hc : cap = n
      · subst hc
        exact (insG_c w base cap xs vb c0 c1 c2 c3 c4 c5 g i cur (by omega) hg (by omega) htk hone hv h1 hn hb).mono fun e w' ⟨v', he, ho, hgr⟩ => ⟨v', he, ho, ⟨hgr.os, hgr.tape, hgr.output, hgr.size, fun k hk _ => hgr.block k hk (by simp)⟩⟩
      · exact insS_c w base n xs vb c0 c1 c2 c3 c4 c5 g i cap cur (by omega) (by omega) hcm (hvb g rfl) hbg hg hcs htk hone hv h1 hn hb

/-- A row with one more. -/
theorem InstsOwn.ins {w W : World} {base : Nat} {v v2 : Value} {l l' : List IV} {x y : IV} {j : Nat} (h1 : l'.map IV.bare = l.map IV.bare) (h2 : w.ownsRow base 30 6 v l'.length (flatI l')) (h3 : ∀ z ∈ l', OwnS w base 3 1 z.lv z.ls.length (icells z.ls))
    (hx : OwnS w base 3 1 x.lv x.ls.length (icells x.ls)) (hxy : x.bare = y.bare) (hj : j ≤ l'.length) (hown : W.ownsRow base 30 6 v2 (l'.length + 1) ((flatI l').take (j * 6) ++ x.cells ++ (flatI l').drop (j * 6))) (hg : w.grownBy W v.ownBlock) :
    InstsOwn W base v2 (l.take j ++ [y] ++ l.drop j) := by
  refine ⟨l'.take j ++ [x] ++ l'.drop j, by simp [List.map_take, List.map_drop, h1, hxy], ?_, fun z hz => ?_⟩
  · rw [flatI_app, flatI_app, ← flatI_take, ← flatI_drop, show flatI [x] = x.cells from by simp [flatI], show (l'.take j ++ [x] ++ l'.drop j).length = l'.length + 1 from by simp; omega]
    exact hown
  · have hz' : z = x ∨ z ∈ l' := by
      simp only [List.mem_append, List.mem_singleton] at hz
      rcases hz with (hz | hz) | hz
      · exact .inr (List.mem_of_mem_take hz)
      · exact .inl hz
      · exact .inr (List.mem_of_mem_drop hz)
    rcases hz' with rfl | hz'
    · exact own_grow (by decide) h2 hx hg
    · exact own_grow (by decide) h2 (h3 z hz') hg

/-- A row with one in the place of another. -/
theorem InstsOwn.set {w : World} {base g n c : Nat} {l l' : List IV} {k : Nat} {x y : IV} (h1 : l'.map IV.bare = l.map IV.bare) (h2 : w.ownsRow base 30 6 (.slice (some ⟨g, 0, none⟩) n c) l'.length (flatI l')) (h3 : ∀ z ∈ l', OwnS w base 3 1 z.lv z.ls.length (icells z.ls))
    (hx : OwnS w base 3 1 x.lv x.ls.length (icells x.ls)) (hxy : x.bare = y.bare) (hk : k < l'.length) :
    InstsOwn (putR w g (k * 6) (.string x.path) (.string x.item) (.int .i64 x.st) (.int .i64 x.bf) x.lv (.int .i64 x.due)) base (.slice (some ⟨g, 0, none⟩) n c) (l.set k y) := by
  rcases h2.2 with ⟨hv, h0⟩ | ⟨g1, cap, cur, hv, hbg, hg, e1, e2, e3, e4⟩
  · cases hv
  · simp only [Value.slice.injEq, Option.some.injEq, Addr.mk.injEq, and_true] at hv
    obtain ⟨rfl, rfl, rfl⟩ := hv
    have hcz : l'.length * 6 ≤ cur.size := by have := Nat.mul_le_mul_right 6 e1; omega
    refine ⟨l'.set k x, by rw [List.map_set, List.map_set, h1, hxy], ⟨by rw [flatI_len], .inr ⟨g, c, _, by rw [List.length_set], hbg, putR_at hg _ _ _ _ _ _ _, by rw [List.length_set]; exact e1, e2, by simpa [put6] using e3, ?_⟩⟩, fun z hz => ?_⟩
    · rw [List.length_set]
      exact cells_setI rfl hcz e4 (by omega) x (fun q r hr => put6_get cur k (by omega) _ _ _ _ _ _ q r hr)
    · have hw : OwnS w base 3 1 z.lv z.ls.length (icells z.ls) := by
        rcases List.mem_or_eq_of_mem_set hz with hz | rfl
        · exact h3 z hz
        · exact hx
      exact hw.keep fun b hb2 => putR_far w g _ b (ownS_far (by decide) hg hw b hb2) _ _ _ _ _ _

theorem findIdx_bare {f : IV → Bool} (hf : ∀ x, f x = f x.bare) : ∀ {l l' : List IV}, l'.map IV.bare = l.map IV.bare → l'.findIdx f = l.findIdx f
  | [], [], _ => rfl
  | [], _ :: _, h => by simp at h
  | _ :: _, [], h => by simp at h
  | x :: r, y :: s, h => by
    simp only [List.map_cons, List.cons.injEq] at h
    rw [List.findIdx_cons, List.findIdx_cons, hf y, hf x, h.1, findIdx_bare hf h.2]
theorem idxZ_bare {f : IV → Bool} (hf : ∀ x, f x = f x.bare) {l l' : List IV} (h : l'.map IV.bare = l.map IV.bare) : idxZ f l' = idxZ f l := by
  unfold idxZ
  rw [findIdx_bare hf h, show l'.length = l.length by simpa using congrArg List.length h]
end Go.Proofs.Ytncloiimbclklaa

/- Putting an instance into a case: tree.Put. Written by tools/genwd.py. -/
namespace Go.Proofs.Ytncloiimbclklaa
open Go Go.RowKit Go.Shelf
set_option linter.unusedVariables false
set_option linter.unusedSimpArgs false

theorem three_new (w : World) (o o2 o3 : Obj) : (((w.alloc o).alloc o2).alloc o3).heap[w.heap.size + 2]? = some o3 := by
  have := heap_alloc_new ((w.alloc o).alloc o2) o3
  simpa using this
theorem InstsOwn.kept {w W : World} {base : Nat} {v : Value} {l : List IV} (h : InstsOwn w base v l) (hf : ∀ b, base ≤ b → b < w.heap.size → W.heap[b]? = w.heap[b]?) : InstsOwn W base v l := by
  obtain ⟨l', k1, k2, k3⟩ := h
  exact ⟨l', k1, ownr_keep k2 fun b hb => hf b (ownr_lt k2 b hb).1 (ownr_lt k2 b hb).2, fun x hx => (k3 x hx).keep fun b hb => hf b ((k3 x hx).base b hb) ((k3 x hx).lt b hb)⟩
theorem DocsOwn.kept {w W : World} {base : Nat} {v : Value} {l : List DV} (h : DocsOwn w base v l) (hf : ∀ b, base ≤ b → b < w.heap.size → W.heap[b]? = w.heap[b]?) : DocsOwn W base v l := by
  obtain ⟨l', k1, k2, k3⟩ := h
  exact ⟨l', k1, ownr_keep k2 fun b hb => hf b (ownr_lt k2 b hb).1 (ownr_lt k2 b hb).2, fun x hx => (k3 x hx).keep fun b hb => hf b ((k3 x hx).base b hb) ((k3 x hx).lt b hb)⟩
theorem DocsOwn.grow {W W' : World} {base b n s : Nat} {e : TypeId} {v vI : Value} {l : List DV} {xs : List Value} (h : DocsOwn W base vI l) (h1 : e ≠ 49) (h2 : e ≠ 9) (hr : W.ownsRow b e s v n xs) (hg : W.grownBy W' v.ownBlock) : DocsOwn W' base vI l := by
  obtain ⟨l', k1, k2, k3⟩ := h
  exact ⟨l', k1, ownr_keep k2 (fun g hk => hg.block g (ownr_lt k2 g hk).2 (own_apart h1 hr (OwnS.ofRow k2) g hk)), fun x hx => own_grow h2 hr (k3 x hx) hg⟩
theorem DocsOwn.form {w : World} {base : Nat} {v : Value} {l : List DV} (h : DocsOwn w base v l) : ∃ p c, v = .slice p l.length c := by
  obtain ⟨l', k1, k2, k3⟩ := h
  obtain ⟨a, c, hv, -⟩ := (OwnS.ofRow k2).form
  exact ⟨a, c, by rw [hv, show l'.length = l.length by simpa using congrArg List.length k1]⟩
/-- A case with an instance put into it, in memory of its own. -/
def PutC (w : World) (c : CV) (x : IV) (e : Ending) (w' : World) : Prop :=
  ∃ vI vD, e = .returned (.agg #[.int .i64 c.id, .string c.model, vI, vD, .int .i64 c.clock]) ∧ InstsOwn w' w.heap.size vI (putF c.insts x) ∧ DocsOwn w' w.heap.size vD c.docs ∧ Below w.heap.size w w'

set_option maxRecDepth 100000 in
set_option maxHeartbeats 2000000 in
theorem put_c (w : World) (c : CV) (x : IV) (h : CVok w c) (hx : IVok w x) (hs : ∀ x ∈ c.insts, x.ls.length ≤ 40) (hs2 : ∀ x ∈ c.docs, x.rs.length ≤ 40) (hc4 : c.insts.length ≤ 1000) (hc5 : c.insts.length ≤ 40) (hd4 : c.docs.length ≤ 100) (hps : ∀ y ∈ c.insts, y.path.size ≤ 400) (hxp : x.path.size ≤ 400) (hxl : x.ls.length ≤ 17592186044416) :
    Calls Try.prog 22 #[c.val, .agg x.cells.toArray] w (PutC w c x) := by
  have HCP := Lib.hid (fun (W : World) (hb : Below w.heap.size w W) => copy_c W c (h.below hb) hs hs2 hc5 hd4)
  have HCI := Lib.hid (fun (W : World) (hb : Below w.heap.size w W) => copiedB_c W x (hx.below hb) hxl)
  have HIV := Lib.hid h.insts.2
  have HPS := Lib.hid hps
  have HXP := Lib.hid hxp
  have HC4 := Lib.hid hc4
  have hl := h.insts.1
  have hl2 := h.docs.1
  obtain ⟨pl, cp, hlv⟩ := hx.rl.form
  obtain ⟨id, mo, iv, dv, cl, is, ds⟩ := c
  obtain ⟨path, item, st, bf, lv, ls, due⟩ := x
  dsimp only at HIV HPS HXP HC4 hl hl2 hlv
  obtain ⟨a, ca, hiv, -⟩ := hl
  obtain ⟨a2, ca2, hdv, -⟩ := hl2
  subst hiv hdv hlv
  unfold CV.val IV.cells
  unfold CV.val at HCP
  unfold IV.cells at HCI
  dsimp only at HCP HCI ⊢
  obtain ⟨w0, hw0⟩ : ∃ x, x = ((w.alloc (.cells #[.int .i64 id, .string mo, .slice a is.length ca, .slice a2 ds.length ca2, .int .i64 cl] 25)).alloc (.cells #[.string path, .string item, .int .i64 st, .int .i64 bf, .slice pl (icells ls).length cp, .int .i64 due] 30)).alloc (.cells #[.int .i64 0, .string ⟨#[]⟩, .slice none 0 0, .slice none 0 0, .int .i64 0] 25) := ⟨_, rfl⟩
  have HBW := Lib.hid (show Below w.heap.size w w0 from by rw [hw0]; exact ((box_bel' w _).alloc (box_bel' w _).size _).alloc (by simp; omega) _)
  have HQ := Lib.hid (show w0.heap[w.heap.size]? = some (.cells #[.int .i64 id, .string mo, .slice a is.length ca, .slice a2 ds.length ca2, .int .i64 cl] 25 (0, 0)) from by rw [hw0]; exact three_old w _ _ _)
  have HQ2 := Lib.hid (show w0.heap[w.heap.size + 1]? = some (.cells #[.string path, .string item, .int .i64 st, .int .i64 bf, .slice pl (icells ls).length cp, .int .i64 due] 30 (0, 0)) from by rw [hw0]; exact three_mid w _ _ _)
  have HQ3 := Lib.hid (show w0.heap[w.heap.size + 2]? = some (.cells #[.int .i64 0, .string ⟨#[]⟩, .slice none 0 0, .slice none 0 0, .int .i64 0] 25 (0, 0)) from by rw [hw0]; exact three_new w _ _ _)
  have HSW := Lib.hid (show w0.heap.size = w.heap.size + 3 from by rw [hw0]; simp)
  have HW0 := Lib.hid hw0
  clear h hx hs hs2 hc4 hc5 hd4 hps hxp hxl hw0
  go_enter Try.func22, Try.ntmps22
  go_wp2_with fail
  rw [← HW0.out]
  go_cut [] (fun wx => ∃ wy, wy = wx ∧ ∃ vI vD vL, wy.heap[w.heap.size]? = some (.cells #[.int .i64 id, .string mo, vI, vD, .int .i64 cl] 25 (0, 0)) ∧ wy.heap[w.heap.size + 1]? = some (.cells #[.string path, .string item, .int .i64 st, .int .i64 bf, vL, .int .i64 due] 30 (0, 0)) ∧ wy.heap[w.heap.size + 2]? = some (.cells #[.int .i64 0, .string ⟨#[]⟩, .slice none 0 0, .slice none 0 0, .int .i64 0] 25 (0, 0)) ∧ InstsOwn wy (w.heap.size + 3) vI is ∧ DocsOwn wy (w.heap.size + 3) vD ds ∧ OwnS wy (w.heap.size + 3) 3 1 vL ls.length (icells ls) ∧ Below w.heap.size w wy)
  case first =>
    obtain ⟨d0, d1, d2, d3, d4, dz⟩ := cells5 HQ.out
    obtain ⟨f0, f1, f2, f3, f4, f5, fz⟩ := cells6 HQ2.out
    go_region_law (first
      | (go_simp
         go_at_call 20
         refine (HCP.out _ ?_).mono ?_
         · first | exact HBW.out | exact HBW.out.drew | exact below_drewN HBW.out _
         rintro e w1 ⟨vI, vD, rfl, hi, hd, hb1⟩
         dsimp only at hi hd
         have hb2 : Below w0.heap.size w0 w1 := (show Below w0.heap.size w0 _ from by first | exact Below.refl _ _ | exact (Below.refl _ _).drew | exact below_drewN (Below.refl _ _) _).trans hb1
         have HB1 := Lib.hid hb2
         obtain ⟨l', k1, k2, k3⟩ := hi
         obtain ⟨pI, cI, hvI, _⟩ := (OwnS.ofRow k2).form
         have HI1 := Lib.hid (show InstsOwn w1 (w.heap.size + 3) vI is from by rw [← HSW.out]; exact ⟨l', k1, k2, k3⟩)
         obtain ⟨l2', j1, j2, j3⟩ := hd
         obtain ⟨pD, cD, hvD, _⟩ := (OwnS.ofRow j2).form
         have HD1 := Lib.hid (show DocsOwn w1 (w.heap.size + 3) vD ds from by rw [← HSW.out]; exact ⟨l2', j1, j2, j3⟩)
         subst hvI hvD
         obtain ⟨e0, e1, e2, e3, e4, e5, ez⟩ := cells6 ((hb2.block (w.heap.size + 1) (by rw [HSW.out]; omega)).trans HQ2.out)
         clear hb1 hb2 k1 k2 k3 j1 j2 j3)
      | (go_simp
         go_at_call 30
         refine (HCI.out _ ?_).mono ?_
         · have hh := HBW.out.trans (HB1.out.mono HBW.out.size)
           first | exact hh | exact hh.drew | exact below_drewN hh _
         rintro e w2 ⟨vL, rfl, hown, hb1⟩
         have hb2 : Below w1.heap.size w1 w2 := (show Below w1.heap.size w1 _ from by first | exact Below.refl _ _ | exact (Below.refl _ _).drew | exact below_drewN (Below.refl _ _) _).trans hb1
         have HB2 := Lib.hid hb2
         obtain ⟨pL, cL, hvL, _⟩ := hown.form
         subst hvL
         have HL2 := Lib.hid (show OwnS w2 (w.heap.size + 3) 3 1 _ ls.length (icells ls) from hown.up (by have := HB1.out.size; rw [HSW.out] at this; first | exact this | simpa using this))
         have hq1 : w2.heap[w.heap.size]? = some (.cells #[.int .i64 id, .string mo, .slice a is.length ca, .slice a2 ds.length ca2, .int .i64 cl] 25 (0, 0)) := (hb2.block w.heap.size (by have := HB1.out.size; rw [HSW.out] at this; omega)).trans ((HB1.out.block w.heap.size (by rw [HSW.out]; omega)).trans HQ.out)
         have hq2 : w2.heap[w.heap.size + 1]? = some (.cells #[.string path, .string item, .int .i64 st, .int .i64 bf, .slice pl (icells ls).length cp, .int .i64 due] 30 (0, 0)) := (hb2.block (w.heap.size + 1) (by have := HB1.out.size; rw [HSW.out] at this; omega)).trans ((HB1.out.block (w.heap.size + 1) (by rw [HSW.out]; omega)).trans HQ2.out)
         have HQ4 := Lib.hid hq1
         have HQ5 := Lib.hid hq2
         obtain ⟨g0, g1, g2, g3, g4, gz⟩ := cells5 hq1
         obtain ⟨k0, k1, k2, k3, k4, k5, kz⟩ := cells6 hq2
         clear hown hb1 hb2 hq1 hq2)
      | fail "no arm")
    all_goals
      clear d0 d1 d2 d3 d4 dz f0 f1 f2 f3 f4 f5 fz e0 e1 e2 e3 e4 e5 ez g0 g1 g2 g3 g4 gz k0 k1 k2 k3 k4 k5 kz
      go_wp2_with fail
      go_meet
      refine ⟨_, rfl, _, _, _, (putI_far _ _ _ (by omega) _ _ _ _ _ _).trans (putC_at HQ4.out _ _ _ _ _), putI_at ((putC_far w2 w.heap.size (w.heap.size + 1) (by omega) _ _ _ _ _).trans HQ5.out) _ _ _ _ _ _, ?_, ?_, ?_, ?_, ?_⟩
      · exact (putI_far _ _ _ (by omega) _ _ _ _ _ _).trans ((putC_far w2 w.heap.size (w.heap.size + 2) (by omega) _ _ _ _ _).trans ((HB2.out.block (w.heap.size + 2) (by have := HB1.out.size; rw [HSW.out] at this; omega)).trans ((HB1.out.block (w.heap.size + 2) (by rw [HSW.out]; omega)).trans HQ3.out)))
      · exact (HI1.out.below HB2.out).kept fun b hb _ => (putI_far _ _ _ (by omega) _ _ _ _ _ _).trans (putC_far w2 w.heap.size b (by omega) _ _ _ _ _)
      · exact (HD1.out.below HB2.out).kept fun b hb _ => (putI_far _ _ _ (by omega) _ _ _ _ _ _).trans (putC_far w2 w.heap.size b (by omega) _ _ _ _ _)
      · exact HL2.out.keep fun b hb => (by have := HL2.out.base b hb; exact (putI_far _ _ _ (by omega) _ _ _ _ _ _).trans (putC_far w2 w.heap.size b (by omega) _ _ _ _ _))
      · have hh := HBW.out.trans (HB1.out.mono HBW.out.size)
        exact putI_below (putC_below (hh.trans (HB2.out.mono hh.size)) (Nat.le_refl _) _ _ _ _ _) (by omega) _ _ _ _ _ _
  case rest =>
    obtain ⟨wy, rfl, vI, vD, vL, hq, hq2, hq3, hi, hd, hl, hb⟩ := hcut
    have HIO := Lib.hid hi
    have HDO := Lib.hid hd
    have HLO := Lib.hid hl
    have HB := Lib.hid hb
    obtain ⟨lq, hlq, hbq⟩ := hi.is (w0 := w) HIV.out
    have HLQ := Lib.hid hlq
    obtain ⟨l', h1, h2, h3⟩ := hi
    have hlen : l'.length = is.length := by simpa using congrArg List.length h1
    obtain ⟨pI, cI, hvI, -⟩ := (OwnS.ofRow h2).form
    obtain ⟨pD, cD, hvD⟩ := hd.form
    obtain ⟨pL, cL, hvL, -⟩ := hl.form
    rw [hlen] at hvI
    subst hvI hvD hvL
    have H1 := Lib.hid h1
    have H2 := Lib.hid h2
    have H3 := Lib.hid h3
    have HQA := Lib.hid hq
    have HQB := Lib.hid hq2
    have HQC := Lib.hid hq3
    have HLN := Lib.hid hlen
    have hE1 := idxZ_bare (f := hasP path) (fun _ => rfl) hbq
    have hE2 := idxZ_bare (f := gtP path) (fun _ => rfl) hbq
    have HPQ := Lib.hid (show ∀ y ∈ lq, y.path.size ≤ 400 from fun y hy => by
      have : y.bare ∈ lq.map IV.bare := List.mem_map.2 ⟨y, hy, rfl⟩
      rw [hbq] at this
      obtain ⟨z, hz, he⟩ := List.mem_map.1 this
      have := HPS.out z hz
      rwa [show z.path = y.path from by have := congrArg IV.path he; exact this] at this)
    have HIX := Lib.hid (fun (W : World) (hb : Below wy.heap.size wy W) => indexZ_c W (.slice pI is.length cI) lq (HLQ.out.below hb) path)
    have HIP := Lib.hid (fun (W : World) (hb : Below wy.heap.size wy W) => indexP_c W (.slice pI is.length cI) lq (HLQ.out.below hb) (w.heap.size + 1) path (Nat.lt_of_lt_of_le (Array.getElem?_eq_some_iff.1 HQB.out).1 hb.size) ((hb.cell (p := ⟨w.heap.size + 1, 0, none⟩) (Array.getElem?_eq_some_iff.1 HQB.out).1).trans (cells6 HQB.out).1) HPQ.out HXP.out)
    simp only [hE1] at HIX
    simp only [hE2] at HIP
    have HCC := Lib.hid (fun (W : World) (hb : Below wy.heap.size wy W) => cells5 ((hb.block w.heap.size (Array.getElem?_eq_some_iff.1 HQA.out).1).trans HQA.out))
    have HCI := Lib.hid (fun (W : World) (hb : Below wy.heap.size wy W) => cells6 ((hb.block (w.heap.size + 1) (Array.getElem?_eq_some_iff.1 HQB.out).1).trans HQB.out))
    have HCZ := Lib.hid (fun (W : World) (hb : Below wy.heap.size wy W) => cells5 ((hb.block (w.heap.size + 2) (Array.getElem?_eq_some_iff.1 HQC.out).1).trans HQC.out))
    clear hq hq2 hq3 hd hl hb hlq hbq h1 h2 h3 hlen hE1 hE2
    obtain ⟨d0, d1, d2, d3, d4, dz⟩ := HCC.out wy (Below.refl _ _)
    obtain ⟨f0, f1, f2, f3, f4, f5, fz⟩ := HCI.out wy (Below.refl _ _)
    by_cases hk : is.findIdx (hasP path) < is.length
    · obtain ⟨k, hkk⟩ : ∃ k, is.findIdx (hasP path) = k := ⟨_, rfl⟩
      have hz : idxZ (hasP path) is = (k : Int) := by unfold idxZ; rw [if_pos hk, hkk]
      have HPF := Lib.hid (show putF is ⟨path, item, st, bf, .slice pl (icells ls).length cp, ls, due⟩ = is.set k ⟨path, item, st, bf, .slice pl (icells ls).length cp, ls, due⟩ from by unfold putF; rw [if_pos hk, hkk])
      rw [hkk] at hk
      simp only [hz] at HIX
      clear hz hkk HIP
      go_wp2_with fail
      refine (HIX.out _ (Below.refl _ _)).mono ?_
      rintro e w3 ⟨rfl, hb3⟩
      have HB3 := Lib.hid hb3
      clear d0 d1 d2 d3 d4 dz f0 f1 f2 f3 f4 f5 fz hb3
      obtain ⟨d0, d1, d2, d3, d4, dz⟩ := HCC.out w3 HB3.out
      obtain ⟨f0, f1, f2, f3, f4, f5, fz⟩ := HCI.out w3 HB3.out
      obtain ⟨e0, e1, e2, e3, e4, ez⟩ := HCZ.out w3 HB3.out
      have hlen := HLN.out
      have h2 := ownr_below H2.out HB3.out
      rcases h2.2 with ⟨hv0, hn0⟩ | ⟨g, cap, cur, hv0, hbg, hg, hnc, hcm, hcs, htk⟩
      · omega
      · simp only [Value.slice.injEq] at hv0
        obtain ⟨rfl, hl0, rfl⟩ := hv0
        have hkc : k * 6 + 6 ≤ cur.size := by have := Nat.mul_le_mul_right 6 hnc; omega
        have hat : ∀ j, j < 6 → ∃ u, w3.cell? ⟨g, k * 6 + j, none⟩ = some u := fun j hj => by
          rw [cell_of_row w3 g (k * 6 + j) cur 30 (0, 0) hg]
          exact ⟨_, Array.getElem?_eq_getElem (by omega)⟩
        obtain ⟨u0, s0⟩ := hat 0 (by omega)
        obtain ⟨u1, s1⟩ := hat 1 (by omega)
        obtain ⟨u2, s2⟩ := hat 2 (by omega)
        obtain ⟨u3, s3⟩ := hat 3 (by omega)
        obtain ⟨u4, s4⟩ := hat 4 (by omega)
        obtain ⟨u5, s5⟩ := hat 5 (by omega)
        rw [Nat.add_zero] at s0
        have sz : ∀ o, w3.frozen? ⟨g, o, none⟩ = false := fun o => by simp [World.frozen?, hg]
        have hgw : w.heap.size + 3 ≤ g := hbg
        have hne2 : g ≠ w.heap.size := by omega
        have HG := Lib.hid (And.intro hgw hg)
        have HSET := Lib.hid (InstsOwn.set (y := ⟨path, item, st, bf, .slice pl (icells ls).length cp, ls, due⟩) (x := ⟨path, item, st, bf, .slice pL ls.length cL, ls, due⟩) (n := is.length) H1.out h2 (fun z hz => ownS_below (H3.out z hz) HB3.out) (ownS_below HLO.out HB3.out) rfl (k := k) (by omega))
        have HQZ := Lib.hid ((HB3.out.block (w.heap.size + 2) (Array.getElem?_eq_some_iff.1 HQC.out).1).trans HQC.out)
        clear h2 hat hcs htk hnc hcm hbg hg hl0 hkc
        go_wp2_with fail
        refine bodyPost_ret (results_cell_row Try.results22 _ _ (w.heap.size + 2) 25 _ (0, 0) _ rfl (putC_at ((putR_far w3 g (k * 6) (w.heap.size + 2) (by have := HG.out.1; omega) _ _ _ _ _ _).trans HQZ.out) _ _ _ _ _) Try.underlying25 rfl infoC5) rfl ?_
        refine ⟨_, _, rfl, ?_, ?_, ?_⟩
        · rw [HPF.out]
          exact (HSET.out.kept fun b hb _ => putC_far _ (w.heap.size + 2) b (by omega) _ _ _ _ _).up (by omega)
        · exact ((DocsOwn.far (HDO.out.below HB3.out) (by decide) (by decide) HG.out.2 (fun b hb => putR_far w3 g (k * 6) b hb _ _ _ _ _ _)).kept fun b hb _ => putC_far _ (w.heap.size + 2) b (by omega) _ _ _ _ _).up (by omega)
        · exact putC_below (putR_below (HB.out.trans (HB3.out.mono HB.out.size)) (by have := HG.out.1; omega) _ _ _ _ _ _ _) (by omega) _ _ _ _ _
    · have hz : idxZ (hasP path) is = -1 := by unfold idxZ; rw [if_neg hk]
      obtain ⟨j, hjj⟩ : ∃ j, is.findIdx (gtP path) = j := ⟨_, rfl⟩
      have hjl : j ≤ is.length := by rw [← hjj]; exact List.findIdx_le_length
      have HPF := Lib.hid (show putF is ⟨path, item, st, bf, .slice pl (icells ls).length cp, ls, due⟩ = is.take j ++ [⟨path, item, st, bf, .slice pl (icells ls).length cp, ls, due⟩] ++ is.drop j from by unfold putF; rw [if_neg hk, hjj])
      simp only [hz] at HIX
      have hjz : idxZ (gtP path) is = if j < is.length then (j : Int) else -1 := by unfold idxZ; rw [hjj]
      simp only [hjz] at HIP
      clear hz hjj hk hjz
      have HONE := Lib.hid (flatI_one l' (fun z hz u hu => by
        obtain ⟨pz, cz, hzz, -⟩ := (H3.out z hz).form
        simp only [IV.cells, List.mem_cons, List.not_mem_nil, or_false, hzz] at hu
        rcases hu with rfl | rfl | rfl | rfl | rfl | rfl <;> rfl))
      have hn63 : is.length ≤ 1000 := HC4.out
      by_cases hj : j < is.length
      all_goals
        first
        | (rw [if_pos hj] at HIP)
        | (rw [if_neg hj] at HIP; have hje : j = is.length := by omega
           subst hje)
        go_wp2_with fail
        refine (HIX.out _ (Below.refl _ _)).mono ?_
        rintro e w3 ⟨rfl, hb3⟩
        have HB3 := Lib.hid hb3
        clear d0 d1 d2 d3 d4 dz f0 f1 f2 f3 f4 f5 fz hb3
        obtain ⟨d0, d1, d2, d3, d4, dz⟩ := HCC.out w3 HB3.out
        go_wp2_with fail
        refine (HIP.out _ HB3.out).mono ?_
        rintro e w4 ⟨rfl, hb4⟩
        have HB4 := Lib.hid (HB3.out.trans (hb4.mono HB3.out.size))
        clear d0 d1 d2 d3 d4 dz hb4
        obtain ⟨d0, d1, d2, d3, d4, dz⟩ := HCC.out w4 HB4.out
        obtain ⟨f0, f1, f2, f3, f4, f5, fz⟩ := HCI.out w4 HB4.out
        go_wp2_with fail
        have HB5 := Lib.hid (show Below wy.heap.size wy (w4.alloc (.cells #[.string path, .string item, .int .i64 st, .int .i64 bf, .slice pL ls.length cL, .int .i64 due] 30)) from HB4.out.alloc HB4.out.size _)
        have h2 := ownr_below H2.out HB5.out
        have HH2 := Lib.hid h2
        have hs3 : w.heap.size + 3 ≤ w4.heap.size := by have h1 := (Array.getElem?_eq_some_iff.1 HQC.out).1; have h3 := HB4.out.size; omega
        have HS3 := Lib.hid hs3
        rw [HLN.out] at h2
        refine (ins_c _ (w.heap.size + 3) is.length (flatI l') _ h2 _ hjl w4.heap.size _ _ _ _ _ _ (fun g hg => by have := (ownr_lt (ownr_below H2.out HB4.out) g hg).2; omega) HONE.out (heap_alloc_new w4 _) (by simp [Value.oneCell']) hn63 (by simp; omega)).mono ?_
        rintro e w5 ⟨v5, rfl, hown5, hg5⟩
        obtain ⟨p5, c5, hv5, -⟩ := (OwnS.ofRow hown5).form
        subst hv5
        have HO5 := Lib.hid hown5
        have HG5 := Lib.hid hg5
        have HK5 := Lib.hid (show ∀ b, b < w.heap.size + 3 → w5.heap[b]? = wy.heap[b]? from fun b hb => (hg5.block b (by simp; omega) (fun he => by have := (ownr_lt H2.out b he.symm).1; omega)).trans (HB5.out.block b (by have h1 := (Array.getElem?_eq_some_iff.1 HQC.out).1; omega)))
        clear h2 hown5 hg5 hs3 d0 d1 d2 d3 d4 dz f0 f1 f2 f3 f4 f5 fz
        obtain ⟨d0, d1, d2, d3, d4, dz⟩ := cells5 ((HK5.out w.heap.size (by omega)).trans HQA.out)
        obtain ⟨e0, e1, e2, e3, e4, ez⟩ := cells5 ((HK5.out (w.heap.size + 2) (by omega)).trans HQC.out)
        go_wp2_with fail
        refine bodyPost_ret (results_cell_row Try.results22 _ _ (w.heap.size + 2) 25 _ (0, 0) _ rfl (putC_at ((Below.heap_setCell w5 ⟨w.heap.size, 2, none⟩ _ (w.heap.size + 2) (by show w.heap.size + 2 ≠ w.heap.size; omega)).trans ((HK5.out (w.heap.size + 2) (by omega)).trans HQC.out)) _ _ _ _ _) Try.underlying25 rfl infoC5) rfl ?_
        refine ⟨_, _, rfl, ?_, ?_, ?_⟩
        · rw [HPF.out]
          have hI := (InstsOwn.ins (y := ⟨path, item, st, bf, .slice pl (icells ls).length cp, ls, due⟩) (x := ⟨path, item, st, bf, .slice pL ls.length cL, ls, due⟩) H1.out HH2.out (fun z hz => ownS_below (H3.out z hz) HB5.out) (ownS_below HLO.out HB5.out) rfl (by rw [HLN.out]; exact hjl) (by rw [HLN.out]; exact HO5.out) HG5.out)
          refine InstsOwn.up (b' := w.heap.size) (base := w.heap.size + 3) (hI.kept fun b hb _ => (putC_far _ (w.heap.size + 2) b (by omega) _ _ _ _ _).trans (Below.heap_setCell w5 ⟨w.heap.size, 2, none⟩ _ b (by show b ≠ w.heap.size; omega))) (by omega)
        · have hD := DocsOwn.grow (HDO.out.below HB5.out) (by decide) (by decide) HH2.out HG5.out
          refine DocsOwn.up (b' := w.heap.size) (base := w.heap.size + 3) (hD.kept fun b hb _ => (putC_far _ (w.heap.size + 2) b (by omega) _ _ _ _ _).trans (Below.heap_setCell w5 ⟨w.heap.size, 2, none⟩ _ b (by show b ≠ w.heap.size; omega))) (by omega)
        · have hb := (HB.out.trans (HB5.out.mono HB.out.size)).grown HG5.out (by have := HS3.out; simp; omega) (fun g hg => by have := (ownr_lt H2.out g hg).1; omega)
          exact putC_below (hb.setCell (p := ⟨w.heap.size, 2, none⟩) (Nat.le_refl _) _) (by omega) _ _ _ _ _
end Go.Proofs.Ytncloiimbclklaa

/- append onto a row that the call owns, of a slice at an address or of a nil slice; as one step of a region that draws. -/
namespace Go.Proofs.Ytncloiimbclklaa
open Go Go.RowKit Go.Shelf
set_option linter.unusedVariables false
set_option linter.unusedSimpArgs false

/-- A slice at an address with its cells, or a nil slice. -/
def SrcAt (w : World) (size : Nat) (x : Value) (m : Nat) (news : List Value) : Prop :=
  (∃ a c, x = .slice (some a) m c ∧ news.length = m * size ∧ (∀ j u, news[j]? = some u → w.cell? (a.add j) = some u) ∧ ∀ u ∈ news, u.oneCell' = true) ∨ (x = .slice none 0 0 ∧ m = 0 ∧ news = [])

section
variable {P : Program}
theorem run_append_R (w : World) (base : Nat) (t ty e : TypeId) (i : TypeInfo) (z : Value) (size bytes : Nat) (ht : P.underlying t = some (.slice e)) (hi : P.info? e = some i) (hz : i.zero = some z)
    (hsize : i.size = size) (hby : i.bytes = bytes) (hzs : z.cells.size = size) (hpos : 0 < size)
    (v : Value) (n : Nat) (xs : List Value) (hown : w.ownsRow base e size v n xs) (x : Value) (m : Nat) (news : List Value) (hs : SrcAt w size x m news)
    (h63 : n + m ≤ maxLen) (hbytes : (n + m) * bytes ≤ 140737488355328) (hbase : base ≤ w.heap.size) :
    ∃ v' w', (Builtin.append_ #[t, t] ty #[v, x]).run P w = .ok v' w' ∧ w'.ownsRow base e size v' (n + m) (xs ++ news) ∧ w.grownBy w' v.ownBlock := by
  rcases hs with ⟨a, c, rfl, hl, hn, h1⟩ | ⟨rfl, rfl, rfl⟩
  · obtain ⟨v', w', hr, ho, hg, -⟩ := run_append_own (P := P) w base t ty e i z size bytes ht hi hz hsize hby hzs hpos v n xs hown a m c news hl hn h1 h63 hbytes hbase
    exact ⟨v', w', hr, ho, hg⟩
  · rw [List.append_nil, Nat.add_zero]
    rcases hown.2 with ⟨hv, hn0⟩ | ⟨g, cap, cur, hv, hbg, hg, hnc, hcm, hcs, htk⟩
    · subst hv hn0
      refine ⟨.slice none 0 0, w, ?_, hown, World.grownBy.refl w _⟩
      simp [Builtin.append_, run_underlying ht, sizeOf, typeInfo, hi, Builtin.lenOf, Builtin.firstCells]
    · subst hv
      refine ⟨.slice (some ⟨g, 0, none⟩) n cap, w, ?_, hown, World.grownBy.refl w _⟩
      simp [Builtin.append_, run_underlying ht, sizeOf, typeInfo, hi, Builtin.lenOf, Builtin.firstCells, hnc, storeCells]

theorem step_append_R {ops : Array Oper} {o : Oper} {a : Act} {w : World} {Q : Exit → Act → World → Prop} {K : Act → World → Prop} {E : Prop} (hgd : o.guard = none) (s x : Operand) (t : TypeId)
    (ho : o.op = .call { callee := .builtin .append, args := #[s, x], argTypes := #[t, t] })
    (base : Nat) (e : TypeId) (i : TypeInfo) (z : Value) (size bytes : Nat) (ht : P.underlying t = some (.slice e)) (hi : P.info? e = some i) (hz : i.zero = some z)
    (hsize : i.size = size) (hby : i.bytes = bytes) (hzs : z.cells.size = size) (hpos : 0 < size)
    (v : Value) (n : Nat) (xs : List Value) (hs : a.eval s = v) (hown : w.ownsRow base e size v n xs) (xv : Value) (m : Nat) (news : List Value) (hx : a.eval x = xv) (hsrc : SrcAt w size xv m news)
    (h63 : n + m ≤ maxLen) (hbytes : (n + m) * bytes ≤ 140737488355328) (hbase : base ≤ w.heap.size)
    (h : ∀ v' w', w'.ownsRow base e size v' (n + m) (xs ++ news) → w.grownBy w' v.ownBlock → K (a.put o.dst v') w') :
    if Region.wanted o (yielded ops a.tmps) = true then Oper.wp P o a w K Q else E := by
  have hw : Region.wanted o (yielded ops a.tmps) = true := by simp [Region.wanted, hgd]
  rw [if_pos hw]
  obtain ⟨v', w', hr, h2, h3⟩ := run_append_R (P := P) w base t o.type e i z size bytes ht hi hz hsize hby hzs hpos v n xs hown xv m news hsrc h63 hbytes hbase
  unfold Oper.wp execOp
  simp only [ho, resolve, invoke, builtin, Sem.run_bind, Sem.run_pure, Result.andThen_ok, List.map_toArray, List.map_cons, List.map_nil, hs, hx, hr]
  exact h v' w' h2 h3
end
theorem SrcAt.below {w w' : World} {size : Nat} {x : Value} {m : Nat} {news : List Value} (h : SrcAt w size x m news) (hpos : 0 < size) (hb : ∀ b o u, w.cell? ⟨b, o, none⟩ = some u → w'.cell? ⟨b, o, none⟩ = some u) (hsp : ∀ a c, x = .slice (some a) m c → a.spot = none) : SrcAt w' size x m news := by
  rcases h with ⟨a, c, hx, hl, hn, h1⟩ | h
  · obtain ⟨b, o, sp⟩ := a
    have := hsp _ c hx
    subst this
    refine .inl ⟨_, c, hx, hl, fun j u hj => ?_, h1⟩
    have := hn j u hj
    rw [Addr.add_lit] at this ⊢
    exact hb _ _ _ this
  · exact .inr h
/-- A piece of a row, wherever it is cut. -/
theorem row_piece {w : World} {b g n cap o m c : Nat} {e : TypeId} {xs : List Value} (hown : w.ownsRow b e 6 (.slice (some ⟨g, 0, none⟩) n cap) n xs) (hone : ∀ u ∈ xs, u.oneCell' = true) (a k : Nat) (ho : m = 0 ∨ o = a * 6) (hm : a + m ≤ n) :
    SrcAt w 6 (.slice (some ⟨g, o, none⟩) m c) m ((xs.drop (a * 6)).take (m * 6)) := by
  have hl : xs.length = n * 6 := hown.1
  refine .inl ⟨_, c, rfl, by rw [List.length_take, List.length_drop]; omega, fun j u hj => ?_, fun u hu => hone u (List.mem_of_mem_drop (List.mem_of_mem_take hu))⟩
  rw [List.getElem?_take] at hj
  split at hj
  · rw [List.getElem?_drop] at hj
    rcases ho with rfl | rfl
    · omega
    · rw [Addr.add_lit]
      have := (OwnS.ofRow hown).cell rfl _ _ hj
      rwa [Nat.zero_add] at this
  · cases hj
end Go.Proofs.Ytncloiimbclklaa
