/- Cases: a path's last part (the program's Last). Written by tools/genyp.py off tree/XVc. -/
import Derived.Test.YtllhlmdhnmdihaaDoorMi03
import Derived.Laws.StructEq
namespace Go.Proofs.YtllhlmdhnmdihaaDoor
open Go Go.RowKit Go.Shelf
set_option linter.unusedVariables false
set_option linter.unusedSimpArgs false

set_option maxRecDepth 100000 in
set_option maxHeartbeats 2000000 in
theorem lastT_c (w : World) (s : ByteArray) (hs : s.size ≤ 140737488355328) : Calls Tryd.prog 29 #[.string s] w fun e w' => e = .returned (pairV (lastB s)) ∧ Below w.heap.size w w' := by
  have HL1 := fun w => Tryd.strings_LastIndex s ⟨#[47]⟩ (by omega) w
  rw [show (⟨#[47]⟩ : ByteArray).data.toList = [47] from rfl] at HL1
  obtain ⟨j, hj, hjs⟩ := last47' s
  have hts : (s.extract j s.size).size ≤ 140737488355328 := by rw [ByteArray.size_extract]; omega
  have HLB := Lib.hid (show lastB s = lastP (s.extract j s.size).data.toList from by unfold lastB; rw [hj, cutFrom]; simp)
  obtain ⟨t, ht⟩ : ∃ t, s.extract j s.size = t := ⟨_, rfl⟩
  rw [ht] at HLB hts
  obtain ⟨z0, hz0⟩ : ∃ z, Lib.lastIndex s.data.toList [47] = z := ⟨_, rfl⟩
  rw [hz0] at HL1 hj
  obtain rfl : z0 = (j : Int) - 1 := by omega
  have HL1 := Lib.hid HL1
  have hw : (j : Int) - 1 + 1 = (j : Int) := by omega
  have hw2 : (j : Int) ≤ 140737488355328 := by omega
  clear hz0 hj
  have HL2 := fun w => Tryd.strings_LastIndex t ⟨#[46]⟩ (by omega) w
  rw [show (⟨#[46]⟩ : ByteArray).data.toList = [46] from rfl] at HL2
  obtain ⟨z, hz⟩ : ∃ z, Lib.lastIndex t.data.toList [46] = z := ⟨_, rfl⟩
  rw [hz] at HL2
  have HL2 := Lib.hid HL2
  by_cases h1 : z < 1
  · have hd : decide (z < 1) = true := decide_eq_true h1
    have HP := Lib.hid (lastP_off _ _ hz h1)
    clear hz
    go_enter Tryd.func29, Tryd.ntmps29
    go_wp2_with (first
      | (go_at_call 43; with_reducible refine (HL2.out _).mono ?_; rintro e w' ⟨rfl, rfl⟩)
      | (go_at_call 43; with_reducible refine (HL1.out _).mono ?_; rintro e w' ⟨rfl, rfl⟩))
    go_ret2
    exact ⟨by rw [HLB.out, HP.out]; rfl, Below.refl _ _⟩
  · obtain ⟨k, rfl⟩ : ∃ k : Nat, z = (k : Int) := ⟨z.toNat, by omega⟩
    have hk : k < t.size := by
      have := lastIs_lib t.data.toList 46
      rw [hz] at this
      rcases this with ⟨e, _⟩ | ⟨j, e, hj, _⟩
      · omega
      · have : t.data.toList.length = t.size := Array.length_toList
        omega
    have hd : decide ((k : Int) < 1) = false := decide_eq_false h1
    have hk1 : k + 1 ≤ t.size := hk
    have hk0 : k ≤ t.size := by omega
    have HN := Lib.hid (fun w => number_c w (t.extract (k + 1) t.size) (by rw [ByteArray.size_extract]; omega))
    have he : tb (t.extract (k + 1) t.size) = t.data.toList.drop (k + 1) := by rw [cutFrom]; rfl
    rw [he] at HN
    have HP1 := Lib.hid (lastP_bad _ _ hz)
    have HP2 := Lib.hid (lastP_ok _ _ hz (by omega))
    rw [show ((k : Int)).toNat = k from by omega] at HP1 HP2
    have HC := Lib.hid (cutTo t k)
    obtain ⟨n, hn⟩ : ∃ n, (num (t.data.toList.drop (k + 1))).1 = n := ⟨_, rfl⟩
    obtain ⟨q, hq⟩ : ∃ q, (num (t.data.toList.drop (k + 1))).2 = q := ⟨_, rfl⟩
    rw [hn, hq] at HN HP1 HP2
    clear hn hq hz he h1 hk
    by_cases hq0 : q = 0
    · subst hq0
      by_cases hn1 : n < 1
      · have hdn : decide (n < 1) = true := decide_eq_true hn1
        have HP := Lib.hid (HP1.out (.inr hn1))
        clear HP1 HP2 hn1
        go_enter Tryd.func29, Tryd.ntmps29
        go_wp2_with (first
          | (go_at_call 44; refine (HN.out _).mono ?_; rintro e w' ⟨rfl, rfl⟩)
          | (go_at_call 43; with_reducible refine (HL2.out _).mono ?_; rintro e w' ⟨rfl, rfl⟩)
          | (go_at_call 43; with_reducible refine (HL1.out _).mono ?_; rintro e w' ⟨rfl, rfl⟩))
        go_ret2
        exact ⟨by rw [HLB.out, HP.out]; rfl, Below.refl _ _⟩
      · have hdn : decide (n < 1) = false := decide_eq_false hn1
        have HP := Lib.hid (HP2.out rfl (by omega))
        clear HP1 HP2 hn1
        go_enter Tryd.func29, Tryd.ntmps29
        go_wp2_with (first
          | (go_at_call 44; refine (HN.out _).mono ?_; rintro e w' ⟨rfl, rfl⟩)
          | (go_at_call 43; with_reducible refine (HL2.out _).mono ?_; rintro e w' ⟨rfl, rfl⟩)
          | (go_at_call 43; with_reducible refine (HL1.out _).mono ?_; rintro e w' ⟨rfl, rfl⟩))
        go_ret2
        exact ⟨by rw [HLB.out, HP.out]; unfold pairV; rw [← HC.out]; rfl, Below.refl _ _⟩
    · have hqb : ((q : Int) != 0) = true := by simpa using hq0
      have HP := Lib.hid (HP1.out (.inl hq0))
      clear HP1 HP2 hq0
      go_enter Tryd.func29, Tryd.ntmps29
      go_wp2_with (first
        | (go_at_call 44; refine (HN.out _).mono ?_; rintro e w' ⟨rfl, rfl⟩)
        | (go_at_call 43; with_reducible refine (HL2.out _).mono ?_; rintro e w' ⟨rfl, rfl⟩)
        | (go_at_call 43; with_reducible refine (HL1.out _).mono ?_; rintro e w' ⟨rfl, rfl⟩))
      go_ret2
      exact ⟨by rw [HLB.out, HP.out]; rfl, Below.refl _ _⟩
end Go.Proofs.YtllhlmdhnmdihaaDoor

/- Cases: the number of a further instance. Written by tools/genyq.py. -/
namespace Go.Proofs.YtllhlmdhnmdihaaDoor
open Go Go.RowKit Go.Shelf
set_option linter.unusedVariables false
set_option linter.unusedSimpArgs false

def iB (x : IV) : ByteArray := ⟨(lastB x.path).1.toArray⟩
def iN (x : IV) : Int := (lastB x.path).2
theorem lastP_zero (l : List UInt8) : (lastP l).2 = 0 ∨ 1 ≤ (lastP l).2 := by
  unfold lastP
  dsimp only
  split
  · exact .inl rfl
  · split
    · exact .inl rfl
    · rename_i h
      exact .inr (by omega)
theorem iN_zero (x : IV) : iN x = 0 ∨ 1 ≤ iN x := lastP_zero _
def stepN (u item : ByteArray) (n : Int) (x : IV) : Int := if ((iB x).toList == item.toList) && kidP u x then max n (iN x) else n
def rstepN (item : ByteArray) (n : Int) (x : IV) : Int := if decide (0 < iN x) && ((iB x).toList == item.toList) then max n (iN x) else n
def nxt (u item : ByteArray) (l : List IV) : Int := l.foldl (stepN u item) 0
def rnxt (item : ByteArray) (l : List IV) : Int := l.foldl (rstepN item) 0
theorem stepN_pos (u item : ByteArray) (n : Int) (x : IV) (h : 0 ≤ n) : 0 ≤ stepN u item n x := by unfold stepN; split <;> omega
theorem rstepN_pos (item : ByteArray) (n : Int) (x : IV) (h : 0 ≤ n) : 0 ≤ rstepN item n x := by unfold rstepN; split <;> omega
theorem fold_pos {f : Int → IV → Int} (hf : ∀ n x, 0 ≤ n → 0 ≤ f n x) : ∀ (l : List IV) (n : Int), 0 ≤ n → 0 ≤ l.foldl f n
  | [], _, h => h
  | x :: r, n, h => fold_pos hf r _ (hf n x h)
theorem nxt_fold (u item : ByteArray) : ∀ (l : List IV) (n : Int), 0 ≤ n → (l.filter (kidP u)).foldl (rstepN item) n = l.foldl (stepN u item) n
  | [], _, _ => rfl
  | x :: r, n, h => by
    by_cases hk : kidP u x = true
    · rw [List.filter_cons_of_pos hk]
      show (r.filter (kidP u)).foldl (rstepN item) (rstepN item n x) = r.foldl (stepN u item) (stepN u item n x)
      rw [nxt_fold u item r _ (rstepN_pos item n x h)]
      congr 1
      unfold rstepN stepN
      rw [hk]
      rcases iN_zero x with e | e
      · rw [e]
        cases ((iB x).toList == item.toList)
        · simp
        · simp; omega
      · rw [decide_eq_true (show 0 < iN x by omega)]
        simp
    · rw [List.filter_cons_of_neg hk]
      show (r.filter (kidP u)).foldl (rstepN item) n = r.foldl (stepN u item) (stepN u item n x)
      rw [show stepN u item n x = n from by unfold stepN; rw [show kidP u x = false from by simpa using hk]; simp]
      exact nxt_fold u item r n h
theorem rstepN_bare (item : ByteArray) (n : Int) (x : IV) : rstepN item n x.bare = rstepN item n x := rfl
theorem rnxt_bare (item : ByteArray) (l : List IV) : ∀ n, (l.map IV.bare).foldl (rstepN item) n = l.foldl (rstepN item) n := by
  induction l with
  | nil => intro n; rfl
  | cons x r ih => intro n; exact ih _
theorem rnxt_eq (u item : ByteArray) (l l' : List IV) (h : l'.map IV.bare = (l.filter (kidP u)).map IV.bare) : rnxt item l' = nxt u item l := by
  unfold rnxt nxt
  rw [← rnxt_bare item l', h, rnxt_bare, nxt_fold u item l 0 (Int.le_refl 0)]
theorem fold_take {f : Int → IV → Int} {l : List IV} {k : Nat} (h : k < l.length) : (l.take (k + 1)).foldl f 0 = f ((l.take k).foldl f 0) l[k] := by
  rw [List.take_succ_eq_append_getElem h, List.foldl_append]
  rfl

end Go.Proofs.YtllhlmdhnmdihaaDoor

/- Cases: the number of a further instance (the reference's). Written by tools/genyr.py. -/
namespace Go.Proofs.YtllhlmdhnmdihaaDoor
open Go Go.RowKit Go.Shelf
set_option linter.unusedVariables false
set_option linter.unusedSimpArgs false

end Go.Proofs.YtllhlmdhnmdihaaDoor

/- Cases: whether two lists of texts are the same (the reference's). Written by tools/genys.py. -/
namespace Go.Proofs.YtllhlmdhnmdihaaDoor
open Go Go.RowKit Go.Shelf
set_option linter.unusedVariables false
set_option linter.unusedSimpArgs false

theorem bytes_ext {a b : ByteArray} (h : a.toList = b.toList) : a = b := by
  rw [ByteArray.toList_eq, ByteArray.toList_eq] at h
  exact ByteArray.ext (Array.toList_inj.1 h)
def sameT (x y : List ByteArray) : Bool := decide (x.length = y.length) && decide (x = y)

set_option maxRecDepth 100000 in
set_option maxHeartbeats 2000000 in
theorem sameTexts_c (w : World) (v1 v2 : Value) (x y : List ByteArray) (h1 : RdV w v1 (tcells x)) (h2 : RdV w v2 (tcells y)) : Calls Tryd.prog 30 #[v1, v2] w fun e w' => e = .returned (.bool (sameT x y)) ∧ ∃ d, w' = w.drewN d := by
  obtain ⟨R, hR⟩ : ∃ R, R = sameT x y := ⟨_, rfl⟩
  have HR := Lib.hid hR
  rw [← hR]
  clear hR
  unfold sameT at HR
  obtain ⟨p, cp, hlv⟩ := h1.form
  obtain ⟨p2, cp2, hlv2⟩ := h2.form
  subst hlv hlv2
  have hlen : (tcells x).length = x.length := by simp [tcells]
  have hlen2 : (tcells y).length = y.length := by simp [tcells]
  rw [hlen] at h1 ⊢
  rw [hlen2] at h2 ⊢
  have hn1 : x.length ≤ 9223372036854775807 := by obtain ⟨p', c', e, g1, g2, _⟩ := h1; rw [hlen] at g1; unfold maxLen at g2; omega
  have HC1 := Lib.hid (fun k (hk : k < x.length) => h1.at (k := k) (u := .string x[k]) (by rw [hlen]; exact hk) (by simp [tcells, hk]))
  have HC2 := Lib.hid (fun k (hk : k < y.length) => h2.at (k := k) (u := .string y[k]) (by rw [hlen2]; exact hk) (by simp [tcells, hk]))
  clear h1 h2 hlen hlen2
  by_cases hll : x.length = y.length
  · have h7 : ((x.length : Int) != (y.length : Int)) = false := by rw [hll]; simp
    have HLL := Lib.hid hll
    have HR2 := Lib.hid (show R = decide (x = y) from by rw [HR.out, decide_eq_true hll, Bool.true_and])
    clear hll
    go_enter Tryd.func30, Tryd.ntmps30
    go_wp2_with fail
    clear h7
    go_loopw [13] (fun i wr => ∃ k d : Nat, k ≤ x.length ∧ i = .int .i64 k ∧ x.take k = y.take k ∧ wr = w.drewN d) (fun i _ => x.length - (intOf i).toNat)
    case atStart => exact ⟨0, 0, by omega, rfl, by simp, rfl⟩
    case round =>
      obtain ⟨k, d, hk, rfl, ht, rfl⟩ := hrel
      have HT := Lib.hid ht
      clear ht
      by_cases hlt : k < x.length
      · have hd : decide ((k : Int) < (x.length : Int)) = true := decide_eq_true (by omega)
        have hlt2 : k < y.length := by rw [← HLL.out]; exact hlt
        obtain ⟨b1, o1, rfl, hb1, hc1⟩ := HC1.out k hlt
        obtain ⟨b2, o2, rfl, hb2, hc2⟩ := HC2.out k hlt2
        have HG1 := Lib.hid (List.take_succ_eq_append_getElem hlt)
        have HG2 := Lib.hid (List.take_succ_eq_append_getElem hlt2)
        obtain ⟨a1, ha1⟩ : ∃ a, x[k] = a := ⟨_, rfl⟩
        obtain ⟨a2, ha2⟩ : ∃ a, y[k] = a := ⟨_, rfl⟩
        have HA1 := Lib.hid ha1
        have HA2 := Lib.hid ha2
        rw [ha1] at hc1
        rw [ha2] at hc2
        clear ha1 ha2
        by_cases he : a1 = a2
        · have HX := Lib.hid (show x.take (k + 1) = y.take (k + 1) from by rw [HG1.out, HG2.out, HT.out, HA1.out, HA2.out, he])
          have hq : (a1.toList == a2.toList) = true := by rw [he]; simp
          clear he
          go_wp2_with fail
          go_quiet (fail)
          go_wp2_with fail
          go_roundw
          case rel => exact ⟨k + 1, _, by omega, by go_num, HX.out, rfl⟩
          case measure => simp [intOf]; omega
        · have HE := Lib.hid (show R = false from by
            rw [HR2.out]
            refine decide_eq_false fun e => ?_
            subst e
            exact he (HA1.out.symm.trans HA2.out))
          have hq : (a1.toList == a2.toList) = false := by
            rw [beq_eq_false_iff_ne]
            exact fun e => he (bytes_ext e)
          clear he
          go_wp2_with fail
          go_quiet (fail)
          go_wp2_with fail
          go_ret
          exact ⟨by rw [HE.out]; rfl, _, World.drewN_drewN _ _ _⟩
      · have hd : decide ((k : Int) < (x.length : Int)) = false := decide_eq_false (by omega)
        have HE := Lib.hid (show R = true from by
          rw [HR2.out]
          have h := HT.out
          rw [show k = x.length from by omega] at h
          rw [List.take_length, HLL.out, List.take_length] at h
          simp [h])
        go_wp2_with fail
        go_ret
        exact ⟨by rw [HE.out]; rfl, _, rfl⟩
  · have h7 : ((x.length : Int) != (y.length : Int)) = true := by rw [bne_iff_ne]; omega
    have HE := Lib.hid (show R = false from by rw [HR.out, decide_eq_false hll, Bool.false_and])
    go_enter Tryd.func30, Tryd.ntmps30
    go_wp2_with fail
    go_ret
    exact ⟨by rw [HE.out]; rfl, 0, rfl⟩
end Go.Proofs.YtllhlmdhnmdihaaDoor

/- Cases: whether two lists of documents are the same (the reference's). Written by tools/genyt.py. -/
namespace Go.Proofs.YtllhlmdhnmdihaaDoor
open Go Go.RowKit Go.Shelf
set_option linter.unusedVariables false
set_option linter.unusedSimpArgs false

theorem fieldsV : (Tryd.prog.fieldsOf 53).toList.map (fun f => (f.name != "_", f.type, f.offset)) = [(true, 3, 0), (true, 3, 1), (true, 4, 2), (true, 9, 3)] := by kernel_rfl
theorem structV : Tryd.prog.underlying 53 = some (.struct (Tryd.prog.fieldsOf 53)) := by kernel_rfl
theorem heldV : Tryd.prog.stoodInHeld 53 = false := by kernel_rfl
def sameVal (k k2 n n2 : Int) (b b2 : Bool) (t t2 : ByteArray) : Bool := (k == k2) && ((n == n2) && ((b == b2) && (t.toList == t2.toList)))
theorem run_neqV (w : World) (k k2 n n2 : Int) (b b2 : Bool) (t t2 : ByteArray) : (binOp .neq 53 (.agg #[.int .i64 k, .int .i64 n, .bool b, .string t]) (.agg #[.int .i64 k2, .int .i64 n2, .bool b2, .string t2])).run Tryd.prog w = .ok (.bool (!sameVal k k2 n n2 b b2 t t2)) w := by
  rw [run_neq_struct, run_equalIn_agg _ _ _ _ _ structV heldV]
  have hf := fieldsV
  generalize (Tryd.prog.fieldsOf 53).toList = fs at hf
  unfold sameVal
  rcases fs with _ | ⟨f0, _ | ⟨f1, _ | ⟨f2, _ | ⟨f3, _ | ⟨f4, r⟩⟩⟩⟩⟩
  · simp at hf
  · simp at hf
  · simp at hf
  · simp at hf
  · simp only [List.map_cons, List.map_nil, List.cons.injEq, Prod.mk.injEq, and_true] at hf
    obtain ⟨⟨n0, t0, o0⟩, ⟨n1, t1, o1⟩, ⟨n2', t2', o2⟩, n3, t3, o3⟩ := hf
    simp only [Op.eqFields, t0, t1, t2', t3, o0, o1, o2, o3]
    simp only [bne_iff_ne] at n0 n1 n2' n3
    rw [if_pos n0, if_pos n1, if_pos n2', if_pos n3]
    obtain ⟨q1, h1⟩ : ∃ q, (k == k2) = q := ⟨_, rfl⟩
    obtain ⟨q2, h2⟩ : ∃ q, (n == n2) = q := ⟨_, rfl⟩
    obtain ⟨q3, h3⟩ : ∃ q, (b == b2) = q := ⟨_, rfl⟩
    obtain ⟨q4, h4⟩ : ∃ q, (t.toList == t2.toList) = q := ⟨_, rfl⟩
    cases q1 <;> cases q2 <;> cases q3 <;> cases q4 <;> simp [go_sem, part, h1, h2, h3, h4]
  · simp at hf
end Go.Proofs.YtllhlmdhnmdihaaDoor

/- Cases: whether two lists of documents are the same (the reference's). Written by tools/genyu.py. -/
namespace Go.Proofs.YtllhlmdhnmdihaaDoor
open Go Go.RowKit Go.Shelf
set_option linter.unusedVariables false
set_option linter.unusedSimpArgs false

def sameD (x y : DV) : Bool := (x.path.toList == y.path.toList) && (sameVal x.vk y.vk x.vi y.vi x.vb y.vb x.vt y.vt && sameT x.rs y.rs)
def sameDs (l1 l2 : List DV) : Bool := decide (l1.length = l2.length) && (l1.zip l2).all fun p => sameD p.1 p.2

theorem quiet_add {P : Program} {f : FuncId} {args : Array Value} {w : World} {d n : Nat} {v : Value} (h : Calls P f args (w.drewN (d + n)) fun e w' => e = .returned v ∧ ∃ m, w' = (w.drewN (d + n)).drewN m) : Calls P f args (w.drewN (d + n)) fun e w'' => e = .returned v ∧ ∃ m, w'' = (w.drewN d).drewN m :=
  h.mono fun _ _ ⟨he, m, hm⟩ => ⟨he, n + m, by rw [hm, World.drewN_drewN, World.drewN_drewN, Nat.add_assoc]⟩

set_option maxRecDepth 100000 in
set_option maxHeartbeats 2000000 in
theorem rsameD_c (w : World) (v1 v2 : Value) (l1 l2 : List DV) (h1 : DocsIs w v1 l1) (h2 : DocsIs w v2 l2) : Calls Tryd.prog 14 #[v1, v2] w fun e w' => e = .returned (.bool (sameDs l1 l2)) ∧ ∃ d, w' = w.drewN d := by
  obtain ⟨R, hR⟩ : ∃ R, R = sameDs l1 l2 := ⟨_, rfl⟩
  have HR := Lib.hid hR
  rw [← hR]
  clear hR
  unfold sameDs at HR
  have H1 := Lib.hid h1
  have H2 := Lib.hid h2
  obtain ⟨a1, c1, hv1, m1, n1, _, _⟩ := h1.1
  obtain ⟨a2, cap2, hv2, m2, n2, _, _⟩ := h2.1
  subst hv1 hv2
  have hn : l1.length ≤ 9223372036854775807 := by unfold maxLen at n1; omega
  clear h1 h2 m1 n1 m2 n2
  by_cases hll : l1.length = l2.length
  · have h7 : ((l1.length : Int) != (l2.length : Int)) = false := by rw [hll]; simp
    have HLL := Lib.hid hll
    have HR2 := Lib.hid (show R = (l1.zip l2).all fun p => sameD p.1 p.2 from by rw [HR.out, decide_eq_true hll, Bool.true_and])
    have hzl : (l1.zip l2).length = l1.length := by rw [List.length_zip, ← hll, Nat.min_self]
    have HZL := Lib.hid hzl
    clear hll hzl
    go_enter Tryd.func14, Tryd.ntmps14
    go_wp2_with fail
    clear h7
    go_loopw [13] (fun i wr => ∃ k d : Nat, k ≤ l1.length ∧ i = .int .i64 k ∧ ((l1.zip l2).take k).all (fun p => sameD p.1 p.2) = true ∧ wr = w.drewN d) (fun i _ => l1.length - (intOf i).toNat)
    case atStart => exact ⟨0, 0, by omega, rfl, by simp, rfl⟩
    case round =>
      obtain ⟨k, d, hk, rfl, ht, hwr⟩ := hrel
      have HWR := Lib.hid hwr
      have HBR := Lib.hid (show Below w.heap.size w wr from by rw [hwr]; exact below_drewN (Below.refl _ _) _)
      clear hwr
      have HT := Lib.hid ht
      clear ht
      by_cases hlt : k < l1.length
      · have hd : decide ((k : Int) < (l1.length : Int)) = true := decide_eq_true (by omega)
        have hlt2 : k < l2.length := by rw [← HLL.out]; exact hlt
        have hltz : k < (l1.zip l2).length := by rw [HZL.out]; exact hlt
        obtain ⟨x, hx⟩ : ∃ x, x = l1[k] := ⟨_, rfl⟩
        obtain ⟨y, hy⟩ : ∃ y, y = l2[k] := ⟨_, rfl⟩
        have hrow : rowD l1 k = x.cells := by unfold rowD; rw [List.getElem?_eq_getElem hlt, ← hx]; rfl
        have hrow2 : rowD l2 k = y.cells := by unfold rowD; rw [List.getElem?_eq_getElem hlt2, ← hy]; rfl
        have hxo := H1.out.2 x (by rw [hx]; exact List.getElem_mem hlt)
        have hyo := H2.out.2 y (by rw [hy]; exact List.getElem_mem hlt2)
        have HTX := Lib.hid (fun (e : Nat) => sameTexts_c (wr.drewN e) x.rv y.rv x.rs y.rs ((hxo.rr.below HBR.out).below (below_drewN (Below.refl _ _) _)) ((hyo.rr.below HBR.out).below (below_drewN (Below.refl _ _) _)))
        have HYES := Lib.hid (fun (hb : sameD x y = true) => all_take (f := fun p : DV × DV => sameD p.1 p.2) hltz HT.out (by rw [List.getElem_zip, ← hx, ← hy]; exact hb))
        have HNOT := Lib.hid (fun (hb : sameD x y = false) => all_not (f := fun p : DV × DV => sameD p.1 p.2) hltz (by rw [List.getElem_zip, ← hx, ← hy]; exact hb))
        obtain ⟨g, o, ha, hg, c0, c1, c2, c3, c4, c5⟩ := (H1.out.1.below HBR.out).row hlt hrow
        have hr22 : Rows6 wr (.slice a2 l1.length cap2) l1.length (rowD l2) := by have := H2.out.1.below HBR.out; rwa [← HLL.out] at this
        obtain ⟨g2, o2, ha2, hg2, d0, d1, d2, d3, d4, d5⟩ := hr22.row hlt hrow2
        subst ha ha2
        obtain ⟨pl, cp, hlv⟩ := hxo.rr.form
        obtain ⟨pl2, cp2, hlv2⟩ := hyo.rr.form
        obtain ⟨path, vk, vi, vb, vt, rv, rs⟩ := x
        obtain ⟨path2, vk2, vi2, vb2, vt2, rv2, rs2⟩ := y
        dsimp only at hlv hlv2 HTX
        subst hlv hlv2
        clear hrow hrow2 hx hy hxo hyo hr22
        have HV := Lib.hid (fun W => run_neqV W vk vk2 vi vi2 vb vb2 vt vt2)
        have HSD := Lib.hid (show sameD ⟨path, vk, vi, vb, vt, .slice pl (tcells rs).length cp, rs⟩ ⟨path2, vk2, vi2, vb2, vt2, .slice pl2 (tcells rs2).length cp2, rs2⟩ = ((path.toList == path2.toList) && (sameVal vk vk2 vi vi2 vb vb2 vt vt2 && sameT rs rs2)) from rfl)
        rw [HSD.out] at HYES HNOT
        clear HSD
        obtain ⟨q1, hq1⟩ : ∃ q, (path.toList == path2.toList) = q := ⟨_, rfl⟩
        obtain ⟨q2, hq2⟩ : ∃ q, sameVal vk vk2 vi vi2 vb vb2 vt vt2 = q := ⟨_, rfl⟩
        obtain ⟨q3, hq3⟩ : ∃ q, sameT rs rs2 = q := ⟨_, rfl⟩
        rw [hq1, hq2, hq3] at HYES HNOT
        simp only [hq3] at HTX
        simp only [hq2] at HV
        clear hq2 hq3
        have hv := HV.out
        cases q1
        · have HE := Lib.hid (show R = false from by rw [HR2.out]; exact HNOT.out rfl)
          go_wp2_with fail
          go_quiet (fail)
          go_wp2_with fail
          go_ret
          exact ⟨by rw [HE.out]; rfl, _, by rw [HWR.out]; exact World.drewN_drewN _ _ _⟩
        · cases q2
          · have HE := Lib.hid (show R = false from by rw [HR2.out]; exact HNOT.out rfl)
            go_wp2_with fail
            go_quiet (fail)
            go_wp2_with fail
            go_ret
            exact ⟨by rw [HE.out]; rfl, _, by rw [HWR.out]; exact World.drewN_drewN _ _ _⟩
          · cases q3
            · have HE := Lib.hid (show R = false from by rw [HR2.out]; exact HNOT.out rfl)
              go_wp2_with fail
              go_quiet ((go_at_call 30; exact Calls.quiet_of (HTX.out _)))
              go_wp2_with fail
              go_ret
              exact ⟨by rw [HE.out]; rfl, _, by rw [HWR.out]; exact World.drewN_drewN _ _ _⟩
            · have HX := Lib.hid (HYES.out rfl)
              go_wp2_with fail
              go_quiet ((go_at_call 30; exact Calls.quiet_of (HTX.out _)))
              go_wp2_with fail
              go_roundw
              case rel => exact ⟨k + 1, _, by omega, by go_num, HX.out, by rw [HWR.out]; exact World.drewN_drewN _ _ _⟩
              case measure => simp [intOf]; omega
      · have hd : decide ((k : Int) < (l1.length : Int)) = false := decide_eq_false (by omega)
        have HE := Lib.hid (show R = true from by
          rw [HR2.out]
          have h := HT.out
          rwa [List.take_of_length_le (by rw [HZL.out]; omega)] at h)
        go_wp2_with fail
        go_ret
        exact ⟨by rw [HE.out]; rfl, _, HWR.out⟩
  · have h7 : ((l1.length : Int) != (l2.length : Int)) = true := by rw [bne_iff_ne]; omega
    have HE := Lib.hid (show R = false from by rw [HR.out, decide_eq_false hll, Bool.false_and])
    go_enter Tryd.func14, Tryd.ntmps14
    go_wp2_with fail
    go_ret
    exact ⟨by rw [HE.out]; rfl, 0, rfl⟩
end Go.Proofs.YtllhlmdhnmdihaaDoor
