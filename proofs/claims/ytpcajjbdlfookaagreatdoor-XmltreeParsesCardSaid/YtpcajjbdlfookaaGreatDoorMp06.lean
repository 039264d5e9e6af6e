/- append onto a slice of elements of any size, wherever in its block it lies. -/
import Derived.Test.YtpcajjbdlfookaaGreatDoorBy
import Derived.Test.YtpcajjbdlfookaaGreatDoorMp05
import Derived.Deep.AppendLies
import Derived.Deep.RegionLaw
import Derived.RegionDies
namespace Go.Proofs.YtpcajjbdlfookaaGreatDoor
open Go.RowKit
set_option linter.unusedVariables false

/-- A slice that owns its row: n elements of so many cells each, from offset off of block g on, and what lies behind them up to the capacity. -/
def OwnS (w : World) (base : Nat) (e : TypeId) (size : Nat) (v : Value) (n : Nat) (xs : List Value) : Prop :=
  xs.length = n * size ∧
  ((v = .slice none 0 0 ∧ n = 0) ∨
   ∃ g off cap cur, v = .slice (some ⟨g, off, none⟩) n cap ∧ base ≤ g ∧ w.heap[g]? = some (.cells cur e (0, 0)) ∧ n ≤ cap ∧ cap ≤ maxLen ∧ off + cap * size ≤ cur.size ∧ (cur.toList.drop off).take (n * size) = xs)

theorem OwnS.nil (w : World) (base : Nat) (e : TypeId) (size : Nat) : OwnS w base e size (.slice none 0 0) 0 [] := ⟨by simp, .inl ⟨rfl, rfl⟩⟩
theorem OwnS.ofRow {w : World} {base : Nat} {e : TypeId} {size : Nat} {v : Value} {n : Nat} {xs : List Value} (h : w.ownsRow base e size v n xs) : OwnS w base e size v n xs := by
  refine ⟨h.1, h.2.imp id ?_⟩
  rintro ⟨g, cap, cur, h1, h2, h3, h4, h5, h6, h7⟩
  exact ⟨g, 0, cap, cur, h1, h2, h3, h4, h5, by omega, by simpa using h7⟩
theorem OwnS.keep {w w' : World} {base : Nat} {e : TypeId} {size : Nat} {v : Value} {n : Nat} {xs : List Value} (h : OwnS w base e size v n xs) (hb : ∀ g, v.ownBlock = some g → w'.heap[g]? = w.heap[g]?) : OwnS w' base e size v n xs := by
  refine ⟨h.1, h.2.imp id ?_⟩
  rintro ⟨g, off, cap, cur, rfl, h2, h3, h4⟩
  exact ⟨g, off, cap, cur, rfl, h2, (hb g rfl).trans h3, h4⟩
theorem OwnS.lt {w : World} {base : Nat} {e : TypeId} {size : Nat} {v : Value} {n : Nat} {xs : List Value} (h : OwnS w base e size v n xs) : ∀ g, v.ownBlock = some g → g < w.heap.size := by
  intro k hk
  rcases h.2 with ⟨rfl, _⟩ | ⟨g, off, cap, cur, rfl, _, hg, _⟩
  · simp [Value.ownBlock] at hk
  · simp [Value.ownBlock] at hk
    subst hk
    exact (Array.getElem?_eq_some_iff.1 hg).1
theorem OwnS.form {w : World} {base : Nat} {e : TypeId} {size : Nat} {v : Value} {n : Nat} {xs : List Value} (h : OwnS w base e size v n xs) : ∃ a c, v = .slice a n c ∧ n ≤ c ∧ c ≤ maxLen ∧ (a = none → c = 0) := by
  rcases h.2 with ⟨rfl, rfl⟩ | ⟨g, off, cap, cur, rfl, _, _, h1, h2, _⟩
  · exact ⟨none, 0, rfl, Nat.le_refl _, by unfold maxLen; omega, fun _ => rfl⟩
  · exact ⟨_, cap, rfl, h1, h2, by simp⟩
theorem OwnS.cell {w : World} {base : Nat} {e : TypeId} {size : Nat} {v : Value} {n : Nat} {xs : List Value} (h : OwnS w base e size v n xs) {g off c : Nat} (hv : v = .slice (some ⟨g, off, none⟩) n c) : ∀ j u, xs[j]? = some u → w.cell? ⟨g, off + j, none⟩ = some u := by
  intro j u hu
  rcases h.2 with ⟨rfl, _⟩ | ⟨g', off', cap, cur, rfl, _, hg, _, _, _, ht⟩
  · cases hv
  · cases hv
    rw [cell_of_row w g (off + j) cur e (0, 0) hg]
    rw [← ht, List.getElem?_take] at hu
    split at hu
    · rw [List.getElem?_drop] at hu
      simpa using hu
    · cases hu

section
variable {P : Program}

theorem run_append_S (w : World) (base : Nat) (t tx ty e : TypeId) (i : TypeInfo) (z : Value) (size bytes : Nat) (ht : P.underlying t = some (.slice e)) (hi : P.info? e = some i) (hz : i.zero = some z)
    (hsize : i.size = size) (hby : i.bytes = bytes) (hzs : z.cells.size = size) (hpos : 0 < size)
    (v : Value) (n : Nat) (xs : List Value) (hown : OwnS w base e size v n xs) (x : Value) (m : Nat) (news : List Value) (hs : Src P size tx x m news w)
    (h63 : n + m ≤ maxLen) (hbytes : (n + m) * bytes ≤ 140737488355328) (hbase : base ≤ w.heap.size) :
    ∃ v' w', (Builtin.append_ #[t, tx] ty #[v, x]).run P w = .ok v' w' ∧ OwnS w' base e size v' (n + m) (xs ++ news) ∧ w.grownBy w' v.ownBlock ∧ (v'.ownBlock = v.ownBlock ∨ v'.ownBlock = some w.heap.size) := by
  subst hby
  subst hsize
  have hsmall : n + m ≤ 9223372036854775807 := by simp only [maxLen] at h63; omega
  have hxl : xs.length = n * i.size := hown.1
  have hnl : news.length = m * i.size := hs.newsLen
  have hlen : (xs ++ news).length = (n + m) * i.size := by rw [List.length_append, hxl, hnl, Nat.add_mul]
  have grown : ∀ (old : Nat), old < n + m → ∀ (row : Option Nat),
      OwnS (w.drew.alloc (.cells ((xs ++ news).toArray ++ Builtin.zeroCells z.cells (grownCap w (n + m) old e - (n + m))) e)) base e i.size
        (.slice (some ⟨w.heap.size, 0, none⟩) (n + m) (grownCap w (n + m) old e)) (n + m) (xs ++ news) ∧
      w.grownBy (w.drew.alloc (.cells ((xs ++ news).toArray ++ Builtin.zeroCells z.cells (grownCap w (n + m) old e - (n + m))) e)) row := by
    intro old ho row
    have hge := grownCap_ge w (n + m) old e
    have hcm : grownCap w (n + m) old e ≤ maxLen := grownCap_le_maxLen w (n + m) old e h63
    refine ⟨⟨hlen, .inr ⟨w.heap.size, 0, _, _, rfl, hbase, heap_alloc_new w.drew _, hge, hcm, ?_, ?_⟩⟩, ⟨rfl, rfl, rfl, by simp, fun k hk _ => Below.heap_alloc w.drew _ k hk⟩⟩
    · simp only [Array.size_append, List.size_toArray, size_zeroCells, hzs]
      rw [hlen, ← Nat.add_mul, Nat.zero_add]
      exact Nat.mul_le_mul_right _ (by omega)
    · simp only [Array.toList_append, List.drop_zero]
      rw [← hlen]
      exact List.take_left
  rcases hown.2 with ⟨rfl, rfl⟩ | ⟨g, off, cap, cur, rfl, hbg, hg, hnc, hcm, hcs, htake⟩
  · have hx : xs = [] := List.eq_nil_of_length_eq_zero (by simpa using hown.1)
    subst hx
    by_cases hm : m = 0
    · subst hm
      have hn : news = [] := List.eq_nil_of_length_eq_zero (by simpa using hnl)
      subst hn
      refine ⟨.slice none 0 0, w, ?_, OwnS.nil w base e _, ⟨rfl, rfl, rfl, Nat.le_refl _, fun _ _ _ => rfl⟩, .inl rfl⟩
      have hc := hs.cells
      have hlx := hs.len
      rcases hs.kind with ⟨e', hk⟩ | hk <;>
        simp [Builtin.append_, run_underlying ht, run_underlying hk, sizeOf, typeInfo, hi, hlx, hc]
    · have hr := run_append_grow_src (P := P) w t tx ty e i z ht hi hz none 0 0 [] (run_firstCells_none w.drew i.size 0 0 0) x m news hs (by omega) (by omega) (growslice_fits (by omega) hbytes)
      have hgr := grown 0 (by omega) (Value.ownBlock (.slice none 0 0))
      exact ⟨_, _, hr, hgr.1, hgr.2, .inr rfl⟩
  · by_cases hroom : n + m ≤ cap
    · have hmul : (n + m) * i.size ≤ cap * i.size := Nat.mul_le_mul_right _ hroom
      have hfit : (off + n * i.size) + news.length ≤ cur.size := by rw [hnl]; rw [Nat.add_mul] at hmul; omega
      have hst := run_storeCells_at P g (off + n * i.size) e news 0 cur w hg (by simpa using hfit) hs.one
      simp only [Nat.add_zero] at hst
      have hcells := hs.cells
      have hlx := hs.len
      have hr : (Builtin.append_ #[t, tx] ty #[.slice (some ⟨g, off, none⟩) n cap, x]).run P w =
          .ok (.slice (some ⟨g, off, none⟩) (n + m) cap) (w.setRow g (cur.toList.take (off + n * i.size) ++ news ++ cur.toList.drop (off + n * i.size + news.length)).toArray) := by
        rcases hs.kind with ⟨e', hk⟩ | hk <;> simp [Builtin.append_, run_underlying ht, run_underlying hk, sizeOf, typeInfo, hi, hlx, hroom, hcells, Addr.add_lit, hst]
      refine ⟨_, _, hr, ⟨hlen, .inr ⟨g, off, cap, _, rfl, hbg, setRow_heap w g cur _ e _ hg, hroom, hcm, ?_, ?_⟩⟩, ⟨rfl, rfl, rfl, by simp, fun k _ hk => setRow_other w g k _ (fun e => hk (by simp [Value.ownBlock, e]))⟩, .inl rfl⟩
      · simp only [List.size_toArray, List.length_append, List.length_take, List.length_drop, Array.length_toList]
        omega
      · have ht1 : (cur.toList.take (off + n * i.size)).drop off = xs := by
          rw [List.drop_take, ← htake]
          congr 1
          omega
        have hle : off ≤ (cur.toList.take (off + n * i.size)).length := by rw [List.length_take, Array.length_toList]; omega
        simp only [List.append_assoc]
        rw [List.drop_append_of_le_length hle, ht1, ← List.append_assoc, ← hlen]
        exact List.take_left
    · have holds : ∀ j u, xs[j]? = some u → w.cell? ((⟨g, off, none⟩ : Addr).add j) = some u := fun j u hu => by
        rw [Addr.add_lit]
        exact hown.cell rfl j u hu
      have hr := run_append_grow_src (P := P) w t tx ty e i z ht hi hz (some ⟨g, off, none⟩) n cap xs (run_firstCells_some w.drew i.size n ⟨g, off, none⟩ n cap xs hxl (by simpa using holds)) x m news hs (by omega) (by omega) (growslice_fits (by omega) hbytes)
      have hgr := grown cap (by omega) (Value.ownBlock (.slice (some ⟨g, off, none⟩) n cap))
      exact ⟨_, _, hr, hgr.1, hgr.2, .inr rfl⟩

theorem wpList_append_S {ops : Array Oper} {rest : List Oper} {o : Oper} {a : Act} {w : World} {Q : Exit → Act → World → Prop} (hgd : o.guard = none) (s x : Operand) (t tx : TypeId)
    (ho : o.op = .call { callee := .builtin .append, args := #[s, x], argTypes := #[t, tx] })
    (base : Nat) (e : TypeId) (i : TypeInfo) (z : Value) (size bytes : Nat) (ht : P.underlying t = some (.slice e)) (hi : P.info? e = some i) (hz : i.zero = some z)
    (hsize : i.size = size) (hby : i.bytes = bytes) (hzs : z.cells.size = size) (hpos : 0 < size)
    (v : Value) (n : Nat) (xs : List Value) (hs : a.eval s = v) (hown : OwnS w base e size v n xs) (xv : Value) (m : Nat) (news : List Value) (hx : a.eval x = xv) (hsrc : Src P size tx xv m news w)
    (h63 : n + m ≤ maxLen) (hbytes : (n + m) * bytes ≤ 140737488355328) (hbase : base ≤ w.heap.size)
    (h : ∀ v' w', OwnS w' base e size v' (n + m) (xs ++ news) → w.grownBy w' v.ownBlock → (v'.ownBlock = v.ownBlock ∨ v'.ownBlock = some w.heap.size) → wpList P ops Q rest (a.put o.dst v') w') : wpList P ops Q (o :: rest) a w := by
  refine wpList_plain hgd fun K hK => ?_
  obtain ⟨v', w', hr, h2, h3, h4⟩ := run_append_S (P := P) w base t tx o.type e i z size bytes ht hi hz hsize hby hzs hpos v n xs hown xv m news hsrc h63 hbytes hbase
  unfold Oper.wp execOp
  simp only [ho, resolve, invoke, builtin, Sem.run_bind, Sem.run_pure, Result.andThen_ok, List.map_toArray, List.map_cons, List.map_nil, hs, hx, hr]
  exact hK _ _ (h v' w' h2 h3 h4)

/-- The same at a step of a region that draws its order. -/
theorem step_append_S {ops : Array Oper} {o : Oper} {a : Act} {w : World} {Q : Exit → Act → World → Prop} {K : Act → World → Prop} {E : Prop} (hgd : o.guard = none) (s x : Operand) (t tx : TypeId)
    (ho : o.op = .call { callee := .builtin .append, args := #[s, x], argTypes := #[t, tx] })
    (base : Nat) (e : TypeId) (i : TypeInfo) (z : Value) (size bytes : Nat) (ht : P.underlying t = some (.slice e)) (hi : P.info? e = some i) (hz : i.zero = some z)
    (hsize : i.size = size) (hby : i.bytes = bytes) (hzs : z.cells.size = size) (hpos : 0 < size)
    (v : Value) (n : Nat) (xs : List Value) (hs : a.eval s = v) (hown : OwnS w base e size v n xs) (xv : Value) (m : Nat) (news : List Value) (hx : a.eval x = xv) (hsrc : Src P size tx xv m news w)
    (h63 : n + m ≤ maxLen) (hbytes : (n + m) * bytes ≤ 140737488355328) (hbase : base ≤ w.heap.size)
    (h : ∀ v' w', OwnS w' base e size v' (n + m) (xs ++ news) → w.grownBy w' v.ownBlock → (v'.ownBlock = v.ownBlock ∨ v'.ownBlock = some w.heap.size) → K (a.put o.dst v') w') :
    if Region.wanted o (yielded ops a.tmps) = true then Oper.wp P o a w K Q else E := by
  have hw : Region.wanted o (yielded ops a.tmps) = true := by simp [Region.wanted, hgd]
  rw [if_pos hw]
  obtain ⟨v', w', hr, h2, h3, h4⟩ := run_append_S (P := P) w base t tx o.type e i z size bytes ht hi hz hsize hby hzs hpos v n xs hown xv m news hsrc h63 hbytes hbase
  unfold Oper.wp execOp
  simp only [ho, resolve, invoke, builtin, Sem.run_bind, Sem.run_pure, Result.andThen_ok, List.map_toArray, List.map_cons, List.map_nil, hs, hx, hr]
  exact h v' w' h2 h3 h4
end
end Go.Proofs.YtpcajjbdlfookaaGreatDoor

/- xmllex: the scanner: opening. -/
namespace Go.Proofs.YtpcajjbdlfookaaGreatDoor
open Go.RowKit
set_option linter.unusedVariables false

theorem infoAt : (Tryz.prog.info? 114).map (fun i => (i.zero, i.size, i.bytes)) = some (some (.agg #[.string ⟨#[]⟩, .string ⟨#[]⟩]), 2, 32) := by kernel_rfl
theorem infoAtX : ∃ i0, Tryz.prog.info? 114 = some i0 ∧ i0.zero = some (.agg #[.string ⟨#[]⟩, .string ⟨#[]⟩]) ∧ i0.size = 2 ∧ i0.bytes = 32 := by
  have h := infoAt
  cases hi : Tryz.prog.info? 114 with
  | none => rw [hi] at h; simp at h
  | some i =>
    rw [hi] at h
    simp at h
    exact ⟨i, rfl, h.1, h.2.1, h.2.2⟩
def acells (l : List (List UInt8 × List UInt8)) : List Value := l.flatMap fun x => [Value.string ⟨x.1.toArray⟩, Value.string ⟨x.2.toArray⟩]
theorem row_lt {w : World} {base n size : Nat} {e : TypeId} {v : Value} {xs : List Value} (h : w.ownsRow base e size v n xs) : ∀ g, v.ownBlock = some g → base ≤ g ∧ g < w.heap.size := by
  intro k hk
  rcases h.2 with ⟨rfl, _⟩ | ⟨g, cap, cur, rfl, hb, hg, _⟩
  · simp [Value.ownBlock] at hk
  · simp [Value.ownBlock] at hk
    subst hk
    exact ⟨hb, (Array.getElem?_eq_some_iff.1 hg).1⟩
theorem row_keep {w w' : World} {base n size : Nat} {e : TypeId} {v : Value} {xs : List Value} (h : w.ownsRow base e size v n xs) (hb : ∀ g, v.ownBlock = some g → w'.heap[g]? = w.heap[g]?) : w'.ownsRow base e size v n xs := by
  refine ⟨h.1, h.2.imp id ?_⟩
  rintro ⟨g, cap, cur, rfl, h2, h3, h4⟩
  exact ⟨g, cap, cur, rfl, h2, (hb g rfl).trans h3, h4⟩
theorem row_below {w w' : World} {base n size : Nat} {e : TypeId} {v : Value} {xs : List Value} (h : w.ownsRow base e size v n xs) (hb : Below w.heap.size w w') : w'.ownsRow base e size v n xs :=
  row_keep h fun g hg => hb.block g (row_lt h g hg).2
theorem row_ne {w : World} {base n size : Nat} {e : TypeId} {v : Value} {xs : List Value} (h : w.ownsRow base e size v n xs) {b : Nat} {cs : Array Value} {T : TypeId} {z : Nat × Nat} (hb : w.heap[b]? = some (.cells cs T z)) (hT : e ≠ T) : ∀ g, v.ownBlock = some g → g ≠ b := by
  intro k hk
  rcases h.2 with ⟨rfl, _⟩ | ⟨g, cap, cur, rfl, _, hg, _⟩
  · simp [Value.ownBlock] at hk
  · simp [Value.ownBlock] at hk
    subst hk
    rintro rfl
    rw [hg] at hb
    cases hb
    exact hT rfl
theorem row_form {w : World} {base n size : Nat} {e : TypeId} {v : Value} {xs : List Value} (h : w.ownsRow base e size v n xs) : ∃ p c, v = .slice p n c := by
  rcases h.2 with ⟨rfl, rfl⟩ | ⟨g, cap, cur, rfl, _⟩
  · exact ⟨_, _, rfl⟩
  · exact ⟨_, _, rfl⟩
theorem AtsIs.ofRow {w : World} {base : Nat} {v : Value} {l : List (List UInt8 × List UInt8)} (h : w.ownsRow base 114 2 v l.length (acells l)) : AtsIs w v l := by
  have ho := OwnS.ofRow h
  obtain ⟨p, c, hv, h1, h2, h3⟩ := ho.form
  refine ⟨p, c, hv, h1, h2, h3, fun hp => ?_⟩
  rcases h.2 with ⟨_, h0⟩ | ⟨g, cap, cur, hv2, _, hg, _⟩
  · omega
  · rw [hv] at hv2
    cases hv2
    exact ⟨g, 0, rfl, ⟨_, _, hg⟩, fun j u hu => ho.cell hv j u hu⟩

/-- The tag as far as it is read. -/
structure OpS (w : World) (pb : Nat) (xs : List UInt8) (a f b1 : Nat) (S : ByteArray) (k : Nat) (l : List (List UInt8 × List UInt8)) (sv : Value) (wr : World) : Prop where
  sc : SC wr pb xs (a + k) f
  chg : Chg [pb] w wr
  za : ∃ c0 c1 c2 c3 c4, wr.heap[w.heap.size]? = some (.cells #[.int .i64 c0, .string c1, .slice none 0 c2, .bool c3, .string c4] 52 (0, 0))
  zb : wr.heap[b1]? = some (.cells #[.int .i64 1, .string S, sv, .bool false, .string ⟨#[]⟩] 52 (0, 0))
  own : wr.ownsRow w.heap.size 114 2 sv l.length (acells l)
  hi : w.heap.size < b1 ∧ pb < w.heap.size
  len : l.length ≤ k
theorem OpS.step {w wr w' : World} {pb : Nat} {xs : List UInt8} {a f b1 : Nat} {S : ByteArray} {k k' : Nat} {l : List (List UInt8 × List UInt8)} {sv : Value} (h : OpS w pb xs a f b1 S k l sv wr) (hs : SC w' pb xs (a + k') f) (hc : Chg [pb] wr w') (hk : k ≤ k') : OpS w pb xs a f b1 S k' l sv w' := by
  obtain ⟨h1, h2⟩ := h.hi
  have hne : ∀ i, w.heap.size ≤ i → i < wr.heap.size → w'.heap[i]? = wr.heap[i]? := fun i hi hl => hc.block i hl (by simp; omega)
  obtain ⟨c0, c1, c2, c3, c4, hb⟩ := h.za
  refine ⟨hs, h.chg.trans hc, ⟨c0, c1, c2, c3, c4, (hne _ (Nat.le_refl _) (Array.getElem?_eq_some_iff.1 hb).1).trans hb⟩, (hne _ (Nat.le_of_lt h1) (Array.getElem?_eq_some_iff.1 h.zb).1).trans h.zb, row_keep h.own fun g hg => hne g (row_lt h.own g hg).1 (row_lt h.own g hg).2, h.hi, Nat.le_trans h.len hk⟩
theorem OpS.below {w wr w' : World} {pb : Nat} {xs : List UInt8} {a f b1 : Nat} {S : ByteArray} {k : Nat} {l : List (List UInt8 × List UInt8)} {sv : Value} (h : OpS w pb xs a f b1 S k l sv wr) (hb : Below wr.heap.size wr w') : OpS w pb xs a f b1 S k l sv w' :=
  h.step (h.sc.below hb) (Chg.of_below hb) (Nat.le_refl _)
/-- An attribute is appended. -/
theorem OpS.push {w wr w3 w4 : World} {pb : Nat} {xs : List UInt8} {a f b1 : Nat} {S : ByteArray} {k : Nat} {l : List (List UInt8 × List UInt8)} {sv sv' : Value} {x : List UInt8 × List UInt8} (h0 : SC w pb xs a f) (h : OpS w pb xs a f b1 S k l sv wr) (hb : Below wr.heap.size wr w3) (hg : w3.grownBy w4 sv.ownBlock)
    (hown : w4.ownsRow w.heap.size 114 2 sv' (l.length + 1) (acells l ++ [.string ⟨x.1.toArray⟩, .string ⟨x.2.toArray⟩])) (hk : l.length + 1 ≤ k) : OpS w pb xs a f b1 S k (l ++ [x]) sv' (w4.setCell ⟨b1, 2, none⟩ sv') := by
  obtain ⟨h1, h2⟩ := h.hi
  have hle := h.chg.size
  have hrow : ∀ g, sv.ownBlock = some g → w.heap.size ≤ g := fun g hg => (row_lt h.own g hg).1
  have hblk : ∀ i, i < wr.heap.size → sv.ownBlock ≠ some i → i ≠ b1 → (w4.setCell ⟨b1, 2, none⟩ sv').heap[i]? = wr.heap[i]? := fun i hi hn h1 =>
    (Below.heap_setCell _ _ _ _ h1).trans ((hg.block i (Nat.lt_of_lt_of_le hi hb.size) (fun e => hn e.symm)).trans (hb.block i hi))
  have hb1 : w4.heap[b1]? = some (.cells #[.int .i64 1, .string S, sv, .bool false, .string ⟨#[]⟩] 52 (0, 0)) :=
    (hg.block b1 (Nat.lt_of_lt_of_le (Array.getElem?_eq_some_iff.1 h.zb).1 hb.size) (fun e => row_ne h.own h.zb (by decide) b1 e.symm rfl)).trans ((hb.block b1 (Array.getElem?_eq_some_iff.1 h.zb).1).trans h.zb)
  have hc : Chg [pb] w (w4.setCell ⟨b1, 2, none⟩ sv') := (((h.chg.trans (Chg.of_below hb)).then (Chg.of_grown (S := sv.ownBlock.toList) hg fun g e => .inl (by simp [e])) (fun i hi => .inr (hrow i (by simpa using hi)))).set' _ _ _ (.inr (Nat.le_of_lt h1)))
  obtain ⟨p, c, hbox, hrd, hpl⟩ := h.sc.box
  refine ⟨⟨h0.bw.chg hc h0.far, h0.far, ⟨p, c, (hblk pb (by omega) (fun e => by have := hrow _ e; omega) (by omega)).trans hbox, ?_, hpl⟩, h.sc.le⟩, hc, ?_, ?_, ?_, h.hi, by simpa using hk⟩
  · obtain ⟨p', c', hv, e1, e2, e3, e4⟩ := hrd
    cases hv
    refine ⟨p, c, rfl, e1, e2, e3, fun hp => ?_⟩
    obtain ⟨g, o, hgo, hx⟩ := e4 hp
    have hgl := hpl hp g o none hgo
    refine ⟨g, o, hgo, fun i hi => ?_⟩
    rw [World.cell?_of_block (w := wr) (hblk g (by omega) (fun e => by have := hrow _ e; omega) (by omega))]
    exact hx i hi
  · obtain ⟨c0, c1, c2, c3, c4, hb0⟩ := h.za
    exact ⟨c0, c1, c2, c3, c4, (hblk _ (Array.getElem?_eq_some_iff.1 hb0).1 (fun e => row_ne h.own hb0 (by decide) _ e rfl) (by omega)).trans hb0⟩
  · rw [block_set _ _ _ _ _ _ _ hb1]
    rfl
  · have hl : acells (l ++ [x]) = acells l ++ [.string ⟨x.1.toArray⟩, .string ⟨x.2.toArray⟩] := by unfold acells; rw [List.flatMap_append]; rfl
    rw [hl, List.length_append]
    exact row_keep hown fun g hg => Below.heap_setCell _ _ _ _ (row_ne hown hb1 (by decide) g hg)
/-- The tag is handed out. -/
theorem OpS.give {w wr w5 : World} {pb : Nat} {xs : List UInt8} {a f b1 : Nat} {S : ByteArray} {k : Nat} {l : List (List UInt8 × List UInt8)} {sv : Value} (h0 : SC w pb xs a f) (h : OpS w pb xs a f b1 S k l sv wr) (hw : w5 = wr ∨ w5 = wr.setCell ⟨b1, 3, none⟩ (.bool true)) (em : Bool) :
    (put5 w5 w.heap.size (.int .i64 1) (.string S) sv (.bool em) (.string ⟨#[]⟩)).heap[w.heap.size]? = some (.cells #[.int .i64 1, .string S, sv, .bool em, .string ⟨#[]⟩] 52 (0, 0)) ∧
    SC (put5 w5 w.heap.size (.int .i64 1) (.string S) sv (.bool em) (.string ⟨#[]⟩)) pb xs (a + k) f ∧ Chg [pb] w (put5 w5 w.heap.size (.int .i64 1) (.string S) sv (.bool em) (.string ⟨#[]⟩)) ∧ AtsIs (put5 w5 w.heap.size (.int .i64 1) (.string S) sv (.bool em) (.string ⟨#[]⟩)) sv l := by
  obtain ⟨h1, h2⟩ := h.hi
  obtain ⟨c0, c1, c2, c3, c4, hb0⟩ := h.za
  obtain ⟨p, c, hsv⟩ := row_form h.own
  have hno : ∀ i n, (#[.int .i64 1, .string S, sv, .bool false, .string ⟨#[]⟩] : Array Value)[i]? ≠ some (Value.int IntKind.u8 n) := no_u8_5 (by simp) (by simp) (by rw [hsv]; simp) (by simp) (by simp)
  have hk1 : Chg [b1] wr w5 := by
    rcases hw with rfl | rfl
    · exact Chg.refl _ _
    · exact (Chg.refl _ _).set' _ _ _ (.inl (by simp))
  obtain ⟨hs5, hc5⟩ := h.sc.poke h.chg hk1 (Nat.le_of_lt h1) (by omega) (rd_poke h.zb hno hk1) (h0.bw.far (Nat.le_of_lt h1))
  have hb5 : w5.heap[w.heap.size]? = wr.heap[w.heap.size]? := hk1.block _ (Array.getElem?_eq_some_iff.1 hb0).1 (by simp; omega)
  have hb5' := hb5.trans hb0
  have hk5 := put5_chg w5 w.heap.size (.int .i64 1) (.string S) sv (.bool em) (.string ⟨#[]⟩)
  obtain ⟨hs6, hc6⟩ := hs5.poke hc5 hk5 (Nat.le_refl _) (by omega) (rd_poke hb5' (no_u8_5 (by simp) (by simp) (by simp) (by simp) (by simp)) hk5) (h0.bw.far (Nat.le_refl _))
  refine ⟨put5_at hb5' _ _ _ _ _, hs6, hc6, AtsIs.ofRow (row_keep h.own fun g hg => ?_)⟩
  have hgl := (row_lt h.own g hg).2
  exact (hk5.block g (Nat.lt_of_lt_of_le hgl hk1.size) (by simpa using row_ne h.own hb0 (by decide) g hg)).trans (hk1.block g hgl (by simpa using row_ne h.own h.zb (by decide) g hg))

def OpI (w : World) (pb : Nat) (xs : List UInt8) (a f b1 : Nat) (S : ByteArray) (R : Except Nat ((List (List UInt8 × List UInt8) × Bool) × Nat)) (wr : World) : Prop := ∃ k g l sv, OpS w pb xs a f b1 S k l sv wr ∧ xs.length - (a + k) < g ∧ opnF attrP g (xs.drop (a + k)) k l = R
theorem opn_gt {att : List UInt8 → Except Nat ((List UInt8 × List UInt8) × Nat)} {g k : Nat} {r : List UInt8} {l : List (List UInt8 × List UInt8)} (h1 : Lib.hasPrefix (r.drop (blN r)) [62] = true) : opnF att (g + 1) r k l = .ok ((l, false), k + blN r + 1) := by
  rw [opnF, if_pos h1]
theorem opn_em {att : List UInt8 → Except Nat ((List UInt8 × List UInt8) × Nat)} {g k : Nat} {r : List UInt8} {l : List (List UInt8 × List UInt8)} (h1 : Lib.hasPrefix (r.drop (blN r)) [62] = false) (h2 : Lib.hasPrefix (r.drop (blN r)) [47, 62] = true) : opnF att (g + 1) r k l = .ok ((l, true), k + blN r + 2) := by
  rw [opnF, h1, if_neg (by simp), if_pos h2]
theorem opn_ap {att : List UInt8 → Except Nat ((List UInt8 × List UInt8) × Nat)} {g k : Nat} {r : List UInt8} {l : List (List UInt8 × List UInt8)} (h1 : Lib.hasPrefix (r.drop (blN r)) [62] = false) (h2 : Lib.hasPrefix (r.drop (blN r)) [47, 62] = false) (h3 : blN r = 0) : opnF att (g + 1) r k l = .error 11 := by
  rw [opnF, h1, if_neg (by simp), h2, if_neg (by simp), if_pos h3]
theorem opn_go {att : List UInt8 → Except Nat ((List UInt8 × List UInt8) × Nat)} {g k : Nat} {r : List UInt8} {l : List (List UInt8 × List UInt8)} (h1 : Lib.hasPrefix (r.drop (blN r)) [62] = false) (h2 : Lib.hasPrefix (r.drop (blN r)) [47, 62] = false) (h3 : blN r ≠ 0) : opnF att (g + 1) r k l = match att (r.drop (blN r)) with
      | .error e => .error e
      | .ok (x, m) => opnF att g (r.drop (blN r + m)) (k + blN r + m) (l ++ [x]) := by
  rw [opnF, h1, if_neg (by simp), h2, if_neg (by simp), if_neg h3]
  rfl

def opnV (nm : List UInt8) (R : Except Nat ((List (List UInt8 × List UInt8) × Bool) × Nat)) : Except Nat (Tk × Nat) := match R with
  | .error e => .error e
  | .ok ((l, b), m) => .ok (⟨1, nm, l, b, []⟩, m)
set_option maxRecDepth 100000 in
set_option maxHeartbeats 4000000 in
theorem opening_c {w : World} {pb : Nat} {xs : List UInt8} {a f : Nat} (h : SC w pb xs a f) : Calls Tryz.prog 112 #[.pointer (some ⟨pb, 0, none⟩)] w
    (Aft w pb xs a f VT (opnP (xs.drop a))) := by
  have hpl := h.lt
  have HS0 := Lib.hid h
  have h0 := h.below (bel_alloc w REST)
  have HTN := Lib.hid (tagName_c h0)
  clear h h0
  cases hT : tagP (xs.drop a) with
  | none =>
    rw [show opnP (xs.drop a) = .error 11 from by unfold opnP; rw [hT]]
    rw [show tgP (xs.drop a) = .error 11 from by unfold tgP; rw [hT]] at HTN
    clear hT
    go_enter Tryz.func112, Tryz.ntmps112
    go_wp2_with (go_at_call 126; refine (HTN.out).mono ?_; rintro e w1 ⟨he, hc⟩; unfold Boom at he; subst he; have HC := Lib.hid (chg_box hc); clear hc)
    exact ⟨rfl, rfl, HC.out⟩
  | some n =>
    rw [show tgP (xs.drop a) = .ok ((xs.drop a).take n, n) from by unfold tgP; rw [hT]] at HTN
    obtain ⟨R, hR⟩ : ∃ R, R = opnF attrP ((xs.drop a).length + 1) (xs.drop (a + n)) n [] := ⟨_, rfl⟩
    have hA : opnP (xs.drop a) = opnV ((xs.drop a).take n) R := by
      unfold opnP
      rw [hT]
      dsimp only
      rw [List.drop_drop, hR]
      rfl
    rw [hA]
    rw [List.length_drop] at hR
    obtain ⟨S, hS⟩ : ∃ S, S = (⟨((xs.drop a).take n).toArray⟩ : ByteArray) := ⟨_, rfl⟩
    have HSS := Lib.hid hS
    have HRR := Lib.hid hR
    clear hT hA hS hR
    go_enter Tryz.func112, Tryz.ntmps112
    go_wp2_with fail
    refine HTN.out.mono ?_
    rintro e w1 ⟨v1, rfl, hv, hs, hc⟩
    have hv' : v1 = .string S := by rw [show v1 = .string ⟨((xs.drop a).take n).toArray⟩ from hv, HSS.out]
    subst hv'
    have hb0 := box_chg hpl hc
    have hl1 : w.heap.size < w1.heap.size := (Array.getElem?_eq_some_iff.1 hb0).1
    have HI := Lib.hid (fun (wx : World) (hb : Below w1.heap.size w1 wx) (h1 : wx.heap[w1.heap.size]? = some (.cells #[.int .i64 1, .string S, .slice none 0 0, .bool false, .string ⟨#[]⟩] 52 (0, 0))) => show OpI w pb xs a f w1.heap.size S R wx from
      ⟨n, _, [], .slice none 0 0, ⟨hs.below hb, (chg_box hc).trans (Chg.of_below hb), ⟨_, _, _, _, _, (hb.block _ hl1).trans hb0⟩, h1, World.ownsRow_nil wx w.heap.size 114 2, ⟨hl1, hpl⟩, Nat.zero_le _⟩, by omega, HRR.out.symm⟩)
    clear hs hc hv hb0
    go_wp2_with fail
    go_loopw [] (fun wr => OpI w pb xs a f w1.heap.size S R wr) (fun wr => xs.length - atOf wr pb)
    case atStart => exact HI.out _ ((Below.refl _ _).alloc (Nat.le_refl _) _) (heap_alloc_new w1 _)
    case round =>
      obtain ⟨k, g, l, sv, ho, hg, hop⟩ := hrel
      have HO := Lib.hid ho
      have HAT := Lib.hid ho.sc.atOf
      obtain ⟨g, rfl⟩ : ∃ q, g = q + 1 := ⟨g - 1, by omega⟩
      have HB1 := Lib.hid (blanks_c ho.sc)
      obtain ⟨m0, hm0⟩ : ∃ m0, m0 = blN (xs.drop (a + k)) := ⟨_, rfl⟩
      rw [← hm0] at HB1
      have hdd : (xs.drop (a + k)).drop m0 = xs.drop (a + k + m0) := by rw [List.drop_drop]
      have hMM := Lib.hid hm0
      rcases hx1 : Lib.hasPrefix (xs.drop (a + k + m0)) [62] with _ | _
      · have HT1 := Lib.hid (fun (wx : World) (hs : SC wx pb xs (a + k + m0) f) => take_c hs ⟨#[62]⟩ (by decide) false hx1)
        rcases hx2 : Lib.hasPrefix (xs.drop (a + k + m0)) [47, 62] with _ | _
        · have HT2 := Lib.hid (fun (wx : World) (hs : SC wx pb xs (a + k + m0) f) => take_c hs ⟨#[47, 62]⟩ (by decide) false hx2)
          by_cases h3 : m0 = 0
          · rw [opn_ap (by rw [← hm0, hdd]; exact hx1) (by rw [← hm0, hdd]; exact hx2) (by rw [← hm0]; exact h3)] at hop
            rw [show decide (0 < m0) = false from by simp; omega] at HB1
            have HRE := Lib.hid hop
            clear ho hop hx1 hx2 h3 hdd hm0
            go_wp2_with fail
            refine HB1.out.mono ?_
            rintro e w2 ⟨v2, rfl, hv, hs, hc⟩
            unfold VBl at hv
            subst hv
            have HK2 := Lib.hid (HT1.out w2 hs)
            have HOA := Lib.hid (HO.out.step (k' := k + m0) ((show a + k + m0 = a + (k + m0) by omega) ▸ hs) hc (by omega))
            clear hs hc
            go_wp2_with fail
            refine HK2.out.mono ?_
            rintro e w3 ⟨rfl, hs, hc⟩
            have HK3 := Lib.hid (HT2.out w3 hs)
            have HOB := Lib.hid (HOA.out.step (k' := k + m0) ((show a + k + m0 = a + (k + m0) by omega) ▸ hs) hc (by omega))
            clear hs hc
            go_wp2_with fail
            refine HK3.out.mono ?_
            rintro e w4 ⟨rfl, hs, hc⟩
            have HO2 := Lib.hid (HOB.out.step (k' := k + m0) ((show a + k + m0 = a + (k + m0) by omega) ▸ hs) hc (by omega))
            clear hs hc
            have HFA := Lib.hid (fail_c HO2.out.sc 11)
            have HCH := Lib.hid HO2.out.chg
            go_wp2_with (go_at_call 110; refine (HFA.out).mono ?_; rintro e w5 ⟨he, rfl⟩; unfold Boom at he; subst he)
            rw [← HRE.out]
            exact ⟨rfl, rfl, HCH.out⟩
          · rw [opn_go (by rw [← hm0, hdd]; exact hx1) (by rw [← hm0, hdd]; exact hx2) (by rw [← hm0]; exact h3), ← hm0, hdd] at hop
            rw [show decide (0 < m0) = true from by simp; omega] at HB1
            have HAC := Lib.hid (fun (wx : World) (hs : SC wx pb xs (a + k + m0) f) => attribute_c hs)
            have HM3 := Lib.hid h3
            cases hat : attrP (xs.drop (a + k + m0)) with
            | error z =>
              rw [hat] at hop HAC
              have HRE := Lib.hid (show .error z = R from hop)
              clear ho hop hx1 hx2 h3 hdd hm0 hat
              go_wp2_with fail
              refine HB1.out.mono ?_
              rintro e w2 ⟨v2, rfl, hv, hs, hc⟩
              unfold VBl at hv
              subst hv
              have HK2 := Lib.hid (HT1.out w2 hs)
              have HOA := Lib.hid (HO.out.step (k' := k + m0) ((show a + k + m0 = a + (k + m0) by omega) ▸ hs) hc (by omega))
              clear hs hc
              go_wp2_with fail
              refine HK2.out.mono ?_
              rintro e w3 ⟨rfl, hs, hc⟩
              have HK3 := Lib.hid (HT2.out w3 hs)
              have HOB := Lib.hid (HOA.out.step (k' := k + m0) ((show a + k + m0 = a + (k + m0) by omega) ▸ hs) hc (by omega))
              clear hs hc
              go_wp2_with fail
              refine HK3.out.mono ?_
              rintro e w4 ⟨rfl, hs, hc⟩
              have HO2 := Lib.hid (HOB.out.step (k' := k + m0) ((show a + k + m0 = a + (k + m0) by omega) ▸ hs) hc (by omega))
              clear hs hc
              obtain ⟨q0, q1, q2, q3, q4, qz⟩ := cellsX5 HO2.out.zb
              have HCH := Lib.hid HO2.out.chg
              go_wp2_with fail
              go_region_dies
              all_goals
                refine (HAC.out _ ((show SC w4 pb xs (a + k + m0) f from (show a + (k + m0) = a + k + m0 by omega) ▸ HO2.out.sc).below ?_)).mono ?_
                · first | exact Below.refl _ _ | exact (Below.refl _ _).drew | exact (Below.refl _ _).drew.drew | exact Go.below_drewN (Below.refl _ _) _
                rintro e w5 ⟨he, hc0⟩
                unfold Boom at he
                subst he
                have hc : Chg [pb] w4 w5 := by first | exact hc0 | exact (Chg.of_below (Below.refl _ _).drew).trans hc0 | exact (Chg.of_below (Below.refl _ _).drew.drew).trans hc0 | exact (Chg.of_below (Go.below_drewN (Below.refl _ _) _)).trans hc0
                exact ⟨rfl, by rw [← HRE.out]; exact ⟨rfl, HCH.out.trans hc⟩⟩
            | ok q =>
              obtain ⟨x, m⟩ := q
              rw [hat] at hop HAC
              dsimp only at hop
              rw [List.drop_drop] at hop
              have HRE := Lib.hid hop
              obtain ⟨S1, hS1⟩ : ∃ S1, S1 = (⟨x.1.toArray⟩ : ByteArray) := ⟨_, rfl⟩
              obtain ⟨S2, hS2⟩ : ∃ S2, S2 = (⟨x.2.toArray⟩ : ByteArray) := ⟨_, rfl⟩
              have HS1 := Lib.hid hS1
              have HS2 := Lib.hid hS2
              have HG := Lib.hid hg
              clear ho hop hx1 hx2 h3 hdd hm0 hat hS1 hS2 hg
              go_wp2_with fail
              refine HB1.out.mono ?_
              rintro e w2 ⟨v2, rfl, hv, hs, hc⟩
              unfold VBl at hv
              subst hv
              have HK2 := Lib.hid (HT1.out w2 hs)
              have HOA := Lib.hid (HO.out.step (k' := k + m0) ((show a + k + m0 = a + (k + m0) by omega) ▸ hs) hc (by omega))
              clear hs hc
              go_wp2_with fail
              refine HK2.out.mono ?_
              rintro e w3 ⟨rfl, hs, hc⟩
              have HK3 := Lib.hid (HT2.out w3 hs)
              have HOB := Lib.hid (HOA.out.step (k' := k + m0) ((show a + k + m0 = a + (k + m0) by omega) ▸ hs) hc (by omega))
              clear hs hc
              go_wp2_with fail
              refine HK3.out.mono ?_
              rintro e w4 ⟨rfl, hs, hc⟩
              have HO2 := Lib.hid (HOB.out.step (k' := k + m0) ((show a + k + m0 = a + (k + m0) by omega) ▸ hs) hc (by omega))
              clear hs hc
              obtain ⟨q0, q1, q2, q3, q4, qz⟩ := cellsX5 HO2.out.zb
              obtain ⟨i0, hi, hz0, hz1, hz2⟩ := infoAtX
              obtain ⟨pv, cv, hsv⟩ := row_form HO2.out.own
              subst hsv
              go_wp2_with fail
              go_region_law (first
                | (go_simp
                   go_at_call 127
                   refine (HAC.out _ ((show SC w4 pb xs (a + k + m0) f from (show a + (k + m0) = a + k + m0 by omega) ▸ HO2.out.sc).below ?_)).mono ?_
                   · first | exact Below.refl _ _ | exact (Below.refl _ _).drew | exact (Below.refl _ _).drew.drew | exact Go.below_drewN (Below.refl _ _) _
                   rintro e w5 ⟨v5, rfl, hv5, hs5, hc0⟩
                   have hv5' : v5 = .agg #[.string S1, .string S2] := by rw [show v5 = .agg #[.string ⟨x.1.toArray⟩, .string ⟨x.2.toArray⟩] from hv5, HS1.out, HS2.out]
                   subst hv5'
                   have hc : Chg [pb] w4 w5 := by first | exact hc0 | exact (Chg.of_below (Below.refl _ _).drew).trans hc0 | exact (Chg.of_below (Below.refl _ _).drew.drew).trans hc0 | exact (Chg.of_below (Go.below_drewN (Below.refl _ _) _)).trans hc0
                   have HO5 := Lib.hid (HO2.out.step (k' := k + m0 + m) ((show a + k + m0 + m = a + (k + m0 + m) by omega) ▸ hs5) hc (by omega))
                   obtain ⟨r0, r1, r2, r3, r4, rz⟩ := cellsX5 HO5.out.zb
                   have hbl : Below w5.heap.size w5 (w5.alloc (.cells #[.string S1, .string S2] 114)) := (Below.refl _ _).alloc (Nat.le_refl _) _
                   have HA := Lib.hid hbl
                   have s2 := (cellsX5 ((hbl.block _ (Array.getElem?_eq_some_iff.1 HO5.out.zb).1).trans HO5.out.zb)).2.2.1
                   have HSZ := Lib.hid (show w.heap.size ≤ w5.heap.size from HO5.out.chg.size)
                   have HLE := Lib.hid (show l.length ≤ 1048576 from by have := HO2.out.len; have := HO2.out.sc.le; omega)
                   clear hv5 hs5 hc0 hc hbl)
                | (refine step_append_lies _ (by rfl) _ _ 50 (by rfl) w.heap.size 114 i0 (.agg #[.string ⟨#[]⟩, .string ⟨#[]⟩]) 2 32 Tryz.underlying50 hi hz0 hz1 hz2 rfl (by omega) (.slice pv l.length cv) l.length (acells l) (by rfl) (row_below HO5.out.own (by first | exact HA.out | exact HA.out.drew | exact Go.below_drewN HA.out _)) ⟨w5.heap.size, 0, none⟩ 1 1 [.string S1, .string S2] (by rfl) (by simp) (World.news_of_block (heap_alloc_new w5 _)) (by simp [Value.oneCell']) (by omega) (by have := HLE.out; unfold maxLen; omega) (by have := HLE.out; omega) (by have := HSZ.out; simp; omega) (w5.heap.size + 1) (by simp) ?_
                   intro g6 cap6 w6 hown6 hgrow6 hat6 hlt6
                   have HO6 := Lib.hid (OpS.push (x := x) HS0.out HO5.out HA.out hgrow6 (show w6.ownsRow w.heap.size 114 2 (.slice (some ⟨g6, 0, none⟩) (l.length + 1) cap6) (l.length + 1) (acells l ++ [.string ⟨x.1.toArray⟩, .string ⟨x.2.toArray⟩]) from by rw [← HS1.out, ← HS2.out]; exact hown6) (by have := HO2.out.len; have := HM3.out; have := HO.out.len; omega))
                   have hb6 : w6.heap[w1.heap.size]? = some (.cells #[.int .i64 1, .string S, .slice pv l.length cv, .bool false, .string ⟨#[]⟩] 52 (0, 0)) := (hgrow6.block w1.heap.size (Nat.lt_of_lt_of_le (Array.getElem?_eq_some_iff.1 HO5.out.zb).1 HA.out.size) (fun e => row_ne HO5.out.own HO5.out.zb (by decide) w1.heap.size e.symm rfl)).trans ((HA.out.block w1.heap.size (Array.getElem?_eq_some_iff.1 HO5.out.zb).1).trans HO5.out.zb)
                   obtain ⟨t0, t1, t2, t3, t4, tz⟩ := cellsX5 hb6
                   clear hown6 hgrow6 hat6 hlt6 hb6)
                | fail "no arm")
              all_goals
                have HM5 := Lib.hid (show m0 ≠ 0 ∧ a + k + m0 ≤ xs.length ∧ a + (k + m0 + m) ≤ xs.length from ⟨HM3.out, by have := HO2.out.sc.le.1; omega, HO5.out.sc.le.1⟩)
                clear t0 t1 t2 t3 t4 tz q0 q1 q2 q3 q4 qz r0 r1 r2 r3 r4 rz s2
                go_wp2_with fail
                go_roundw
                case rel => exact ⟨k + m0 + m, g, l ++ [x], _, HO6.out, by have := HM5.out; have := HG.out; omega, by rw [← HRE.out, show a + (k + m0 + m) = a + k + (m0 + m) by omega]⟩
                case measure => rw [HO6.out.sc.atOf, HAT.out]; have := HM5.out; omega
        · have HT2 := Lib.hid (fun (wx : World) (hs : SC wx pb xs (a + k + m0) f) => take_c hs ⟨#[47, 62]⟩ (by decide) true hx2)
          rw [opn_em (by rw [← hm0, hdd]; exact hx1) (by rw [← hm0, hdd]; exact hx2), ← hm0] at hop
          have HRE := Lib.hid hop
          clear ho hop hx1 hx2 hdd hm0
          go_wp2_with fail
          refine HB1.out.mono ?_
          rintro e w2 ⟨v2, rfl, hv, hs, hc⟩
          unfold VBl at hv
          subst hv
          have HK2 := Lib.hid (HT1.out w2 hs)
          have HOA := Lib.hid (HO.out.step (k' := k + m0) ((show a + k + m0 = a + (k + m0) by omega) ▸ hs) hc (by omega))
          clear hs hc
          go_wp2_with fail
          refine HK2.out.mono ?_
          rintro e w3 ⟨rfl, hs, hc⟩
          have HK3 := Lib.hid (HT2.out w3 hs)
          have HOB := Lib.hid (HOA.out.step (k' := k + m0) ((show a + k + m0 = a + (k + m0) by omega) ▸ hs) hc (by omega))
          clear hs hc
          go_wp2_with fail
          refine HK3.out.mono ?_
          rintro e w4 ⟨rfl, hs, hc⟩
          have HO2 := Lib.hid (HOB.out.step (k' := k + m0 + 2) ((show a + k + m0 + 2 = a + (k + m0 + 2) by omega) ▸ hs) hc (by omega))
          clear hs hc
          obtain ⟨q0, q1, q2, q3, q4, qz⟩ := cellsX5 HO2.out.zb
          obtain ⟨pv, cv, hsv⟩ := row_form HO2.out.own
          subst hsv
          have HGV := Lib.hid (HO2.out.give HS0.out (.inr rfl) true)
          obtain ⟨c0, c1, c2, c3, c4, hb0⟩ := HO2.out.za
          obtain ⟨z0, z1, z2, z3, z4, zz⟩ := cellsX5 ((Below.heap_setCell w4 ⟨w1.heap.size, 3, none⟩ (.bool true) w.heap.size (by simp; omega)).trans hb0)
          clear hb0
          go_wp2_with fail
          refine bodyPost_ret (results_cell_row Tryz.results112 _ _ w.heap.size 52 _ (0, 0) _ rfl HGV.out.1 Tryz.underlying52 rfl infoT5) rfl ?_
          rw [← HRE.out]
          exact ⟨_, rfl, ⟨_, by rw [HSS.out]; rfl, HGV.out.2.2.2⟩, HGV.out.2.1, HGV.out.2.2.1⟩
      · have HT1 := Lib.hid (fun (wx : World) (hs : SC wx pb xs (a + k + m0) f) => take_c hs ⟨#[62]⟩ (by decide) true hx1)
        rw [opn_gt (by rw [← hm0, hdd]; exact hx1), ← hm0] at hop
        have HRE := Lib.hid hop
        clear ho hop hx1 hdd hm0
        go_wp2_with fail
        refine HB1.out.mono ?_
        rintro e w2 ⟨v2, rfl, hv, hs, hc⟩
        unfold VBl at hv
        subst hv
        have HK2 := Lib.hid (HT1.out w2 hs)
        have HOA := Lib.hid (HO.out.step (k' := k + m0) ((show a + k + m0 = a + (k + m0) by omega) ▸ hs) hc (by omega))
        clear hs hc
        go_wp2_with fail
        refine HK2.out.mono ?_
        rintro e w3 ⟨rfl, hs, hc⟩
        have HO2 := Lib.hid (HOA.out.step (k' := k + m0 + 1) ((show a + k + m0 + 1 = a + (k + m0 + 1) by omega) ▸ hs) hc (by omega))
        clear hs hc
        obtain ⟨q0, q1, q2, q3, q4, qz⟩ := cellsX5 HO2.out.zb
        obtain ⟨pv, cv, hsv⟩ := row_form HO2.out.own
        subst hsv
        have HGV := Lib.hid (HO2.out.give HS0.out (.inl rfl) false)
        obtain ⟨c0, c1, c2, c3, c4, hb0⟩ := HO2.out.za
        obtain ⟨z0, z1, z2, z3, z4, zz⟩ := cellsX5 hb0
        clear hb0
        go_wp2_with fail
        refine bodyPost_ret (results_cell_row Tryz.results112 _ _ w.heap.size 52 _ (0, 0) _ rfl HGV.out.1 Tryz.underlying52 rfl infoT5) rfl ?_
        rw [← HRE.out]
        exact ⟨_, rfl, ⟨_, by rw [HSS.out]; rfl, HGV.out.2.2.2⟩, HGV.out.2.1, HGV.out.2.2.1⟩
end Go.Proofs.YtpcajjbdlfookaaGreatDoor
