/- shape: read, the parts of an instance's path as a slice. -/
import Derived.Test.YtllhlmdhnmdihaaDoorMi14
import Derived.RangeFuncBox
import Derived.Maps.AppendAt
import Derived.Deep.RegionHeld3
import Derived.Test.YtllhlmdhnmdihaaDoorByS
import Derived.Shelf.Strings.Builder1
import Derived.Shelf.Strings.OnBuilder
import Derived.Test.YtllhlmdhnmdihaaDoorProg
namespace Go.Proofs.YtllhlmdhnmdihaaDoor.P
open Go Go.RowKit Go.Shelf
set_option linter.unusedVariables false

attribute [local go_sem] Oper.semAt_some

def pcells (ps : List PT) : List Value := ps.flatMap fun p => [.string ⟨p.1.toArray⟩, .int .i64 p.2]
theorem pcells_length (ps : List PT) : (pcells ps).length = ps.length * 2 := by
  induction ps with
  | nil => rfl
  | cons p r ih => simp only [pcells, List.flatMap_cons, List.length_append, List.length_cons, List.length_nil] at ih ⊢; omega
theorem pcells_snoc (ps : List PT) (p : PT) : pcells (ps ++ [p]) = pcells ps ++ [.string ⟨p.1.toArray⟩, .int .i64 p.2] := by simp [pcells]
theorem infoPart : (Tryd.prog.info? 110).map (fun i => (i.zero, i.size, i.bytes)) = some (some (.agg #[.string ⟨#[]⟩, .int .i64 0]), 2, 24) := by kernel_rfl

/-- What read leaves. -/
def ReadPost (w : World) (l : List UInt8) (e : Ending) (w' : World) : Prop :=
  ∃ v, e = .returned (.tuple #[v, .bool (readF l).isSome]) ∧ (∀ ps, readF l = some ps → w'.ownsRow w.heap.size 110 2 v ps.length (pcells ps)) ∧ Below w.heap.size w w'

/-- What has been read so far. -/
def ReadI (B : Nat) (w : World) (pre : List (List UInt8)) (W : World) : Prop :=
  (∃ ps v, allF pre = some ps ∧ Boxed W (B + 1 + 1) 106 v ∧ W.ownsRow (B + 12) 110 2 v ps.length (pcells ps)) ∧
  Boxed W B 106 (.slice none 0 0) ∧ Boxed W (B + 1) 4 (.bool false) ∧ Below B w W

theorem readI_abides (B : Nat) (w : World) (hw : w.heap.size = B) : Abides (terr (fun k => k = B + 3) (B + 4) 8) (ReadI B w) := by
  rintro pre A C ⟨⟨ps, v, h1, h2, h3⟩, h4, h5, h6⟩ ht
  have nt : ∀ k, k < B + 3 → ¬ terr (fun k => k = B + 3) (B + 4) 8 k := by rintro k hk (h | h) <;> omega
  have key : ∀ k o, k < B + 3 → A.heap[k]? = some o → C.heap[k]? = some o := fun k o hk h => (ht.block k (Array.getElem?_eq_some_iff.1 h).1 (nt k hk)).trans h
  refine ⟨⟨ps, v, h1, key _ _ (by omega) h2, ?_⟩, key _ _ (by omega) h4, key _ _ (by omega) h5, ?_⟩
  · rcases h3.2 with ⟨rfl, h0⟩ | ⟨g, cap, cur, rfl, hbg, hg, rest⟩
    · exact ⟨h3.1, .inl ⟨rfl, h0⟩⟩
    · refine ⟨h3.1, .inr ⟨g, cap, cur, rfl, hbg, ?_, rest⟩⟩
      exact (ht.block g (Array.getElem?_eq_some_iff.1 hg).1 (by rintro (h | h) <;> omega)).trans hg
  · have h7 := h6.size
    exact h6.trans ⟨ht.os, ht.tape, ht.output, ht.size, fun k hk => ht.block k (by omega) (nt k (by omega))⟩

/-- A piece was no part: what is left then. -/
def ReadN (B : Nat) (w : World) (c : Code) (pre : List (List UInt8)) (W : World) : Prop :=
  (c = .ret ∧ allF pre = none) ∧ Boxed W B 106 (.slice none 0 0) ∧ Boxed W (B + 1) 4 (.bool false) ∧ Below B w W
theorem readN_abides (B : Nat) (w : World) (hw : w.heap.size = B) (c : Code) : Abides (terr (fun k => k = B + 3) (B + 4) 8) (ReadN B w c) := by
  rintro pre A C ⟨h1, h4, h5, h6⟩ ht
  have nt : ∀ k, k < B + 3 → ¬ terr (fun k => k = B + 3) (B + 4) 8 k := by rintro k hk (h | h) <;> omega
  have key : ∀ k o, k < B + 3 → A.heap[k]? = some o → C.heap[k]? = some o := fun k o hk h => (ht.block k (Array.getElem?_eq_some_iff.1 h).1 (nt k hk)).trans h
  refine ⟨h1, key _ _ (by omega) h4, key _ _ (by omega) h5, ?_⟩
  have h7 := h6.size
  exact h6.trans ⟨ht.os, ht.tape, ht.output, ht.size, fun k hk => ht.block k (by omega) (nt k (by omega))⟩
/-- The loop's variables, set. -/
def pc : Option PT → Array Value
  | some p => #[.string ⟨p.1.toArray⟩, .int .i64 p.2]
  | none => #[.string ⟨#[]⟩, .int .i64 0]
theorem pA_pc (o : Option PT) : pA o = .agg (pc o) := by cases o <;> rfl
def ReadA (B : Nat) (doc : ByteArray) (x : List UInt8) (a' : Act) (W : World) : Prop :=
  ∃ Bx, B + 12 ≤ Bx ∧ W.heap[Bx]? = some (.cells (pc (partF x)) 110 (0, 0)) ∧
    a' = { tmps := #[.string doc, undef, .pointer (some ⟨B, 0, none⟩), .pointer (some ⟨B + 1, 0, none⟩), .pointer (some ⟨B + 1 + 1, 0, none⟩), .pointer (some ⟨Bx, 0, none⟩), .bool (partF x).isSome, .string doc,
      .func (.func 64) #[] #[.pointer (some ⟨B + 1 + 1 + 1, 0, none⟩)], pA (partF x), .bool (partF x).isSome, undef, undef, undef, undef, undef, undef, undef], defers := [] }
theorem readA_abides (B : Nat) (doc : ByteArray) (x : List UInt8) (a' : Act) : Abides (terr (fun k => k = B + 3) (B + 4) 8) (fun (_ : Unit) W => ReadA B doc x a' W) := by
  rintro _ A C ⟨Bx, h1, h2, h3⟩ ht
  exact ⟨Bx, h1, (ht.block Bx (Array.getElem?_eq_some_iff.1 h2).1 (by rintro (h | h) <;> omega)).trans h2, h3⟩

theorem cells_new2 (W : World) (a b : Value) (T : TypeId) : ∀ (j : Nat) u, [a, b][j]? = some u → (W.alloc (.cells #[a, b] T)).cell? ((⟨W.heap.size, 0, none⟩ : Addr).add j) = some u := by
  intro j u hj
  rw [Addr.add_lit, Nat.zero_add]
  simp only [World.cell?, World.alloc_heap_new]
  match j, hj with
  | 0, hj => simpa using hj
  | 1, hj => simpa using hj
theorem allF_snoc (pre : List (List UInt8)) (x : List UInt8) (ps : List PT) (h : allF pre = some ps) : allF (pre ++ [x]) = (partF x).map fun p => ps ++ [p] := by
  rw [allF_append, h]
  simp only [allF]
  cases partF x <;> rfl
/-- Behind the append and the store. -/
theorem ReadI.push {B : Nat} {w W5 w1 : World} {pre : List (List UInt8)} {x : List UInt8} {ps : List PT} {p : PT} {v v' : Value} {tmp : Obj} (h1 : allF pre = some ps) (hp : partF x = some p)
    (h2 : Boxed W5 (B + 1 + 1) 106 v) (h3 : W5.ownsRow (B + 12) 110 2 v ps.length (pcells ps))
    (h4 : Boxed W5 B 106 (.slice none 0 0)) (h5 : Boxed W5 (B + 1) 4 (.bool false)) (h6 : Below B w W5) (hge : B + 12 ≤ W5.heap.size)
    (hown : w1.ownsRow (B + 12) 110 2 v' (ps.length + 1) (pcells ps ++ [.string ⟨p.1.toArray⟩, .int .i64 p.2])) (hg : (W5.alloc tmp).grownBy w1 v.ownBlock) :
    Boxed w1 (B + 1 + 1) 106 v ∧ Keeps (terr (fun k => k = B + 3) (B + 4) 8) W5 (w1.setCell ⟨B + 1 + 1, 0, none⟩ v') ∧ ReadI B w (pre ++ [x]) (w1.setCell ⟨B + 1 + 1, 0, none⟩ v') := by
  have hlow : Below (B + 12) W5 w1 := ((Below.refl _ W5).alloc hge _).grown hg (by simp; omega) (fun k ek => (h3.lt k ek).1)
  have b2 : Boxed w1 (B + 1 + 1) 106 v := (hlow.block _ (by omega)).trans h2
  have b4 : Boxed w1 B 106 (.slice none 0 0) := (hlow.block _ (by omega)).trans h4
  have b5 : Boxed w1 (B + 1) 4 (.bool false) := (hlow.block _ (by omega)).trans h5
  refine ⟨b2, (Keeps.of_below hlow (by rintro k (h | h) _ <;> omega)).setCell (by rintro (h | h) <;> simp only at h <;> omega) _, ⟨ps ++ [p], v', by rw [allF_snoc pre x ps h1, hp]; rfl, b2.set v', ?_⟩, b4.other (by omega) _, b5.other (by omega) _, ?_⟩
  · rw [List.length_append, pcells_snoc]
    refine hown.kept (grownBy_setCell' w1 _ v') (.inr ?_)
    intro e
    have := (hown.lt _ e).1
    omega
  · exact ((h6.trans (hlow.mono (by omega))).setCell (p := ⟨B + 1 + 1, 0, none⟩) (by simp only; omega) _)

set_option maxRecDepth 100000 in
set_option maxHeartbeats 4000000 in
theorem read_c (doc : ByteArray) (hdoc : doc.size ≤ 2097152) (w : World) : Calls Tryd.prog 41 #[.string doc] w (ReadPost w doc.data.toList) := by
  refine (callsIn_wide (n := 10)).1 ?_
  obtain ⟨i0, hi, hz0, hz1, hz2⟩ := info_parts infoPart
  have HC := Lib.hid (fun w => parts_c doc w)
  refine callsIn_of_wp_marks Tryd.func41 rfl trivial ?_ rfl
  simp only [Tryd.ntmps41, List.size_toArray, List.length_cons, List.length_nil, Nat.reduceAdd, Nat.reduceSub, Array.replicate_succ, Array.replicate_zero, List.push_toArray, List.append_toArray, List.nil_append, List.cons_append]
  gi_wp2_with (refine ⟨trivial, ?_⟩; gi_at_call 51; refine (callsIn_wide.2 (HC.out _)).mono ?_; rintro e w' ⟨rfl, rfl⟩)
  obtain ⟨W4, hW4⟩ : ∃ W4, ((((w.alloc (.cells #[.slice none 0 0] 106)).alloc (.cells #[.bool false] 4)).alloc (.cells #[.slice none 0 0] 106)).alloc (.cells #[.string doc] 9)) = W4 := ⟨_, rfl⟩
  have bR : Boxed W4 w.heap.size 106 (.slice none 0 0) := by rw [← hW4]; exact ((((Boxed.new w _ _).alloc _).alloc _).alloc _)
  have bO : Boxed W4 (w.heap.size + 1) 4 (.bool false) := by
    rw [← hW4]
    have := Boxed.new (w.alloc (.cells #[.slice none 0 0] 106)) 4 (.bool false)
    rw [World.size_alloc] at this
    exact (this.alloc _).alloc _
  have bL : Boxed W4 (w.heap.size + 1 + 1) 106 (.slice none 0 0) := by
    rw [← hW4]
    have := Boxed.new ((w.alloc (.cells #[.slice none 0 0] 106)).alloc (.cells #[.bool false] 4)) 106 (.slice none 0 0)
    rw [World.size_alloc, World.size_alloc] at this
    exact this.alloc _
  have bD : Boxed W4 (w.heap.size + 3) 9 (.string doc) := by
    rw [← hW4]
    have := Boxed.new (((w.alloc (.cells #[.slice none 0 0] 106)).alloc (.cells #[.bool false] 4)).alloc (.cells #[.slice none 0 0] 106)) 9 (.string doc)
    rw [World.size_alloc, World.size_alloc, World.size_alloc] at this
    exact this
  have hB4 : Below w.heap.size w W4 := by rw [← hW4]; exact ((((Below.refl _ w).alloc (Nat.le_refl _) _).alloc (by simp) _).alloc (by simp; omega) _).alloc (by simp; omega) _
  have hsz : W4.heap.size = w.heap.size + 4 := by rw [← hW4]; simp
  rw [hW4]
  clear hW4
  obtain ⟨B, hB⟩ : ∃ B, w.heap.size = B := ⟨_, rfl⟩
  rw [hB] at bR bO bL bD hB4 hsz ⊢
  have HSZ := Lib.hid hsz
  have HBW := Lib.hid hB
  have hab := readI_abides B w hB
  have hab2 := readN_abides B w hB
  refine rangeX rfl (by omega) (gf := 64) (lb := #[.pointer (some ⟨B + 1 + 1 + 1, 0, none⟩)]) rfl trivial (enters_of Tryd.func64 (by kernel_rfl) rfl)
    (parts_seq _ (by omega) (B + 3) doc (by omega) W4 bD) (Below.refl _ _) (by rintro k rfl; omega) (fun _ => rfl)
    (ReadI B w) (ReadN B w) (by rw [hsz]; exact hab) (fun c => by rw [hsz]; exact hab2 c)
    ⟨⟨[], _, rfl, bL, World.ownsRow_nil _ _ _ _⟩, bR, bO, hB4⟩
    (ReadA B doc) (fun x a' => by rw [hsz]; exact readA_abides B doc x a')
    ?assign ?body ?done ?stop
  case assign =>
    intro l2 pre x W5 C hI hge hC
    have hge' : B + 12 ≤ W5.heap.size := by omega
    have HC2 := Lib.hid hC
    have HI := Lib.hid hI
    clear hC hI hge hsz hab hab2 hB bR bO bL bD hB4
    cases hp : partF x with
    | none =>
      have HP := Lib.hid hp
      simp only [pV, pA, Option.isSome_none]
      clear hp
      gi_wp2
      refine HC2.out _ _ ((Keeps.refl _ _).alloc _) ?_ ⟨W5.heap.size, hge', ?_, ?_⟩
      · obtain ⟨⟨ps, v, h1, h2, h3⟩, h4, h5, h6⟩ := HI.out
        exact ⟨⟨ps, v, h1, h2.alloc _, h3.alloc _⟩, h4.alloc _, h5.alloc _, h6.alloc (by omega) _⟩
      · rw [HP.out]; exact World.alloc_heap_new _ _
      · rw [HP.out]; rfl
    | some p =>
      have HP := Lib.hid hp
      simp only [pV, pA, Option.isSome_some]
      clear hp
      gi_wp2
      refine HC2.out _ _ ((Keeps.refl _ _).alloc _) ?_ ⟨W5.heap.size, hge', ?_, ?_⟩
      · obtain ⟨⟨ps, v, h1, h2, h3⟩, h4, h5, h6⟩ := HI.out
        exact ⟨⟨ps, v, h1, h2.alloc _, h3.alloc _⟩, h4.alloc _, h5.alloc _, h6.alloc (by omega) _⟩
      · rw [HP.out]; exact World.alloc_heap_new _ _
      · rw [HP.out]; rfl
  case body =>
    rintro l2 pre x a' W5 ⟨⟨ps, v, h1, h2, h3⟩, h4, h5, h6⟩ hge ⟨Bx, hBx, hbx, rfl⟩ hG
    have hge' : B + 12 ≤ W5.heap.size := by omega
    have hlen : ps.length ≤ 2097153 := by
      have e1 := allF_length _ _ h1
      have e2 := hG.length_le
      have e3 := splitD_length doc.data.toList
      have e4 : doc.data.toList.length = doc.size := Array.length_toList
      rw [List.length_append] at e2
      simp only [List.length_cons, List.length_nil] at e2
      omega
    have HSP : Hid (terr (fun k => k = B + 3) W4.heap.size (2 + 6) = terr (fun k => k = B + 3) (B + 4) 8) := Lib.hid (by rw [HSZ.out])
    have c2 := h2.cell
    have c4 := h4.cell
    have f4 := h4.frozen
    have c5 := h5.cell
    have f5 := h5.frozen
    have H1 := Lib.hid (And.intro h1 (And.intro h2 (And.intro h3 (And.intro h4 (And.intro h5 h6)))))
    cases hp : partF x with
    | none =>
      have HN := Lib.hid (show allF (pre ++ [x]) = none from by rw [allF_snoc pre x ps h1, hp]; rfl)
      clear h1 h2 h3 h4 h5 h6 hG hge hsz hab hab2 hB bR bO bL bD hB4 hp hbx
      gi_wp2
      refine ⟨?_, ⟨rfl, HN.out⟩, ?_, ?_, ?_⟩
      · rw [HSP.out]
        exact ((Keeps.refl _ W5).setCell (p := ⟨B, 0, none⟩) (by rintro (h | h) <;> simp only at h <;> omega) _).setCell (p := ⟨B + 1, 0, none⟩) (by rintro (h | h) <;> simp only at h <;> omega) _
      · exact (H1.out.2.2.2.1.set _).other (by omega) _
      · exact (H1.out.2.2.2.2.1.other (by omega) _).set _
      · exact (H1.out.2.2.2.2.2.setCell (p := ⟨B, 0, none⟩) (Nat.le_refl _) _).setCell (p := ⟨B + 1, 0, none⟩) (by simp only; omega) _
    | some p =>
      rw [hp] at hbx
      have x0 : W5.cell? ⟨Bx, 0, none⟩ = some (.string ⟨p.1.toArray⟩) := by simp [World.cell?, hbx, pc]
      have x1 : W5.cell? ⟨Bx, 1, none⟩ = some (.int .i64 p.2) := by simp [World.cell?, hbx, pc]
      have HP := Lib.hid hp
      have hown0 := h3
      clear h1 h2 h3 h4 h5 h6 hG hge hsz hab hab2 hB bR bO bL bD hB4 hp hbx
      gi_wp2_with (gi_at_builtin; refine wpListIn_append_own _ rfl _ _ 106 rfl (B + 12) 110 i0 (.agg #[.string ⟨#[]⟩, .int .i64 0]) 2 24 Tryd.underlying106 hi hz0 hz1 hz2 rfl (by decide) _ _ _ rfl (hown0.alloc _) ⟨W5.heap.size, 0, none⟩ 1 1 [.string ⟨p.1.toArray⟩, .int .i64 p.2] rfl rfl (cells_new2 _ _ _ _) (by simp [Value.oneCell']) (by unfold maxLen; omega) (by omega) (by simp; omega) ?_; intro v' w1 hown' hgrow _; obtain ⟨g', cap', rfl⟩ := ownsRow_succ hown'; have HQ := Lib.hid (ReadI.push H1.out.1 HP.out H1.out.2.1 H1.out.2.2.1 H1.out.2.2.2.1 H1.out.2.2.2.2.1 H1.out.2.2.2.2.2 hge' hown' hgrow); have hc1 := HQ.out.1.cell; have hf1 := HQ.out.1.frozen; clear hown' hgrow)
      exact ⟨by rw [HSP.out]; exact HQ.out.2.1, HQ.out.2.2⟩
  case done =>
    rintro D xs W5 hDe rfl ⟨⟨ps, v, h1, h2, h3⟩, h4, h5, h6⟩ hD
    have c2 := h2.cell
    have c4 := h4.cell
    have f4 := h4.frozen
    have c5 := h5.cell
    have f5 := h5.frozen
    obtain ⟨sp, sn, sc, rfl⟩ : ∃ sp sn sc, v = .slice sp sn sc := by
      rcases h3.2 with ⟨rfl, _⟩ | ⟨g, cap, cur, rfl, _⟩
      · exact ⟨_, _, _, rfl⟩
      · exact ⟨_, _, _, rfl⟩
    have hlen : ps.length = (splitD doc.data.toList).length := allF_length _ _ h1
    have hDB : D ≠ B ∧ D ≠ B + 1 := by rw [hDe, HSZ.out]; omega
    have b4 : Boxed ((W5.setCell ⟨B, 0, none⟩ (.slice sp sn sc)).setCell ⟨B + 1, 0, none⟩ (.bool true)) B 106 (.slice sp sn sc) := (h4.set _).other (by omega) _
    have b5 : Boxed ((W5.setCell ⟨B, 0, none⟩ (.slice sp sn sc)).setCell ⟨B + 1, 0, none⟩ (.bool true)) (B + 1) 4 (.bool true) := (h5.other (by omega) _).set _
    have hD2 : ((W5.setCell ⟨B, 0, none⟩ (.slice sp sn sc)).setCell ⟨B + 1, 0, none⟩ (.bool true)).heap[D]? = some (.deferred (some [])) := by
      rw [Below.heap_setCell _ _ _ _ (by simp only; exact hDB.2), Below.heap_setCell _ _ _ _ (by simp only; exact hDB.1)]
      exact hD
    have q4 : (((W5.setCell ⟨B, 0, none⟩ (.slice sp sn sc)).setCell ⟨B + 1, 0, none⟩ (.bool true)).putObj D (.deferred none)).cell? ⟨B, 0, none⟩ = some (.slice sp sn sc) := Boxed.cell (t := 106) ((World.putObj_heap_other (fun e => hDB.1 e.symm)).trans b4)
    have q5 : (((W5.setCell ⟨B, 0, none⟩ (.slice sp sn sc)).setCell ⟨B + 1, 0, none⟩ (.bool true)).putObj D (.deferred none)).cell? ⟨B + 1, 0, none⟩ = some (.bool true) := Boxed.cell (t := 4) ((World.putObj_heap_other (fun e => hDB.2 e.symm)).trans b5)
    have hr : readF doc.data.toList = some ps := h1
    have hown : (((W5.setCell ⟨B, 0, none⟩ (.slice sp sn sc)).setCell ⟨B + 1, 0, none⟩ (.bool true)).putObj D (.deferred none)).ownsRow (B + 12) 110 2 (.slice sp sn sc) ps.length (pcells ps) := by
      have hlt := h3.lt
      refine ownsRow_putObj ((h3.kept (grownBy_setCell' W5 B _) (.inr ?_)).kept (grownBy_setCell' _ (B + 1) _) (.inr ?_)) _ hD2 rfl
      · intro e; have := (hlt _ e).1; omega
      · intro e; have := (hlt _ e).1; omega
    have hbel : Below B w (((W5.setCell ⟨B, 0, none⟩ (.slice sp sn sc)).setCell ⟨B + 1, 0, none⟩ (.bool true)).putObj D (.deferred none)) := by
      have h7 : Below B w ((W5.setCell ⟨B, 0, none⟩ (.slice sp sn sc)).setCell ⟨B + 1, 0, none⟩ (.bool true)) := (h6.setCell (p := ⟨B, 0, none⟩) (Nat.le_refl _) _).setCell (p := ⟨B + 1, 0, none⟩) (by simp only; omega) _
      exact h7.grown (grownBy_putObj' _ D _) (by have := h7.size; omega) (fun k e => by cases e; rw [hDe, HSZ.out]; omega)
    have HPost : ReadPost w doc.data.toList (.returned (.tuple #[.slice sp sn sc, .bool true])) (((W5.setCell ⟨B, 0, none⟩ (.slice sp sn sc)).setCell ⟨B + 1, 0, none⟩ (.bool true)).putObj D (.deferred none)) := by
      refine ⟨.slice sp sn sc, by rw [hr]; rfl, fun qs hq => ?_, by rw [HBW.out]; exact hbel⟩
      rw [hr] at hq
      cases hq
      rw [HBW.out]
      exact ⟨hown.1, by
        rcases hown.2 with h | ⟨g, cap, cur, e1, e2, rest⟩
        · exact .inl h
        · exact .inr ⟨g, cap, cur, e1, by omega, rest⟩⟩
    have HPP := Lib.hid HPost
    clear HPost hbel hown b4 b5 hr hlen hab hab2 hB bR bO bL bD hB4 h1 h2 h3 h4 h5 h6 hDe hsz
    gi_wp2
    refine ⟨by simp, .inl ⟨_, _, rfl, run_takeDeferred hD2, ?_⟩⟩
    exact ⟨.tuple #[.slice sp sn sc, .bool true], by simp [results, Tryd.results41, go_sem, q4, q5], HPP.out⟩
  case stop =>
    rintro D c pre W5 hDe hS ⟨⟨rfl, hnone⟩, h4, h5, h6⟩ hD
    have hDB : D ≠ B ∧ D ≠ B + 1 := by rw [hDe, HSZ.out]; omega
    have q4 : (W5.putObj D (.deferred none)).cell? ⟨B, 0, none⟩ = some (.slice none 0 0) := Boxed.cell (t := 106) ((World.putObj_heap_other (fun e => hDB.1 e.symm)).trans h4)
    have q5 : (W5.putObj D (.deferred none)).cell? ⟨B + 1, 0, none⟩ = some (.bool false) := Boxed.cell (t := 4) ((World.putObj_heap_other (fun e => hDB.2 e.symm)).trans h5)
    have hr : readF doc.data.toList = none := by
      obtain ⟨rest, hrest⟩ := hS
      unfold readF
      rw [← hrest]
      exact allF_prefix _ _ hnone
    have HPost : ReadPost w doc.data.toList (.returned (.tuple #[.slice none 0 0, .bool false])) (W5.putObj D (.deferred none)) := by
      refine ⟨.slice none 0 0, by rw [hr]; rfl, (fun qs hq => by rw [hr] at hq; cases hq), ?_⟩
      rw [HBW.out]
      exact h6.grown (grownBy_putObj' _ D _) (by have := h6.size; omega) (fun k e => by cases e; rw [hDe, HSZ.out]; omega)
    have HPP := Lib.hid HPost
    clear HPost hr hab hab2 hB bR bO bL bD hB4 h4 h5 h6 hDe hsz hS hnone
    gi_wp2
    refine ⟨by simp, .inl ⟨_, _, rfl, run_takeDeferred hD, ?_⟩⟩
    exact ⟨.tuple #[.slice none 0 0, .bool false], by simp [results, Tryd.results41, go_sem, q4, q5], HPP.out⟩
end Go.Proofs.YtllhlmdhnmdihaaDoor.P

/- shape: the order of two parts, of two lists of parts. -/
namespace Go.Proofs.YtllhlmdhnmdihaaDoor.P
open Go Go.RowKit Go.Shelf
set_option linter.unusedVariables false

theorem cells2' {w : World} {b : Nat} {u v : Value} {T : TypeId} (h : w.heap[b]? = some (.cells #[u, v] T (0, 0))) : w.cell? ⟨b, 0, none⟩ = some u ∧ w.cell? ⟨b, 1, none⟩ = some v := by
  constructor <;> simp [World.cell?, h]

def orI (x y : Int) : Int := if x = 0 then y else x

def pVal (p : PT) : Value := .agg #[.string ⟨p.1.toArray⟩, .int .i64 p.2]
theorem cmpP_or (p q : PT) : orI (Lib.compareBytes p.1 q.1) (Lib.compareInt p.2 q.2) = cmpP p q := by
  unfold orI cmpP cmpI Lib.compareInt
  rfl

end Go.Proofs.YtllhlmdhnmdihaaDoor.P

/- shape: Order. -/
namespace Go.Proofs.YtllhlmdhnmdihaaDoor.P
open Go Go.RowKit Go.Shelf
set_option linter.unusedVariables false

theorem _root_.Go.Proofs.YtllhlmdhnmdihaaDoor.OwnS.below {w w' : World} {base : Nat} {e : TypeId} {size : Nat} {v : Value} {n : Nat} {xs : List Value} (h : OwnS w base e size v n xs) (hb : Below w.heap.size w w') : OwnS w' base e size v n xs :=
  h.keep fun g hg => hb.block g (h.lt g hg)
theorem pcells_get (L : List PT) (k : Nat) (hk : k < L.length) : (pcells L)[k * 2]? = some (.string ⟨L[k].1.toArray⟩) ∧ (pcells L)[k * 2 + 1]? = some (.int .i64 L[k].2) := by
  induction L generalizing k with
  | nil => simp at hk
  | cons p r ih =>
    cases k with
    | zero => simp [pcells]
    | succ k =>
      have := ih k (by simpa using hk)
      rw [show (k + 1) * 2 = k * 2 + 2 from by omega]
      simpa [pcells, show k * 2 + 2 + 1 = k * 2 + 1 + 2 from rfl] using this
theorem _root_.Go.Proofs.YtllhlmdhnmdihaaDoor.OwnS.part {w : World} {base : Nat} {v : Value} {L : List PT} (h : OwnS w base 110 2 v L.length (pcells L)) {k : Nat} (hk : k < L.length) : ∃ g off c, v = .slice (some ⟨g, off, none⟩) L.length c ∧ g < w.heap.size ∧
    w.cell? ⟨g, off + k * 2, none⟩ = some (.string ⟨L[k].1.toArray⟩) ∧ w.cell? ⟨g, off + k * 2 + 1, none⟩ = some (.int .i64 L[k].2) := by
  rcases h.2 with ⟨rfl, h0⟩ | ⟨g, off, cap, cur, hv, _⟩
  · omega
  · refine ⟨g, off, cap, hv, h.lt g (by rw [hv]; rfl), h.cell hv (k * 2) _ (pcells_get L k hk).1, ?_⟩
    have := h.cell hv (k * 2 + 1) _ (pcells_get L k hk).2
    rwa [← Nat.add_assoc] at this

end Go.Proofs.YtllhlmdhnmdihaaDoor.P

/-
  DERIVED: THE SHELF's CONTRACTS AT THIS DUMP, IN PLAIN WORDS (tools/lay-plain.mjs out of 'YtllhlmdhnmdihaaDoorSj.lean', which tools/lay-shelf.mjs wrote): THE SAME DECLARATIONS UNDER THE SAME NAMES: 'import', 'namespace', 'open', 'def', 'theorem' AND NOTHING ELSE: no command of the shelf's: FOR A HAND-IN. Each laying: the table of numbers ('.._ren') and one theorem, a field a fact of the dump's own or the kernel's comparison; each contract: ONE APPLICATION.
-/
namespace Go.Proofs
open Go.Shelf
def Tryd.lays156_ren : Go.Shelf.Ren := ⟨fun | 156 => 42 | 165 => 52 | 166 => 53 | 169 => 54 | 240 => 66 | 241 => 67 | 276 => 73 | 277 => 74 | n => n, fun | 31 => 31 | 9 => 9 | 3 => 3 | 4 => 4 | 0 => 0 | 20 => 20 | 72 => 130 | 76 => 134 | 70 => 127 | 37 => 128 | 75 => 133 | 127 => 148 | 164 => 155 | 5 => 5 | 80 => 136 | n => n, fun | n => n⟩
theorem Tryd.lays156 : Go.Proofs.Lays.n156 Tryd.prog Tryd.lays156_ren := {
  mixed := by kernel_rfl
  f156 := Tryd.func42.trans (congrArg some (by kernel_rfl))
  f165 := Tryd.func52.trans (congrArg some (by kernel_rfl))
  f166 := Tryd.func53.trans (congrArg some (by kernel_rfl))
  f169 := Tryd.func54.trans (congrArg some (by kernel_rfl))
  f240 := Tryd.func66.trans (congrArg some (by kernel_rfl))
  f241 := Tryd.func67.trans (congrArg some (by kernel_rfl))
  f276 := Tryd.func73.trans (congrArg some (by kernel_rfl))
  f277 := Tryd.func74.trans (congrArg some (by kernel_rfl))
  t0 := Tryd.underlying0
  a0 := Tryd.isAgg0
  z0 := Tryd.sizeOf0
  v0 := Tryd.zeroValue0
  t3 := Tryd.underlying3
  a3 := Tryd.isAgg3
  z3 := Tryd.sizeOf3
  v3 := Tryd.zeroValue3
  t4 := Tryd.underlying4
  a4 := Tryd.isAgg4
  z4 := Tryd.sizeOf4
  v4 := Tryd.zeroValue4
  t9 := Tryd.underlying9
  a9 := Tryd.isAgg9
  z9 := Tryd.sizeOf9
  v9 := Tryd.zeroValue9
  t20 := Tryd.underlying20
  a20 := Tryd.isAgg20
  z20 := Tryd.sizeOf20
  v20 := Tryd.zeroValue20
  t31 := Tryd.underlying31
  a31 := Tryd.isAgg31
  z31 := Tryd.sizeOf31
  v31 := Tryd.zeroValue31
  t37 := Tryd.underlying128
  a37 := Tryd.isAgg128
  z37 := Tryd.sizeOf128
  v37 := Tryd.zeroValue128
  t70 := Tryd.underlying127
  a70 := Tryd.isAgg127
  z70 := Tryd.sizeOf127
  v70 := Tryd.zeroValue127
  t72 := Tryd.underlying130
  a72 := Tryd.isAgg130
  z72 := Tryd.sizeOf130
  v72 := Tryd.zeroValue130
  t75 := Tryd.underlying133
  a75 := Tryd.isAgg133
  z75 := Tryd.sizeOf133
  v75 := Tryd.zeroValue133
  t76 := Tryd.underlying134
  a76 := Tryd.isAgg134
  z76 := Tryd.sizeOf134
  v76 := Tryd.zeroValue134
  t127 := Tryd.underlying148
  a127 := Tryd.isAgg148
  z127 := Tryd.sizeOf148
  v127 := Tryd.zeroValue148
  t164 := Tryd.underlying155
  a164 := Tryd.isAgg155
  z164 := Tryd.sizeOf155
  v164 := Tryd.zeroValue155 }
theorem Tryd.Builder_Extra_156 : Builder.Extra Tryd.prog Tryd.lays156_ren := {
  sizeBuilder := by kernel_rfl
  liesBuilder := by kernel_rfl
  t5 := Tryd.underlying5
  a5 := Tryd.isAgg5
  z5 := Tryd.sizeOf5
  v5 := Tryd.zeroValue5
  infoByte := by kernel_rfl
  cellsByte := by kernel_rfl
  sizeByte := by kernel_rfl
  neB5 := by decide }
theorem Tryd.strings_Join_none (a : Option Addr) (c : Nat) (sep : ByteArray) (w : World) :
    Calls Tryd.prog 42 #[.slice a 0 c, .string sep] w fun e w' => e = .returned (.string ⟨#[]⟩) ∧ w' = w := Any.strings_Join_none Tryd.lays156 Tryd.Builder_Extra_156 a c sep w
theorem Tryd.strings_Join (bk o c : Nat) (xs : List ByteArray) (sep : ByteArray) (w : World)
    (hcells : ∀ (j : Nat) x, xs[j]? = some x → w.cell? ⟨bk, o + j, none⟩ = some (.string x))
    (hbk : bk < w.heap.size) (hN : xs.length ≤ 140737488355328) (hcap : xs.length ≤ c)
    (hlen : (Lib.join (xs.map (·.data.toList)) sep.data.toList).length ≤ 140737488355328) :
    Calls Tryd.prog 42 #[.slice (some ⟨bk, o, none⟩) xs.length c, .string sep] w fun e w' => e = .returned (.string ⟨(Lib.join (xs.map (·.data.toList)) sep.data.toList).toArray⟩) ∧ RowKit.Below w.heap.size w w' := Any.strings_Join Tryd.lays156 Tryd.Builder_Extra_156 bk o c xs sep w hcells hbk hN hcap hlen
end Go.Proofs
