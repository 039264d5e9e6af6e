/- xmltree: growing rows. -/
import Derived.Test.YtgkoknckaajgmaaGreatDoorTea
import Derived.Deep.AppendLies
import Derived.RegionDies
import Derived.Test.YtgkoknckaajgmaaGreatDoorHt
import Derived.Deep.RegionLaw
import Derived.Shelf.Abstract
namespace Go.Proofs.YtgkoknckaajgmaaGreatDoor
open Go Go.RowKit Go.Deep
set_option linter.unusedVariables false

theorem rowT_lt {w : World} {base n size : Nat} {e : TypeId} {v : Value} {xs : List Value} (h : w.ownsRow base e size v n xs) : ∀ g, v.ownBlock = some g → base ≤ g ∧ g < w.heap.size := by
  intro k hk
  rcases h.2 with ⟨rfl, _⟩ | ⟨g, cap, cur, rfl, hb, hg, _⟩
  · simp [Value.ownBlock] at hk
  · simp [Value.ownBlock] at hk
    subst hk
    exact ⟨hb, (Array.getElem?_eq_some_iff.1 hg).1⟩
theorem rowT_keep {w w' : World} {base n size : Nat} {e : TypeId} {v : Value} {xs : List Value} (h : w.ownsRow base e size v n xs) (hb : ∀ g, v.ownBlock = some g → w'.heap[g]? = w.heap[g]?) : w'.ownsRow base e size v n xs := by
  refine ⟨h.1, h.2.imp id ?_⟩
  rintro ⟨g, cap, cur, rfl, h2, h3, h4⟩
  exact ⟨g, cap, cur, rfl, h2, (hb g rfl).trans h3, h4⟩
theorem rowT_below {w w' : World} {base n size : Nat} {e : TypeId} {v : Value} {xs : List Value} (h : w.ownsRow base e size v n xs) (hb : Below w.heap.size w w') : w'.ownsRow base e size v n xs :=
  rowT_keep h fun g hg => hb.block g (rowT_lt h g hg).2
theorem rowT_form {w : World} {base n size : Nat} {e : TypeId} {v : Value} {xs : List Value} (h : w.ownsRow base e size v n xs) : ∃ p c, v = .slice p n c := by
  rcases h.2 with ⟨rfl, rfl⟩ | ⟨g, cap, cur, rfl, _⟩
  · exact ⟨_, _, rfl⟩
  · exact ⟨_, _, rfl⟩
end Go.Proofs.YtgkoknckaajgmaaGreatDoor

/- xmltree: clone: a copy with memory of its own. -/
namespace Go.Proofs.YtgkoknckaajgmaaGreatDoor
open Go Go.RowKit Go.Deep
set_option linter.unusedVariables false
set_option linter.unusedSimpArgs false

theorem ecells_set : ∀ (L : List EV) (k : Nat) (hk : k < L.length) (x : EV), (((((ecells L).set (k * 5) (.string x.1.space)).set (k * 5 + 1) (.string x.1.name)).set (k * 5 + 2) x.2.1).set (k * 5 + 3) x.2.2).set (k * 5 + 4) (.string x.1.text) = ecells (L.set k x)
  | [], k, hk, x => by simp at hk
  | y :: t, 0, hk, x => rfl
  | y :: t, k + 1, hk, x => by
    have ih := ecells_set t k (by simpa using hk) x
    have e : ecells (y :: t) = .string y.1.space :: .string y.1.name :: y.2.1 :: y.2.2 :: .string y.1.text :: ecells t := rfl
    have e2 : ecells ((y :: t).set (k + 1) x) = .string y.1.space :: .string y.1.name :: y.2.1 :: y.2.2 :: .string y.1.text :: ecells (t.set k x) := rfl
    rw [e2, ← ih, e, show (k + 1) * 5 = k * 5 + 5 by omega, show k * 5 + 5 + 1 = k * 5 + 1 + 5 by omega, show k * 5 + 5 + 2 = k * 5 + 2 + 5 by omega, show k * 5 + 5 + 3 = k * 5 + 3 + 5 by omega, show k * 5 + 5 + 4 = k * 5 + 4 + 5 by omega]
    simp only [List.set_cons_succ]
/-- A store of a whole element into a row. -/
abbrev putE (w : World) (g o : Nat) (c0 c1 c2 c3 c4 : Value) : World := ((((w.setCell ⟨g, o, none⟩ c0).setCell ⟨g, o + 1, none⟩ c1).setCell ⟨g, o + 2, none⟩ c2).setCell ⟨g, o + 3, none⟩ c3).setCell ⟨g, o + 4, none⟩ c4
theorem Own1.put {w : World} {g off n c : Nat} {E : TypeId} {L : List EV} (h : Own1 w g off E n 5 c (ecells L)) (k : Nat) (hk : k < L.length) (x : EV) : Own1 (putE w g (off + k * 5) (.string x.1.space) (.string x.1.name) x.2.1 x.2.2 (.string x.1.text)) g off E n 5 c (ecells (L.set k x)) := by
  have hl : (ecells L).length = L.length * 5 := flat_len ecell_len L
  have h1 := h.set (k * 5) (by omega) (.string x.1.space)
  have h2 := h1.set (k * 5 + 1) (by simp only [List.length_set]; omega) (.string x.1.name)
  have h3 := h2.set (k * 5 + 2) (by simp only [List.length_set]; omega) x.2.1
  have h4 := h3.set (k * 5 + 3) (by simp only [List.length_set]; omega) x.2.2
  have h5 := h4.set (k * 5 + 4) (by simp only [List.length_set]; omega) (.string x.1.text)
  rw [ecells_set L k hk x] at h5
  exact h5
theorem putE_chg (w : World) (g o : Nat) (c0 c1 c2 c3 c4 : Value) : Chg [g] w (putE w g o c0 c1 c2 c3 c4) := ((((((Chg.refl [g] w).set' _ _ _ (.inl (by simp))).set' _ _ _ (.inl (by simp))).set' _ _ _ (.inl (by simp))).set' _ _ _ (.inl (by simp))).set' _ _ _ (.inl (by simp)))
theorem KidsD.ofOwn1 {ok : Nat → Prop} {w : World} {d g off c n : Nat} {L : List EV} (h : Own1 w g off 27 n 5 c (ecells L)) (hn : n = L.length) (hok : ok g) (hk : KidsV ok w d L) : KidsD ok w (d + 1) (.slice (some ⟨g, off, none⟩) n c) (L.map (·.1)) := by
  subst hn
  have h' := h
  obtain ⟨cur, hg, hl, h1, h2, hx⟩ := h
  refine ⟨_, c, by rw [List.length_map], by rw [List.length_map]; exact h1, h2, by simp, fun hp => ?_⟩
  refine ⟨g, off, rfl, (Array.getElem?_eq_some_iff.1 hg).1, hok, fun k hk2 => ?_⟩
  rw [List.length_map] at hk2
  have hc := fun j (hj : j < 5) u (hu : (ecell L[k])[j]? = some u) => h'.cell (k * 5 + j) u (by unfold ecells; rw [flat_at ecell_len L k j hk2 hj]; exact hu)
  obtain ⟨hp1, hk1⟩ := hk _ (List.getElem_mem hk2)
  rw [List.getElem_map]
  exact ⟨L[k].2.1, L[k].2.2, ⟨hc 0 (by omega) _ rfl, by rw [Nat.add_assoc]; exact hc 1 (by omega) _ rfl, by rw [Nat.add_assoc]; exact hc 2 (by omega) _ rfl, by rw [Nat.add_assoc]; exact hc 3 (by omega) _ rfl, by rw [Nat.add_assoc]; exact hc 4 (by omega) _ rfl⟩, hp1, hk1⟩
theorem infoE5 : (Tryz.prog.info? 27).map (·.size) = some 5 := by kernel_rfl
abbrev ZE : Obj := .cells #[.string ⟨#[]⟩, .string ⟨#[]⟩, .slice none 0 0, .slice none 0 0, .string ⟨#[]⟩] 27
/-- Blocks that neither the two boxes nor the row are. -/
def okC (ok : Nat → Prop) (B g : Nat) : Nat → Prop := fun b => ok b ∧ b ≠ B ∧ b ≠ B + 1 ∧ b ≠ g
/-- While the kids are copied. -/
def ClI (ok : Nat → Prop) (w : World) (S1 S2 S3 : ByteArray) (p1 : Option Addr) (N c1 g off M c2 d : Nat) (la : List PT) (lk : List ET) (wr : World) : Prop :=
  ∃ L : List EV, L.map (·.1) = lk ∧ Own1 wr g off 27 M 5 c2 (ecells L) ∧ KidsV (okC ok w.heap.size g) wr d L ∧ wr.heap[w.heap.size]? = some (.cells #[.string S1, .string S2, .slice p1 N c1, .slice (some ⟨g, off, none⟩) M c2, .string S3] 27 (0, 0)) ∧ wr.heap[w.heap.size + 1]? = some ZE ∧ PairsR (okC ok w.heap.size g) wr (.slice p1 N c1) la ∧ Below w.heap.size w wr ∧ w.heap.size + 2 ≤ g
theorem ClI.put {ok : Nat → Prop} {w wr w3 : World} {S1 S2 S3 : ByteArray} {p1 : Option Addr} {N c1 g off M c2 d : Nat} {la : List PT} {lk : List ET} (h : ClI ok w S1 S2 S3 p1 N c1 g off M c2 d la lk wr) (hb3 : Below wr.heap.size wr w3) {k : Nat} {x : ET} (hk : k < lk.length) (hx : lk[k] = x) {av kv : Value} (hE : PairsR (okC ok w.heap.size g) w3 av x.attrs ∧ KidsD (okC ok w.heap.size g) w3 d kv x.kids) :
    ClI ok w S1 S2 S3 p1 N c1 g off M c2 d la lk (putE w3 g (off + k * 5) (.string x.space) (.string x.name) av kv (.string x.text)) := by
  obtain ⟨L, hL, hown, hLV, hx0, hx1, hp, hb, hg⟩ := h
  have hLl : L.length = lk.length := by rw [← hL, List.length_map]
  have hc := putE_chg w3 g (off + k * 5) (.string x.space) (.string x.name) av kv (.string x.text)
  obtain ⟨cur, hgl, _⟩ := id hown
  have hglt := (Array.getElem?_eq_some_iff.1 hgl).1
  have hkeep : ∀ b, okC ok w.heap.size g b → b < w3.heap.size → (putE w3 g (off + k * 5) (.string x.space) (.string x.name) av kv (.string x.text)).heap[b]? = w3.heap[b]? ∧ okC ok w.heap.size g b := fun b ho hl => ⟨hc.block b hl (by simpa using ho.2.2.2), ho⟩
  have hblk : ∀ b, b < wr.heap.size → b ≠ g → (putE w3 g (off + k * 5) (.string x.space) (.string x.name) av kv (.string x.text)).heap[b]? = wr.heap[b]? := fun b hl hn => (hc.block b (Nat.lt_of_lt_of_le hl hb3.size) (by simpa using hn)).trans (hb3.block b hl)
  refine ⟨L.set k (x, av, kv), ?_, (hown.keep (hb3.block g hglt)).put k (by omega) (x, av, kv), ?_, (hblk _ (Array.getElem?_eq_some_iff.1 hx0).1 (by omega)).trans hx0, (hblk _ (Array.getElem?_eq_some_iff.1 hx1).1 (by omega)).trans hx1, (hp.below hb3).keep hc.size hkeep, ?_, hg⟩
  · rw [List.map_set, hL, ← hx]
    exact List.set_getElem_self ..
  · intro y hy
    rcases List.mem_or_eq_of_mem_set hy with h1 | rfl
    · have := (hLV.below hb3).keep hc.size hkeep
      exact this y h1
    · exact ⟨hE.1.keep hc.size hkeep, hE.2.keep hc.size hkeep⟩
  · exact ((Chg.of_below (S := []) (hb.trans (hb3.mono hb.size))).then hc (fun i hi => by simp at hi; subst hi; exact .inr (by omega))).below (Nat.le_refl _) (by simp)
def okB (ok : Nat → Prop) (B : Nat) : Nat → Prop := fun b => ok b ∧ b ≠ B ∧ b ≠ B + 1
/-- A copy is handed out. -/
theorem clone_end {ok : Nat → Prop} {w wr : World} {d : Nat} {S1 S2 S3 : ByteArray} {p1 p2 : Option Addr} {N c1 M c2 : Nat} {lp : List PT} {lk : List ET} (hx1 : wr.heap[w.heap.size + 1]? = some ZE) (hp : PairsR (okB ok w.heap.size) wr (.slice p1 N c1) lp) (hk : KidsD (okB ok w.heap.size) wr d (.slice p2 M c2) lk) (hb : Below w.heap.size w wr) :
    (put5 wr (w.heap.size + 1) (.string S1) (.string S2) (.slice p1 N c1) (.slice p2 M c2) (.string S3)).heap[w.heap.size + 1]? = some (.cells #[.string S1, .string S2, .slice p1 N c1, .slice p2 M c2, .string S3] 27 (0, 0)) ∧
    ElemD ok (put5 wr (w.heap.size + 1) (.string S1) (.string S2) (.slice p1 N c1) (.slice p2 M c2) (.string S3)) d (.agg #[.string S1, .string S2, .slice p1 N c1, .slice p2 M c2, .string S3]) (.mk S1 S2 lp lk S3) ∧
    Below w.heap.size w (put5 wr (w.heap.size + 1) (.string S1) (.string S2) (.slice p1 N c1) (.slice p2 M c2) (.string S3)) := by
  have hc := put5_chg wr (w.heap.size + 1) (.string S1) (.string S2) (.slice p1 N c1) (.slice p2 M c2) (.string S3)
  have hk1 : ∀ b, okB ok w.heap.size b → b < wr.heap.size → (put5 wr (w.heap.size + 1) (.string S1) (.string S2) (.slice p1 N c1) (.slice p2 M c2) (.string S3)).heap[b]? = wr.heap[b]? ∧ ok b := fun b ho hl => ⟨hc.block b hl (by simpa using ho.2.2), ho.1⟩
  refine ⟨put5_at hx1 _ _ _ _ _, ⟨_, _, rfl, hp.keep hc.size hk1, hk.keep hc.size hk1⟩, ?_⟩
  exact ((Chg.of_below (S := []) hb).then hc (fun i hi => by simp at hi; subst hi; exact .inr (by omega))).below (Nat.le_refl _) (by simp)

set_option maxRecDepth 100000 in
set_option maxHeartbeats 4000000 in
theorem clone_c {ok : Nat → Prop} : ∀ (d : Nat) (w : World) (v : Value) (t : ET), ElemD ok w d v t → (∀ b, w.heap.size ≤ b → ok b) → okE d t → Calls Tryz.prog 34 #[v] w fun e w' => ∃ v', e = .returned v' ∧ ElemD ok w' d v' t ∧ Below w.heap.size w w' := by
  intro d
  suffices H : ∀ (ok : Nat → Prop) (w : World) (v : Value) (t : ET), ElemD ok w d v t → (∀ b, w.heap.size ≤ b → ok b) → okE d t → Calls Tryz.prog 34 #[v] w fun e w' => ∃ v', e = .returned v' ∧ ElemD ok w' d v' t ∧ Below w.heap.size w w' from H ok
  clear ok
  induction d with
  | zero => rintro ok w v t ⟨av, kv, _, _, h⟩; exact h.elim
  | succ d ih =>
    intro ok w v t h hok hE
    have HIH := Lib.hid ih
    obtain ⟨hA, hK, hKs⟩ := hE
    obtain ⟨av, kv, rfl, hp1, hk1⟩ := h
    obtain ⟨pa, ca, hav, hla, hma⟩ := hp1.form
    obtain ⟨pk, ck, hkv, hlk, hmk⟩ := hk1.form
    subst hav hkv
    obtain ⟨S1, hS1⟩ : ∃ S, S = t.space := ⟨_, rfl⟩
    obtain ⟨S2, hS2⟩ : ∃ S, S = t.name := ⟨_, rfl⟩
    obtain ⟨S3, hS3⟩ : ∃ S, S = t.text := ⟨_, rfl⟩
    obtain ⟨lp, hlp⟩ : ∃ l, l = t.attrs := ⟨_, rfl⟩
    obtain ⟨lk, hlk2⟩ : ∃ l, l = t.kids := ⟨_, rfl⟩
    have hT : t = .mk S1 S2 lp lk S3 := by cases t; simp [ET.space, ET.name, ET.text, ET.attrs, ET.kids] at *; simp [*]
    rw [← hS1, ← hS2, ← hS3, ← hlp, ← hlk2]
    rw [← hlp] at hp1 hA
    rw [← hlk2] at hk1 hK
    have hKs' : ∀ k (h : k < lk.length), okE d lk[k] := by subst hlk2; exact fun k h => hKs k h
    obtain ⟨L, hL, hLV, hLS⟩ := hk1.cells
    have hLl : L.length = lk.length := by rw [← hL, List.length_map]
    obtain ⟨N, hN⟩ : ∃ N, N = lp.length := ⟨_, rfl⟩
    obtain ⟨M, hM⟩ : ∃ M, M = lk.length := ⟨_, rfl⟩
    have hpn : pa = none → N = 0 ∧ ca = 0 ∧ pcells lp = [] := by
      intro hpa
      obtain ⟨a, c, e, h1, h2, h3, _⟩ := hp1
      cases e
      have := h3 hpa
      have h0 : lp.length = 0 := by omega
      obtain rfl := List.eq_nil_of_length_eq_zero h0
      exact ⟨hN, this, rfl⟩
    have hkn : pk = none → M = 0 ∧ ck = 0 ∧ ecells L = [] := by
      intro hpk
      obtain ⟨a, c, e, h1, h2, h3, _⟩ := hk1
      cases e
      have := h3 hpk
      have h0 : lk.length = 0 := by omega
      have hL0 : L = [] := List.eq_nil_of_length_eq_zero (by omega)
      subst hL0
      exact ⟨by omega, this, rfl⟩
    rw [← hN] at hp1 hA ⊢
    rw [← hM] at hk1 hK ⊢
    have hLS' : ∀ w', Below w.heap.size w w' → Src Tryz.prog 5 25 (.slice pk M ck) M (ecells L) w' := fun w' hw => by have := hLS w' hw; rwa [hLl, ← hM] at this
    have HLS := Lib.hid hLS'
    obtain ⟨W0, hW0⟩ : ∃ W0, W0 = (w.alloc (.cells #[.string S1, .string S2, .slice pa N ca, .slice pk M ck, .string S3] 27)).alloc ZE := ⟨_, rfl⟩
    have b1 := box_belT w (.cells #[.string S1, .string S2, .slice pa N ca, .slice pk M ck, .string S3] 27)
    have b2 := box_belT (w.alloc (.cells #[.string S1, .string S2, .slice pa N ca, .slice pk M ck, .string S3] 27)) ZE
    have hB0 : Below w.heap.size w W0 := hW0 ▸ (b1.trans (b2.mono (by simp)))
    have hX0 : W0.heap[w.heap.size]? = some (.cells #[.string S1, .string S2, .slice pa N ca, .slice pk M ck, .string S3] 27 (0, 0)) := hW0 ▸ ((b2.block w.heap.size (by simp)).trans (heap_alloc_new w (.cells #[.string S1, .string S2, .slice pa N ca, .slice pk M ck, .string S3] 27)))
    have hX1 : W0.heap[w.heap.size + 1]? = some ZE := by
      have := heap_alloc_new (w.alloc (.cells #[.string S1, .string S2, .slice pa N ca, .slice pk M ck, .string S3] 27)) ZE
      rw [World.size_alloc] at this
      rw [hW0]
      exact this
    have hsz0 : W0.heap.size = w.heap.size + 2 := by rw [hW0]; simp
    have hCP := cloneP_c W0 pa N ca (pcells lp) hpn (by rw [hN]; exact (hN ▸ hp1.below hB0).src) (fun o => by rw [hN]; exact (hN ▸ (hp1.below hB0).below (box_belT W0 o)).src) (by omega)
    have HCP := Lib.hid hCP
    have HW0 := Lib.hid hW0
    have HSZ0 := Lib.hid hsz0
    have HX0 := Lib.hid hX0
    have HX1 := Lib.hid hX1
    have HB0 := Lib.hid hB0
    have HK1 := Lib.hid hk1
    have HP1 := Lib.hid hp1
    have HL := Lib.hid (And.intro hL hLl)
    have HLV := Lib.hid hLV
    have HOK := Lib.hid hok
    have HKS := Lib.hid hKs'
    have HNM := Lib.hid (And.intro hN hM)
    have HT := Lib.hid hT
    have HKN := Lib.hid hkn
    clear ih hp1 hk1 hN hM hS1 hS2 hS3 hlp hlk2 hma hmk b1 b2 hL hLl hLV hok hKs hKs' hpn hkn hT hX0 hX1 hB0 hCP hW0 hsz0 hla hlk hLS hLS'
    go_enter Tryz.func34, Tryz.ntmps34
    go_wp2_with fail
    rw [← HW0.out]
    refine HCP.out.mono ?_
    rintro e w1 ⟨v1, rfl, hown1, hb1⟩
    obtain ⟨p1, c1, rfl, _⟩ := hown1.form
    rw [HSZ0.out] at hown1
    have hx1 := (hb1.block w.heap.size (by rw [HSZ0.out]; omega)).trans HX0.out
    have hx1' := (hb1.block (w.heap.size + 1) (by rw [HSZ0.out]; omega)).trans HX1.out
    have hlt1 : w.heap.size < w1.heap.size := (Array.getElem?_eq_some_iff.1 hx1).1
    obtain ⟨W1, hW1⟩ : ∃ W1, W1 = w1.setCell ⟨w.heap.size, 2, none⟩ (.slice p1 N c1) := ⟨_, rfl⟩
    have hX2 : W1.heap[w.heap.size]? = some (.cells #[.string S1, .string S2, .slice p1 N c1, .slice pk M ck, .string S3] 27 (0, 0)) := by rw [hW1, block_set _ _ _ _ _ _ _ hx1]; rfl
    have hX2' : W1.heap[w.heap.size + 1]? = some ZE := by rw [hW1, Below.heap_setCell _ _ _ _ (by simp)]; exact hx1'
    have hBw1 : Below w.heap.size w W1 := hW1 ▸ ((HB0.out.trans (hb1.mono HB0.out.size)).setCell (p := ⟨w.heap.size, 2, none⟩) (Nat.le_refl _) _)
    have hP1 : PairsR (okB ok w.heap.size) W1 (.slice p1 N c1) lp := by
      rw [HNM.out.1] at hown1 ⊢
      rw [hW1]
      rw [HNM.out.1]
      exact (PairsR.ofOwn (ok := fun b => w.heap.size + 2 ≤ b) hown1 (fun b hb => hb)).keep (by simp [World.setCell]) (fun b ho hl => ⟨Below.heap_setCell _ _ _ _ (by simp; omega), HOK.out b (by omega), by omega, by omega⟩)
    have hsz1 : w.heap.size + 2 ≤ W1.heap.size := by
      have := hb1.size
      rw [HSZ0.out] at this
      rw [hW1]
      simpa [World.setCell] using this
    have HCE := Lib.hid (cloneE_c W1 pk M ck (ecells L) HKN.out (fun o => HLS.out _ (hBw1.trans ((box_belT W1 o).mono hBw1.size))) (by omega))
    have HX2 := Lib.hid hX2
    have HX2' := Lib.hid hX2'
    have HBW1 := Lib.hid hBw1
    have HPR1 := Lib.hid hP1
    have HSZ1 := Lib.hid hsz1
    obtain ⟨x0, x1, x2, x3, x4, xz⟩ := cellsE5 hx1
    obtain ⟨y0, y1, y2, y3, y4, yz⟩ := cellsE5 hX2
    have HW1 := Lib.hid hW1
    clear hown1 hb1 hx1 hx1' hW1 hX2 hX2' hBw1 hP1 hsz1
    go_wp2_with fail
    rw [← HW1.out]
    refine HCE.out.mono ?_
    rintro e w2 ⟨v2, rfl, hown2, hb2⟩
    obtain ⟨p2, c2, rfl, hMc, _⟩ := hown2.form
    have hz1 := (hb2.block w.heap.size (by have := HSZ1.out; omega)).trans HX2.out
    have hz1' := (hb2.block (w.heap.size + 1) (by have := HSZ1.out; omega)).trans HX2'.out
    have hlt2 : w.heap.size < w2.heap.size := (Array.getElem?_eq_some_iff.1 hz1).1
    obtain ⟨W2, hW2⟩ : ∃ W2, W2 = w2.setCell ⟨w.heap.size, 3, none⟩ (.slice p2 M c2) := ⟨_, rfl⟩
    have hX3 : W2.heap[w.heap.size]? = some (.cells #[.string S1, .string S2, .slice p1 N c1, .slice p2 M c2, .string S3] 27 (0, 0)) := by rw [hW2, block_set _ _ _ _ _ _ _ hz1]; rfl
    have hX3' : W2.heap[w.heap.size + 1]? = some ZE := by rw [hW2, Below.heap_setCell _ _ _ _ (by simp)]; exact hz1'
    have hBw2 : Below w.heap.size w W2 := hW2 ▸ ((HBW1.out.trans (hb2.mono HBW1.out.size)).setCell (p := ⟨w.heap.size, 3, none⟩) (Nat.le_refl _) _)
    have hP2 : PairsR (fun b => okB ok w.heap.size b ∧ b < W1.heap.size) W2 (.slice p1 N c1) lp := by
      rw [hW2]
      exact ((HPR1.out.mono (ok' := fun b => okB ok w.heap.size b ∧ b < W1.heap.size) (fun b ho hl => ⟨ho, hl⟩)).below hb2).keep (by simp [World.setCell]) (fun b ho hl => ⟨Below.heap_setCell _ _ _ _ (by have := ho.1.2.1; simpa using this), ho⟩)
    obtain ⟨u0, u1, u2, u3, u4, uz⟩ := cellsE5 hz1
    obtain ⟨t0, t1, t2, t3, t4, tz⟩ := cellsE5 hX3
    have hOw : OwnS W2 W1.heap.size 27 5 (.slice p2 M c2) M (ecells L) := by
      rw [hW2]
      exact hown2.keep fun g hg => Below.heap_setCell _ _ _ _ (by have := hown2.baseT g hg; have := HSZ1.out; simp; omega)
    have HX3 := Lib.hid hX3
    have HX3' := Lib.hid hX3'
    have HBW2 := Lib.hid hBw2
    have HPR2 := Lib.hid hP2
    have HOW := Lib.hid hOw
    have HWW := Lib.hid hW2
    clear hown2 hb2 hz1 hz1' hW2 hX3 hX3' hBw2 hP2 hOw x0 x1 x2 x3 x4 xz y0 y1 y2 y3 y4 yz
    rcases Nat.eq_zero_or_pos M with hM0 | hM0
    · have hL0 : L = [] := List.eq_nil_of_length_eq_zero (by rw [HL.out.2, ← HNM.out.2]; exact hM0)
      have hk0 : lk = [] := by rw [← HL.out.1, hL0]; rfl
      have hKD : KidsD (okB ok w.heap.size) W2 (d + 1) (.slice p2 M c2) lk := by
        rw [hk0]
        have := HOW.out
        obtain ⟨a, c, e, h1, h2, h3⟩ := this.form
        cases e
        exact ⟨_, _, by rw [hM0]; rfl, by simp, h2, h3, by simp⟩
      have HEND := Lib.hid (clone_end (S1 := S1) (S2 := S2) (S3 := S3) HX3'.out (HPR2.out.mono (fun b ho _ => ho.1)) hKD HBW2.out)
      obtain ⟨r0, r1, r2, r3, r4, rz⟩ := cellsE5 HX3'.out
      clear hL0 hk0 hKD
      subst hM0
      go_wp2_with fail
      rw [← HWW.out]
      go_loopw [16] (fun s wr => s = .int .i64 0 ∧ wr = W2) (fun _ _ => 0)
      case atStart => exact ⟨rfl, by first | rfl | exact HWW.out.symm⟩
      case round =>
        obtain ⟨rfl, rfl⟩ := hrel
        go_wp2_with fail
        refine bodyPost_ret (results_cell_row Tryz.results34 _ _ (w.heap.size + 1) 27 _ (0, 0) _ rfl HEND.out.1 Tryz.underlying27 rfl infoE5) rfl ?_
        exact ⟨_, rfl, by rw [HT.out]; exact HEND.out.2.1, HEND.out.2.2⟩
    · obtain ⟨g, off, c', hv, hg1, hg2, hown⟩ := HOW.out.own1 hM0
      cases hv
      have hgw : w.heap.size + 2 ≤ g := by have := HSZ1.out; omega
      have hW1s := HBW1.out.size
      have HI0 := Lib.hid (show ClI ok w S1 S2 S3 p1 N c1 g off M c2 d lp lk W2 from
        ⟨L, HL.out.1, hown, (HLV.out.mono (ok' := okC ok w.heap.size g) (fun b ho hl => ⟨ho, by omega, by omega, by omega⟩)).below HBW2.out, HX3.out, HX3'.out, HPR2.out.mono (fun b ho _ => ⟨ho.1.1, ho.1.2.1, ho.1.2.2, by have := ho.2; omega⟩), HBW2.out, hgw⟩)
      have HGW := Lib.hid hgw
      clear hown hg1 hg2 hgw hMc
      go_wp2_with fail
      rw [← HWW.out]
      clear u0 u1 u2 u3 u4 uz t0 t1 t2 t3 t4 tz
      go_loopw [16] (fun s wr => ∃ k : Nat, k ≤ M ∧ s = .int .i64 k ∧ ClI ok w S1 S2 S3 p1 N c1 g off M c2 d lp lk wr) (fun s _ => M - (intOf s).toNat)
      case atStart => exact ⟨0, by omega, rfl, HI0.out⟩
      case round =>
        obtain ⟨k, hk, rfl, hI⟩ := hrel
        have HI := Lib.hid hI
        obtain ⟨L, hL, hown, hLV, hx0, hx1, hp, hb, hg⟩ := hI
        have hLl : L.length = lk.length := by rw [← hL, List.length_map]
        obtain ⟨r0, r1, r2, r3, r4, rz⟩ := cellsE5 hx0
        obtain ⟨z0, z1, z2, z3, z4, zz⟩ := cellsE5 hx1
        have hgw := HGW.out
        obtain ⟨cur, hgl, _⟩ := id hown
        have hglt := (Array.getElem?_eq_some_iff.1 hgl).1
        have hblt : w.heap.size < wr.heap.size := (Array.getElem?_eq_some_iff.1 hx0).1
        by_cases hlt : k < M
        · have hkl : k < lk.length := by rw [← HNM.out.2]; exact hlt
          have hkL : k < L.length := by rw [hLl]; exact hkl
          have hc := fun j (hj : j < 5) u (hu : (ecell L[k])[j]? = some u) => hown.cell (k * 5 + j) u (by unfold ecells; rw [flat_at ecell_len L k j hkL hj]; exact hu)
          have hE := hLV.elem hkL
          have hxk : lk[k] = L[k].1 := by subst hL; rw [List.getElem_map]
          have hokE := HKS.out k hkl
          rw [hxk] at hokE
          have d0 := hc 0 (by omega) _ rfl
          have d1 := hc 1 (by omega) _ rfl
          have d2 := hc 2 (by omega) _ rfl
          have d3 := hc 3 (by omega) _ rfl
          have d4 := hc 4 (by omega) _ rfl
          obtain ⟨pq, cq, hq1, -⟩ := (hLV _ (List.getElem_mem hkL)).1.form
          obtain ⟨pr, cr, hq2, -⟩ := (hLV _ (List.getElem_mem hkL)).2.form
          simp only [← Nat.add_assoc, Nat.add_zero] at d0 d1 d2 d3 d4
          obtain ⟨X, hX⟩ : ∃ X, X = L[k] := ⟨_, rfl⟩
          rw [← hX] at d0 d1 d2 d3 d4 hE hxk hokE hq1 hq2
          obtain ⟨x, av, kv⟩ := X
          dsimp only at d0 d1 d2 d3 d4 hE hxk hokE hq1 hq2
          subst hq1 hq2
          obtain ⟨T1, hT1⟩ : ∃ T, T = x.space := ⟨_, rfl⟩
          obtain ⟨T2, hT2⟩ : ∃ T, T = x.name := ⟨_, rfl⟩
          obtain ⟨T3, hT3⟩ : ∃ T, T = x.text := ⟨_, rfl⟩
          obtain ⟨n1, hn1⟩ : ∃ n, n = x.attrs.length := ⟨_, rfl⟩
          obtain ⟨n2, hn2⟩ : ∃ n, n = x.kids.length := ⟨_, rfl⟩
          rw [← hn1] at d2
          rw [← hn2] at d3
          rw [← hT1] at d0
          rw [← hT2] at d1
          rw [← hT3] at d4
          rw [← hT1, ← hT2, ← hT3, ← hn1, ← hn2] at hE
          have hba := box_belT wr (.cells #[.string T1, .string T2, .slice pq n1 cq, .slice pr n2 cr, .string T3] 27)
          have HREC := Lib.hid (fun q => HIH.out (okC ok w.heap.size g) ((wr.alloc (.cells #[.string T1, .string T2, .slice pq n1 cq, .slice pr n2 cr, .string T3] 27)).drewN q) _ x ((hE.below hba).below (below_drewN (Below.refl _ _) q)) (fun b hb2 => by
            have h9 : wr.heap.size + 1 ≤ b := by simpa using hb2
            exact ⟨HOK.out b (by have := hb.size; omega), by omega, by omega, by omega⟩) hokE)
          have HBA := Lib.hid (fun q => hba.trans (below_drewN (Below.refl wr.heap.size (wr.alloc (.cells #[.string T1, .string T2, .slice pq n1 cq, .slice pr n2 cr, .string T3] 27))) q))
          have HXK := Lib.hid hxk
          have HTT := Lib.hid (And.intro hT1 (And.intro hT2 hT3))
          have HY0 := Lib.hid hx0
          have HOWN := Lib.hid hown
          clear hL hown hLV hx0 hx1 hp hb hg hgl hc hE hX hokE hT1 hT2 hT3 hn1 hn2 hba hkL hLl z0 z1 z2 z3 z4 zz
          go_wp2_with fail
          go_region_with (go_at_call 34; refine (HREC.out _).mono ?_; rintro e w3 ⟨v3, rfl, hE3, hb3⟩; have hbq := (HBA.out _).trans (hb3.mono (HBA.out _).size); obtain ⟨av3, kv3, rfl, hp3, hk3⟩ := hE3; have HN := Lib.hid (HI.out.put hbq hkl HXK.out ⟨hp3, hk3⟩); obtain ⟨pu, cu, hu1, -⟩ := hp3.form; obtain ⟨pv, cv, hu2, -⟩ := hk3.form; subst hu1 hu2; rw [← HTT.out.1, ← HTT.out.2.1, ← HTT.out.2.2] at *; have hz0 := (hbq.block _ (Array.getElem?_eq_some_iff.1 HY0.out).1).trans HY0.out; obtain ⟨s0, s1, s2, s3, s4, sz⟩ := cellsE5 hz0; have hfr := (HOWN.out.keep (hbq.block g hglt)).frozen; have f0 := (hbq.cell (p := ⟨g, off + k * 5, none⟩) hglt).trans d0; have f1 := (hbq.cell (p := ⟨g, off + k * 5 + 1, none⟩) hglt).trans d1; have f2 := (hbq.cell (p := ⟨g, off + k * 5 + 2, none⟩) hglt).trans d2; have f3 := (hbq.cell (p := ⟨g, off + k * 5 + 3, none⟩) hglt).trans d3; have f4 := (hbq.cell (p := ⟨g, off + k * 5 + 4, none⟩) hglt).trans d4; clear hb3 hbq hp3 hk3 hz0)
          all_goals
            go_wp2_with fail
            go_roundw
            case rel => exact ⟨k + 1, by omega, by go_num, HN.out⟩
            case measure => simp [intOf]; omega
        · have HEND := Lib.hid (clone_end (S1 := S1) (S2 := S2) (S3 := S3) hx1 (hp.mono (fun b ho _ => ⟨ho.1, ho.2.1, ho.2.2.1⟩)) (hL ▸ (KidsD.ofOwn1 (ok := okB ok w.heap.size) hown (by rw [hLl, ← HNM.out.2]) ⟨HOK.out g (by omega), by omega, by omega⟩ (hLV.mono (fun b ho _ => ⟨ho.1, ho.2.1, ho.2.2.1⟩)))) hb)
          clear hL hown hLV hx0 hx1 hp hb hg hgl hLl
          go_wp2_with fail
          refine bodyPost_ret (results_cell_row Tryz.results34 _ _ (w.heap.size + 1) 27 _ (0, 0) _ rfl HEND.out.1 Tryz.underlying27 rfl infoE5) rfl ?_
          exact ⟨_, rfl, by rw [HT.out]; exact HEND.out.2.1, HEND.out.2.2⟩
end Go.Proofs.YtgkoknckaajgmaaGreatDoor

/- xmltree: the reference: Copy: a copy with memory of its own. -/
namespace Go.Proofs.YtgkoknckaajgmaaGreatDoor
open Go Go.RowKit Go.Deep
set_option linter.unusedVariables false
set_option linter.unusedSimpArgs false

/-- Blocks that neither the two boxes nor the growing row are. -/
def okV (ok : Nat → Prop) (B : Nat) (v : Value) : Nat → Prop := fun b => ok b ∧ b ≠ B ∧ b ≠ B + 1 ∧ v.ownBlock ≠ some b
/-- While the kids are copied. -/
structure CoI (ok : Nat → Prop) (w : World) (S1 S2 S3 : ByteArray) (p1 : Option Addr) (N c1 d : Nat) (la : List PT) (lk : List ET) (k : Nat) (L : List EV) (v : Value) (wr : World) : Prop where
  map : L.map (·.1) = lk.take k
  own : wr.ownsRow (w.heap.size + 2) 27 5 v L.length (ecells L)
  sub : KidsV (okV ok w.heap.size v) wr d L
  x0 : wr.heap[w.heap.size]? = some (.cells #[.string S1, .string S2, .slice p1 N c1, v, .string S3] 27 (0, 0))
  x1 : wr.heap[w.heap.size + 1]? = some ZE
  prs : PairsR (okV ok w.heap.size v) wr (.slice p1 N c1) la
  bel : Below w.heap.size w wr
theorem CoI.push {ok : Nat → Prop} {w wr W5 w6 : World} {S1 S2 S3 : ByteArray} {p1 : Option Addr} {N c1 d : Nat} {la : List PT} {lk : List ET} {k : Nat} {L : List EV} {v : Value} (h : CoI ok w S1 S2 S3 p1 N c1 d la lk k L v wr) (hb5 : Below wr.heap.size wr W5) {x : ET} (hk : k < lk.length) (hx : lk[k] = x) {av kv : Value}
    (hE : PairsR (okV ok w.heap.size v) W5 av x.attrs ∧ KidsD (okV ok w.heap.size v) W5 d kv x.kids) (hg : W5.grownBy w6 v.ownBlock) {g6 cap6 : Nat} (hown : w6.ownsRow (w.heap.size + 2) 27 5 (.slice (some ⟨g6, 0, none⟩) (L.length + 1) cap6) (L.length + 1) (ecells L ++ [.string x.space, .string x.name, av, kv, .string x.text]))
    (hat : v.ownBlock = some g6 ∨ g6 = W5.heap.size) : CoI ok w S1 S2 S3 p1 N c1 d la lk (k + 1) (L ++ [(x, av, kv)]) (.slice (some ⟨g6, 0, none⟩) (L.length + 1) cap6) (w6.setCell ⟨w.heap.size, 3, none⟩ (.slice (some ⟨g6, 0, none⟩) (L.length + 1) cap6)) := by
  have hrow := fun g hg => rowT_lt h.own g hg
  have hx0 := h.x0
  have hx1 := h.x1
  have hlt0 := (Array.getElem?_eq_some_iff.1 hx0).1
  have hlt1 := (Array.getElem?_eq_some_iff.1 hx1).1
  have hg6 := rowT_lt hown g6 rfl
  have hb6 : ∀ i, i < W5.heap.size → v.ownBlock ≠ some i → w6.heap[i]? = W5.heap[i]? := fun i hi hn => hg.block i hi (fun e => hn e.symm)
  have h06 : w6.heap[w.heap.size]? = some (.cells #[.string S1, .string S2, .slice p1 N c1, v, .string S3] 27 (0, 0)) := ((hb6 _ (Nat.lt_of_lt_of_le hlt0 hb5.size) (fun e => by have := hrow _ e; omega)).trans (hb5.block _ hlt0)).trans hx0
  have h16 : w6.heap[w.heap.size + 1]? = some ZE := ((hb6 _ (Nat.lt_of_lt_of_le hlt1 hb5.size) (fun e => by have := hrow _ e; omega)).trans (hb5.block _ hlt1)).trans hx1
  have hsz : W5.heap.size ≤ w6.heap.size := hg.size
  have hkeep : ∀ b, okV ok w.heap.size v b → b < W5.heap.size → (w6.setCell ⟨w.heap.size, 3, none⟩ (.slice (some ⟨g6, 0, none⟩) (L.length + 1) cap6)).heap[b]? = W5.heap[b]? ∧ okV ok w.heap.size (.slice (some ⟨g6, 0, none⟩) (L.length + 1) cap6) b := fun b ho hl =>
    ⟨(Below.heap_setCell _ _ _ _ (by simpa using ho.2.1)).trans (hb6 b hl ho.2.2.2), ho.1, ho.2.1, ho.2.2.1, fun e => by
      have e' : g6 = b := by simpa [Value.ownBlock] using e
      subst e'
      rcases hat with h9 | h9
      · exact ho.2.2.2 h9
      · omega⟩
  have hsz2 : W5.heap.size ≤ (w6.setCell ⟨w.heap.size, 3, none⟩ (.slice (some ⟨g6, 0, none⟩) (L.length + 1) cap6)).heap.size := by simpa [World.setCell] using hsz
  refine ⟨?_, ?_, ?_, ?_, ?_, (h.prs.below hb5).keep hsz2 hkeep, ?_⟩
  · rw [List.map_append, h.map, List.take_succ_eq_append_getElem hk, hx]
    rfl
  · have he : ecells (L ++ [(x, av, kv)]) = ecells L ++ [.string x.space, .string x.name, av, kv, .string x.text] := by unfold ecells; rw [List.flatMap_append]; rfl
    rw [he, List.length_append]
    exact rowT_keep hown fun g hg2 => Below.heap_setCell _ _ _ _ (by have := rowT_lt hown g hg2; simp; omega)
  · intro y hy
    rcases List.mem_append.1 hy with h1 | h1
    · exact ((h.sub.below hb5).keep hsz2 hkeep) y h1
    · obtain rfl : y = (x, av, kv) := by simpa using h1
      exact ⟨hE.1.keep hsz2 hkeep, hE.2.keep hsz2 hkeep⟩
  · rw [block_set _ _ _ _ _ _ _ h06]
    rfl
  · rw [Below.heap_setCell _ _ _ _ (by simp)]
    exact h16
  · exact ((h.bel.trans (hb5.mono h.bel.size)).grown hg (Nat.le_trans h.bel.size hb5.size) (fun b e => by have := hrow b e; omega)).setCell (p := ⟨w.heap.size, 3, none⟩) (Nat.le_refl _) _
theorem KidsD.ofRow {ok : Nat → Prop} {w : World} {base d : Nat} {v : Value} {L : List EV} (h : w.ownsRow base 27 5 v L.length (ecells L)) (hok : ∀ b, base ≤ b → ok b) (hk : KidsV ok w d L) : KidsD ok w (d + 1) v (L.map (·.1)) := KidsD.ofOwn (OwnS.ofRow h) hok hk
theorem news_cells (w w' : World) (cs : List Value) (E : TypeId) : ∀ j u, cs[j]? = some u → (w.alloc (.cells cs.toArray E)).cell? ((⟨w.heap.size, 0, none⟩ : Addr).add j) = some u := World.news_of_block (by simpa using heap_alloc_new w (.cells cs.toArray E))

set_option maxRecDepth 100000 in
set_option maxHeartbeats 16000000 in
theorem copy_c {ok : Nat → Prop} : ∀ (d : Nat) (w : World) (v : Value) (t : ET), ElemD ok w d v t → (∀ b, w.heap.size ≤ b → ok b) → okE d t → Calls Tryz.prog 35 #[v] w fun e w' => ∃ v', e = .returned v' ∧ ElemD ok w' d v' t ∧ Below w.heap.size w w' := by
  intro d
  suffices H : ∀ (ok : Nat → Prop) (w : World) (v : Value) (t : ET), ElemD ok w d v t → (∀ b, w.heap.size ≤ b → ok b) → okE d t → Calls Tryz.prog 35 #[v] w fun e w' => ∃ v', e = .returned v' ∧ ElemD ok w' d v' t ∧ Below w.heap.size w w' from H ok
  clear ok
  induction d with
  | zero => rintro ok w v t ⟨av, kv, _, _, h⟩; exact h.elim
  | succ d ih =>
    intro ok w v t h hok hE
    have HIH := Lib.hid ih
    obtain ⟨i1, hi1, hy0, hy1, hy2⟩ := infoPrX
    obtain ⟨i0, hi, hz0, hz1, hz2⟩ := infoElX
    obtain ⟨hA, hK, hKs⟩ := hE
    obtain ⟨av, kv, rfl, hp1, hk1⟩ := h
    obtain ⟨pa, ca, hav, hla, hma⟩ := hp1.form
    obtain ⟨pk, ck, hkv, hlk, hmk⟩ := hk1.form
    subst hav hkv
    obtain ⟨S1, hS1⟩ : ∃ S, S = t.space := ⟨_, rfl⟩
    obtain ⟨S2, hS2⟩ : ∃ S, S = t.name := ⟨_, rfl⟩
    obtain ⟨S3, hS3⟩ : ∃ S, S = t.text := ⟨_, rfl⟩
    obtain ⟨lp, hlp⟩ : ∃ l, l = t.attrs := ⟨_, rfl⟩
    obtain ⟨lk, hlk2⟩ : ∃ l, l = t.kids := ⟨_, rfl⟩
    have hT : t = .mk S1 S2 lp lk S3 := by cases t; simp [ET.space, ET.name, ET.text, ET.attrs, ET.kids] at *; simp [*]
    rw [← hS1, ← hS2, ← hS3, ← hlp, ← hlk2]
    rw [← hlp] at hp1 hA
    rw [← hlk2] at hk1 hK
    have hKs' : ∀ k (h : k < lk.length), okE d lk[k] := by subst hlk2; exact fun k h => hKs k h
    obtain ⟨N, hN⟩ : ∃ N, N = lp.length := ⟨_, rfl⟩
    obtain ⟨M, hM⟩ : ∃ M, M = lk.length := ⟨_, rfl⟩
    rw [← hN] at hp1 hA ⊢
    rw [← hM] at hk1 hK ⊢
    obtain ⟨W0, hW0⟩ : ∃ W0, W0 = (w.alloc (.cells #[.string S1, .string S2, .slice pa N ca, .slice pk M ck, .string S3] 27)).alloc ZE := ⟨_, rfl⟩
    have b1 := box_belT w (.cells #[.string S1, .string S2, .slice pa N ca, .slice pk M ck, .string S3] 27)
    have b2 := box_belT (w.alloc (.cells #[.string S1, .string S2, .slice pa N ca, .slice pk M ck, .string S3] 27)) ZE
    have hB0 : Below w.heap.size w W0 := hW0 ▸ (b1.trans (b2.mono (by simp)))
    have hX0 : W0.heap[w.heap.size]? = some (.cells #[.string S1, .string S2, .slice pa N ca, .slice pk M ck, .string S3] 27 (0, 0)) := hW0 ▸ ((b2.block w.heap.size (by simp)).trans (heap_alloc_new w (.cells #[.string S1, .string S2, .slice pa N ca, .slice pk M ck, .string S3] 27)))
    have hX1 : W0.heap[w.heap.size + 1]? = some ZE := by
      have := heap_alloc_new (w.alloc (.cells #[.string S1, .string S2, .slice pa N ca, .slice pk M ck, .string S3] 27)) ZE
      rw [World.size_alloc] at this
      rw [hW0]
      exact this
    have hsz0 : W0.heap.size = w.heap.size + 2 := by rw [hW0]; simp
    have hSP : ∀ o, Src Tryz.prog 3 24 (.slice pa N ca) N (pcells lp) (W0.alloc o) := fun o => by rw [hN]; exact (hN ▸ (hp1.below hB0).below (box_belT W0 o)).src
    have HSP := Lib.hid hSP
    have HW0 := Lib.hid hW0
    have HSZ0 := Lib.hid hsz0
    have HX0 := Lib.hid hX0
    have HX1 := Lib.hid hX1
    have HB0 := Lib.hid hB0
    have HK1 := Lib.hid (hk1.mono (ok' := fun b => ok b ∧ b < w.heap.size) (fun b ho hl => ⟨ho, hl⟩))
    have HOK := Lib.hid hok
    have HKS := Lib.hid hKs'
    have HNM := Lib.hid (And.intro hN hM)
    have HT := Lib.hid hT
    have hnN : N ≤ 110 := hA
    have hnM : M ≤ 110 := hK
    clear ih hp1 hk1 hN hM hS1 hS2 hS3 hlp hlk2 hma hmk b1 b2 hok hKs hKs' hT hX0 hX1 hB0 hSP hsz0 hla hlk
    go_enter Tryz.func35, Tryz.ntmps35
    obtain ⟨z0, z1, z2, z3, z4, zz⟩ := cellsE5 HX0.out
    go_upto_region 1 with (fail)
    rw [← hW0]
    have hltW : w.heap.size < W0.heap.size := by have := HSZ0.out; omega
    clear hW0
    go_wp2_with (at_builtin; refine wpList_append_S rfl _ _ 24 24 rfl W0.heap.size 63 i1 _ 3 48 Tryz.underlying24 hi1 hy0 hy1 hy2 rfl (Nat.succ_pos _) (.slice (some ⟨W0.heap.size, 0, none⟩) 0 0) 0 [] rfl (emptyT_own _ _ _) _ N (pcells lp) rfl (HSP.out _) ?c1 ?c2 ?c3 ?_)
    case c1 => unfold maxLen; omega
    case c2 => omega
    case c3 => simp
    intro v1 w1 hown1 hgrow1 hl1
    have hb01 : Below W0.heap.size W0 w1 := ((Below.refl _ _).alloc (Nat.le_refl _) _).grown hgrow1 (by simp) (fun k ek => by
      have : W0.heap.size = k := Option.some.inj ek
      omega)
    obtain ⟨p1, c1, rfl, _⟩ := hown1.form
    have hx0 := (hb01.block w.heap.size (by have := HSZ0.out; omega)).trans HX0.out
    have hx1 := (hb01.block (w.heap.size + 1) (by have := HSZ0.out; omega)).trans HX1.out
    have hbw1 := HB0.out.trans (hb01.mono HB0.out.size)
    have HI0 := Lib.hid (show CoI ok w S1 S2 S3 p1 N c1 d lp lk 0 [] (.slice none 0 0) ((w1.setCell ⟨w.heap.size, 2, none⟩ (.slice p1 N c1)).setCell ⟨w.heap.size, 3, none⟩ (.slice none 0 0)) from by
      have h2 : (w1.setCell ⟨w.heap.size, 2, none⟩ (.slice p1 N c1)).heap[w.heap.size]? = some (.cells #[.string S1, .string S2, .slice p1 N c1, .slice pk M ck, .string S3] 27 (0, 0)) := by rw [block_set _ _ _ _ _ _ _ hx0]; rfl
      refine ⟨rfl, World.ownsRow_nil _ _ _ _, fun x hx => by simp at hx, ?_, ?_, ?_, ?_⟩
      · rw [block_set _ _ _ _ _ _ _ h2]; rfl
      · rw [Below.heap_setCell _ _ _ _ (by simp), Below.heap_setCell _ _ _ _ (by simp)]; exact hx1
      · have hown2 : OwnS w1 W0.heap.size 63 3 (.slice p1 lp.length c1) lp.length (pcells lp) := by rw [← HNM.out.1]; exact hown1
        rw [HNM.out.1]
        refine (PairsR.ofOwn (ok := fun b => w.heap.size + 2 ≤ b) hown2 (fun b hb => by have := HSZ0.out; omega)).keep (by simp [World.setCell]) (fun b ho hl => ⟨?_, HOK.out b (by omega), by omega, by omega, by simp [Value.ownBlock]⟩)
        rw [Below.heap_setCell _ _ _ _ (by simp; omega), Below.heap_setCell _ _ _ _ (by simp; omega)]
      · exact (hbw1.setCell (p := ⟨w.heap.size, 2, none⟩) (Nat.le_refl _) _).setCell (p := ⟨w.heap.size, 3, none⟩) (Nat.le_refl _) _)
    obtain ⟨x0, x1, x2, x3, x4, xz⟩ := cellsE5 hx0
    clear hown1 hgrow1 hl1 hb01 hx0 hx1 hbw1 z0 z1 z2 z3 z4 zz
    go_wp2_with fail
    clear x0 x1 x2 x3 x4 xz
    go_loopw [16] (fun s wr => ∃ (k : Nat) (L : List EV) (v : Value), k ≤ M ∧ s = .int .i64 k ∧ CoI ok w S1 S2 S3 p1 N c1 d lp lk k L v wr) (fun s _ => M - (intOf s).toNat)
    case atStart => exact ⟨0, [], _, by omega, rfl, HI0.out⟩
    case round =>
      obtain ⟨k, L, v, hk, rfl, hI⟩ := hrel
      have HI := Lib.hid hI
      obtain ⟨pv, cv, hv⟩ := rowT_form hI.own
      subst hv
      have hLk : L.length = k := by have := congrArg List.length hI.map; rw [List.length_map, List.length_take, ← HNM.out.2] at this; omega
      have hblt : w.heap.size < wr.heap.size := (Array.getElem?_eq_some_iff.1 hI.x0).1
      by_cases hlt : k < M
      · have hkl : k < lk.length := by rw [← HNM.out.2]; exact hlt
        obtain ⟨b, o, pq, cq, pr, cr, hp, hbl, _, d0, d1, d2, d3, d4, hE⟩ := (HK1.out.below hI.bel).at hkl
        have hokE := HKS.out k hkl
        obtain ⟨x, hx⟩ : ∃ x, lk[k] = x := ⟨_, rfl⟩
        have HXK := Lib.hid hx
        rw [hx] at d0 d1 d2 d3 d4 hE hokE
        subst hp
        obtain ⟨T1, hT1⟩ : ∃ T, T = x.space := ⟨_, rfl⟩
        obtain ⟨T2, hT2⟩ : ∃ T, T = x.name := ⟨_, rfl⟩
        obtain ⟨T3, hT3⟩ : ∃ T, T = x.text := ⟨_, rfl⟩
        obtain ⟨n1, hn1⟩ : ∃ n, n = x.attrs.length := ⟨_, rfl⟩
        obtain ⟨n2, hn2⟩ : ∃ n, n = x.kids.length := ⟨_, rfl⟩
        rw [← hn1] at d2
        rw [← hn2] at d3
        rw [← hT1] at d0
        rw [← hT2] at d1
        rw [← hT3] at d4
        rw [← hT1, ← hT2, ← hT3, ← hn1, ← hn2] at hE
        have hrw := fun g hg => rowT_lt hI.own g hg
        have HC := Lib.hid (fun (W : World) (hb : Below wr.heap.size wr W) => (HIH.out (okV ok w.heap.size (.slice pv L.length cv)) W _ x ((hE.mono (fun b ho _ => ⟨ho.1, by have := ho.2; omega, by have := ho.2; omega, fun e => by have := hrw b e; have := ho.2; omega⟩)).below hb) (fun b hb2 => by
          have h9 := hb.size
          have h8 := hI.bel.size
          exact ⟨HOK.out b (by omega), by omega, by
            have := (Array.getElem?_eq_some_iff.1 hI.x1).1
            omega, fun e => by have := (hrw b e).2; omega⟩) hokE).mono (R' := fun (e : Ending) (w' : World) => ∃ v', e = Ending.returned v' ∧ ElemD (okV ok w.heap.size (.slice pv L.length cv)) w' d v' x ∧ Below wr.heap.size wr w') (fun (e : Ending) (w' : World) ⟨v', he, hE2, hb3⟩ => show ∃ v', e = Ending.returned v' ∧ ElemD (okV ok w.heap.size (.slice pv L.length cv)) w' d v' x ∧ Below wr.heap.size wr w' from ⟨v', he, hE2, hb.trans (hb3.mono hb.size)⟩))
        have HTT := Lib.hid (And.intro hT1 (And.intro hT2 hT3))
        have HBX := Lib.hid (fun o => box_belT wr o)
        obtain ⟨e0, e1, e2, e3, e4, ez⟩ := cellsE5 hI.x0
        obtain ⟨f0, f1, f2, f3, f4, fz⟩ := cellsE5 (heap_alloc_new wr (.cells #[.string T1, .string T2, .slice pq n1 cq, .slice pr n2 cr, .string T3] 27))
        have hez : (wr.alloc (.cells #[.string T1, .string T2, .slice pq n1 cq, .slice pr n2 cr, .string T3] 27)).cell? ⟨w.heap.size, 3, none⟩ = some (.slice pv L.length cv) := ((HBX.out _).cell (p := ⟨w.heap.size, 3, none⟩) hblt).trans e3
        have hLm : L.length ≤ 110 := by omega
        have HLK := Lib.hid hLk
        have HSZ := Lib.hid hI.bel.size
        clear hE hokE hx hT1 hT2 hT3 hn1 hn2 hrw hI hLk
        go_wp2_with fail
        go_region_law (first
          | (go_simp
             go_at_call 35
             refine (HC.out _ ?_).mono ?_
             · first | exact HBX.out _ | exact (HBX.out _).drew | exact below_drewN (HBX.out _) _
             rintro e w3 ⟨v3, rfl, hE3, hb3⟩
             obtain ⟨av3, kv3, rfl, hp3, hk3⟩ := hE3
             obtain ⟨pu, cu, hu1, -⟩ := hp3.form
             obtain ⟨pw, cw, hu2, -⟩ := hk3.form
             subst hu1 hu2
             have HE3 := Lib.hid (And.intro hp3 hk3)
             rw [← HTT.out.1, ← HTT.out.2.1, ← HTT.out.2.2]
             obtain ⟨m1, hm1⟩ : ∃ m, m = x.attrs.length := ⟨_, rfl⟩
             obtain ⟨m2, hm2⟩ : ∃ m, m = x.kids.length := ⟨_, rfl⟩
             rw [← hm1, ← hm2]
             have HMM := Lib.hid (And.intro hm1 hm2)
             have HB5 := Lib.hid hb3
             have hq5 := (hb3.block w.heap.size hblt).trans HI.out.x0
             have HQ5 := Lib.hid hq5
             obtain ⟨q0, q1, q2, q3, q4, qz⟩ := cellsE5 hq5
             have hA := box_belT w3 (.cells #[.string T1, .string T2, .slice pu m1 cu, .slice pw m2 cw, .string T3] 27)
             have r3 := (hA.cell (p := ⟨w.heap.size, 3, none⟩) (Array.getElem?_eq_some_iff.1 hq5).1).trans q3
             have HA := Lib.hid hA
             have HOW3 := Lib.hid (rowT_below HI.out.own hb3)
             clear hb3 hp3 hk3 hq5 hA hm1 hm2)
          | (refine step_append_lies _ (by rfl) _ _ 25 (by rfl) (w.heap.size + 2) 27 i0 (.agg #[.string ⟨#[]⟩, .string ⟨#[]⟩, .slice none 0 0, .slice none 0 0, .string ⟨#[]⟩]) 5 96 Tryz.underlying25 hi hz0 hz1 hz2 rfl (by omega) (.slice pv L.length cv) L.length (ecells L) (by rfl) (rowT_below HOW3.out (by first | exact HA.out | exact HA.out.drew | exact below_drewN HA.out _)) ⟨w3.heap.size, 0, none⟩ 1 1 [.string T1, .string T2, .slice pu m1 cu, .slice pw m2 cw, .string T3] (by rfl) (by simp) (World.news_of_block (heap_alloc_new w3 _)) (by simp [Value.oneCell']) (by omega) (by unfold maxLen; omega) (by omega) (by have := HSZ.out; have := HB5.out.size; have := HI.out; have := (Array.getElem?_eq_some_iff.1 this.x1).1; simp; omega) (w3.heap.size + 1) (by simp) ?_
             intro g6 cap6 w6 hown6 hgrow6 hat6 hlt6
             have HOW6 := Lib.hid hown6
             have HG6 := Lib.hid hgrow6
             have HAT6 := Lib.hid hat6
             have hq6 : w6.heap[w.heap.size]? = some (.cells #[.string S1, .string S2, .slice p1 N c1, .slice pv L.length cv, .string S3] 27 (0, 0)) := (hgrow6.block w.heap.size (by have := HB5.out.size; simp; omega) (fun e => by have := (rowT_lt HOW3.out w.heap.size e.symm).1; omega)).trans ((HA.out.block w.heap.size (by have := HB5.out.size; omega)).trans HQ5.out)
             obtain ⟨t0, t1, t2, t3, t4, tz⟩ := cellsE5 hq6
             clear hown6 hgrow6 hat6 hlt6 hq6)
          | fail "no arm")
        all_goals
          have HPUSH := Lib.hid (CoI.push HI.out (HB5.out.trans (HA.out.mono HB5.out.size)) hkl HXK.out ⟨HE3.out.1.below HA.out, HE3.out.2.below HA.out⟩ HG6.out (g6 := g6) (cap6 := cap6) (by rw [← HTT.out.1, ← HTT.out.2.1, ← HTT.out.2.2, ← HMM.out.1, ← HMM.out.2]; exact HOW6.out) (by rw [World.size_alloc]; exact HAT6.out))
          clear q0 q1 q2 q3 q4 qz r3
          go_wp2_with fail
          go_roundw
          case rel => exact ⟨k + 1, _, _, by omega, by go_num, HPUSH.out⟩
          case measure => simp [intOf]; omega
      · have hkM : k = M := by omega
        have hmap : L.map (·.1) = lk := by
          have := hI.map
          rwa [hkM, HNM.out.2, List.take_length] at this
        have hlt1 := (Array.getElem?_eq_some_iff.1 hI.x1).1
        have hkd := KidsD.ofRow (ok := okB ok w.heap.size) hI.own (fun b hb => ⟨HOK.out b (by omega), by omega, by omega⟩) (hI.sub.mono (fun b ho _ => ⟨ho.1, ho.2.1, ho.2.2.1⟩))
        rw [hmap] at hkd
        have hLM : L.length = M := by omega
        have hx0 := hI.x0
        rw [hLM] at hkd hx0
        have HEND := Lib.hid (clone_end (S1 := S1) (S2 := S2) (S3 := S3) hI.x1 (hI.prs.mono (fun b ho _ => ⟨ho.1, ho.2.1, ho.2.2.1⟩)) hkd hI.bel)
        obtain ⟨r0, r1, r2, r3, r4, rz⟩ := cellsE5 hx0
        obtain ⟨z0, z1, z2, z3, z4, zz⟩ := cellsE5 hI.x1
        clear hI hmap hkd hx0 hLM hLk
        go_wp2_with fail
        refine bodyPost_ret (results_cell_row Tryz.results35 _ _ (w.heap.size + 1) 27 _ (0, 0) _ rfl HEND.out.1 Tryz.underlying27 rfl infoE5) rfl ?_
        exact ⟨_, rfl, by rw [HT.out]; exact HEND.out.2.1, HEND.out.2.2⟩
end Go.Proofs.YtgkoknckaajgmaaGreatDoor

/- xmltree: Sub. -/
namespace Go.Proofs.YtgkoknckaajgmaaGreatDoor
open Go Go.RowKit Go.Deep
set_option linter.unusedVariables false
set_option linter.unusedSimpArgs false

/-- The kids of a name. -/
def subM (sp nm : ByteArray) (l : List ET) : List ET := l.filter fun x => decide (x.space = sp ∧ x.name = nm)
theorem subM_hit {sp nm : ByteArray} {l : List ET} {k : Nat} {x : ET} (hk : k < l.length) (hx : l[k] = x) (h1 : x.space = sp) (h2 : x.name = nm) : subM sp nm (l.take (k + 1)) = subM sp nm (l.take k) ++ [x] := by
  rw [List.take_succ_eq_append_getElem hk, hx]
  unfold subM
  rw [List.filter_append]
  simp [h1, h2]
theorem subM_miss {sp nm : ByteArray} {l : List ET} {k : Nat} {x : ET} (hk : k < l.length) (hx : l[k] = x) (h1 : ¬ (x.space = sp ∧ x.name = nm)) : subM sp nm (l.take (k + 1)) = subM sp nm (l.take k) := by
  rw [List.take_succ_eq_append_getElem hk, hx]
  unfold subM
  rw [List.filter_append, List.filter_cons_of_neg (by simpa using h1)]
  simp
theorem subM_len (sp nm : ByteArray) (l : List ET) (k : Nat) : (subM sp nm (l.take k)).length ≤ k := Nat.le_trans (List.length_filter_le _ _) (by rw [List.length_take]; omega)
/-- Blocks that the growing row is not. -/
def okW (v : Value) : Nat → Prop := fun b => v.ownBlock ≠ some b
/-- While the kids are looked through. -/
structure SuI (w : World) (d : Nat) (sp nm : ByteArray) (lk : List ET) (k : Nat) (L : List EV) (v : Value) (wr : World) : Prop where
  map : L.map (·.1) = subM sp nm (lk.take k)
  own : wr.ownsRow w.heap.size 27 5 v L.length (ecells L)
  sub : KidsV (okW v) wr d L
  bel : Below w.heap.size w wr
theorem SuI.len {w wr : World} {d : Nat} {sp nm : ByteArray} {lk : List ET} {k : Nat} {L : List EV} {v : Value} (h : SuI w d sp nm lk k L v wr) : L.length ≤ k := by
  have := congrArg List.length h.map
  rw [List.length_map] at this
  rw [this]
  exact subM_len ..
theorem SuI.skip {w wr W : World} {d : Nat} {sp nm : ByteArray} {lk : List ET} {k : Nat} {L : List EV} {v : Value} (h : SuI w d sp nm lk k L v wr) (hb : Below wr.heap.size wr W) {x : ET} (hk : k < lk.length) (hx : lk[k] = x) (hn : ¬ (x.space = sp ∧ x.name = nm)) : SuI w d sp nm lk (k + 1) L v W :=
  ⟨h.map.trans (subM_miss hk hx hn).symm, rowT_below h.own hb, h.sub.below hb, h.bel.trans (hb.mono h.bel.size)⟩
theorem SuI.push {w wr W5 w6 : World} {d : Nat} {sp nm : ByteArray} {lk : List ET} {k : Nat} {L : List EV} {v : Value} (h : SuI w d sp nm lk k L v wr) (hb5 : Below wr.heap.size wr W5) {x : ET} (hk : k < lk.length) (hx : lk[k] = x) (h1 : x.space = sp) (h2 : x.name = nm) {av kv : Value}
    (hE : PairsR (okW v) W5 av x.attrs ∧ KidsD (okW v) W5 d kv x.kids) (hg : W5.grownBy w6 v.ownBlock) {g6 cap6 : Nat} (hown : w6.ownsRow w.heap.size 27 5 (.slice (some ⟨g6, 0, none⟩) (L.length + 1) cap6) (L.length + 1) (ecells L ++ [.string x.space, .string x.name, av, kv, .string x.text]))
    (hat : v.ownBlock = some g6 ∨ g6 = W5.heap.size) : SuI w d sp nm lk (k + 1) (L ++ [(x, av, kv)]) (.slice (some ⟨g6, 0, none⟩) (L.length + 1) cap6) w6 := by
  have hrow := fun g hg => rowT_lt h.own g hg
  have hb6 : ∀ i, i < W5.heap.size → v.ownBlock ≠ some i → w6.heap[i]? = W5.heap[i]? := fun i hi hn => hg.block i hi (fun e => hn e.symm)
  have hkeep : ∀ b, okW v b → b < W5.heap.size → w6.heap[b]? = W5.heap[b]? ∧ okW (.slice (some ⟨g6, 0, none⟩) (L.length + 1) cap6) b := fun b ho hl =>
    ⟨hb6 b hl ho, fun e => by
      have e' : g6 = b := by simpa [Value.ownBlock] using e
      subst e'
      rcases hat with h9 | h9
      · exact ho h9
      · omega⟩
  refine ⟨?_, ?_, ?_, (h.bel.trans (hb5.mono h.bel.size)).grown hg (Nat.le_trans h.bel.size hb5.size) (fun b e => by have := hrow b e; omega)⟩
  · rw [List.map_append, h.map, subM_hit hk hx h1 h2]
    rfl
  · have he : ecells (L ++ [(x, av, kv)]) = ecells L ++ [.string x.space, .string x.name, av, kv, .string x.text] := by unfold ecells; rw [List.flatMap_append]; rfl
    rw [he, List.length_append]
    exact hown
  · intro y hy
    rcases List.mem_append.1 hy with h3 | h3
    · exact ((h.sub.below hb5).keep hg.size hkeep) y h3
    · obtain rfl : y = (x, av, kv) := by simpa using h3
      exact ⟨hE.1.keep hg.size hkeep, hE.2.keep hg.size hkeep⟩

set_option maxRecDepth 100000 in
set_option maxHeartbeats 4000000 in
theorem sub_c (w : World) (d : Nat) (v : Value) (t : ET) (sp nm : ByteArray) (h : ElemD Any w (d + 1) v t) (hE : okE (d + 1) t) : Calls Tryz.prog 20 #[v, .string sp, .string nm] w fun e w' => ∃ v', e = .returned v' ∧ KidsD Any w' (d + 1) v' (subM sp nm t.kids) ∧ Below w.heap.size w w' := by
  obtain ⟨i0, hi, hz0, hz1, hz2⟩ := infoElX
  obtain ⟨hA, hK, hKs⟩ := hE
  obtain ⟨av, kv, rfl, hp1, hk1⟩ := h
  obtain ⟨pa, ca, hav, hla, hma⟩ := hp1.form
  obtain ⟨pk, ck, hkv, hlk, hmk⟩ := hk1.form
  subst hav hkv
  obtain ⟨S1, hS1⟩ : ∃ S, S = t.space := ⟨_, rfl⟩
  obtain ⟨S2, hS2⟩ : ∃ S, S = t.name := ⟨_, rfl⟩
  obtain ⟨S3, hS3⟩ : ∃ S, S = t.text := ⟨_, rfl⟩
  obtain ⟨lk, hlk2⟩ : ∃ l, l = t.kids := ⟨_, rfl⟩
  obtain ⟨N, hN⟩ : ∃ N, N = t.attrs.length := ⟨_, rfl⟩
  rw [← hS1, ← hS2, ← hS3, ← hlk2, ← hN]
  rw [← hlk2] at hk1 hK
  have hKs' : ∀ k (h : k < lk.length), okE d lk[k] := by subst hlk2; exact fun k h => hKs k h
  obtain ⟨M, hM⟩ : ∃ M, M = lk.length := ⟨_, rfl⟩
  rw [← hM] at hk1 hK ⊢
  have HI0 := Lib.hid (show SuI w d sp nm lk 0 [] (.slice none 0 0) (w.alloc (.cells #[.string S1, .string S2, .slice pa N ca, .slice pk M ck, .string S3] 27)) from ⟨rfl, World.ownsRow_nil _ _ _ _, fun x hx => by simp at hx, box_belT w _⟩)
  have HK1 := Lib.hid (hk1.mono (ok' := fun b => b < w.heap.size) (fun b _ hl => hl))
  have HKS := Lib.hid hKs'
  have HM := Lib.hid hM
  have hnM : M ≤ 110 := hK
  obtain ⟨z0, z1, z2, z3, z4, zz⟩ := cellsE5 (heap_alloc_new w (.cells #[.string S1, .string S2, .slice pa N ca, .slice pk M ck, .string S3] 27))
  clear hp1 hk1 hN hM hS1 hS2 hS3 hlk2 hma hmk hKs hKs' hla hlk hK
  go_enter Tryz.func20, Tryz.ntmps20
  go_wp2_with fail
  go_loopw [7, 13] (fun v s wr => ∃ (k : Nat) (L : List EV), k ≤ M ∧ s = .int .i64 k ∧ SuI w d sp nm lk k L v wr) (fun _ s _ => M - (intOf s).toNat)
  case atStart => exact ⟨0, [], by omega, rfl, HI0.out⟩
  case round =>
    obtain ⟨k, L, hk, rfl, hI⟩ := hrel
    have HI := Lib.hid hI
    obtain ⟨pv, cv, hv⟩ := rowT_form hI.own
    subst hv
    have hLk := hI.len
    by_cases hlt : k < M
    · have hkl : k < lk.length := by rw [← HM.out]; exact hlt
      obtain ⟨b, o, pq, cq, pr, cr, hp, hbl, _, d0, d1, d2, d3, d4, hE⟩ := (HK1.out.below hI.bel).at hkl
      have hokE := HKS.out k hkl
      obtain ⟨x, hx⟩ : ∃ x, lk[k] = x := ⟨_, rfl⟩
      have HXK := Lib.hid hx
      rw [hx] at d0 d1 d2 d3 d4 hE hokE
      subst hp
      obtain ⟨T1, hT1⟩ : ∃ T, T = x.space := ⟨_, rfl⟩
      obtain ⟨T2, hT2⟩ : ∃ T, T = x.name := ⟨_, rfl⟩
      obtain ⟨T3, hT3⟩ : ∃ T, T = x.text := ⟨_, rfl⟩
      obtain ⟨n1, hn1⟩ : ∃ n, n = x.attrs.length := ⟨_, rfl⟩
      obtain ⟨n2, hn2⟩ : ∃ n, n = x.kids.length := ⟨_, rfl⟩
      rw [← hn1] at d2
      rw [← hn2] at d3
      rw [← hT1] at d0
      rw [← hT2] at d1
      rw [← hT3] at d4
      rw [← hT1, ← hT2, ← hT3, ← hn1, ← hn2] at hE
      have hrw := fun g hg => rowT_lt hI.own g hg
      have HC := Lib.hid (fun (W : World) (hb : Below wr.heap.size wr W) => (clone_c d (ok := okW (.slice pv L.length cv)) W _ x ((hE.mono (fun b ho _ => fun e => by have := hrw b e; omega)).below hb) (fun b hb2 => fun e => by
          have h9 := hb.size
          have := (hrw b e).2
          omega) hokE).mono (R' := fun (e : Ending) (w' : World) => ∃ v', e = Ending.returned v' ∧ ElemD (okW (.slice pv L.length cv)) w' d v' x ∧ Below wr.heap.size wr w') (fun (e : Ending) (w' : World) ⟨v', he, hE2, hb3⟩ => show ∃ v', e = Ending.returned v' ∧ ElemD (okW (.slice pv L.length cv)) w' d v' x ∧ Below wr.heap.size wr w' from ⟨v', he, hE2, hb.trans (hb3.mono hb.size)⟩))
      have HTT := Lib.hid (And.intro hT1 (And.intro hT2 hT3))
      have HBX := Lib.hid (fun o => box_belT wr o)
      obtain ⟨f0, f1, f2, f3, f4, fz⟩ := cellsE5 (heap_alloc_new wr (.cells #[.string T1, .string T2, .slice pq n1 cq, .slice pr n2 cr, .string T3] 27))
      have hLm : L.length ≤ 110 := by omega
      have HSZ := Lib.hid hI.bel.size
      clear hE hokE hx hT1 hT2 hT3 hn1 hn2 hrw hI hLk z0 z1 z2 z3 z4 zz
      by_cases hs : T1 = sp
      · by_cases hn : T2 = nm
        · subst hs hn
          go_wp2_with fail
          refine (HC.out _ (HBX.out _)).mono ?_
          rintro e w3 ⟨v3, rfl, hE3, hb3⟩
          obtain ⟨av3, kv3, rfl, hp3, hk3⟩ := hE3
          obtain ⟨pu, cu, hu1, -⟩ := hp3.form
          obtain ⟨pw, cw, hu2, -⟩ := hk3.form
          subst hu1 hu2
          have HE3 := Lib.hid (And.intro hp3 hk3)
          rw [← HTT.out.1, ← HTT.out.2.1, ← HTT.out.2.2]
          obtain ⟨m1, hm1⟩ : ∃ m, m = x.attrs.length := ⟨_, rfl⟩
          obtain ⟨m2, hm2⟩ : ∃ m, m = x.kids.length := ⟨_, rfl⟩
          rw [← hm1, ← hm2]
          have HMM := Lib.hid (And.intro hm1 hm2)
          have HB5 := Lib.hid hb3
          have HA := Lib.hid (box_belT w3 (.cells #[.string T1, .string T2, .slice pu m1 cu, .slice pw m2 cw, .string T3] 27))
          have HOW3 := Lib.hid (rowT_below HI.out.own hb3)
          clear hb3 hp3 hk3 hm1 hm2
          go_wp2_with (at_builtin; refine wpList_append_lies _ (by rfl) _ _ 25 (by rfl) w.heap.size 27 i0 (.agg #[.string ⟨#[]⟩, .string ⟨#[]⟩, .slice none 0 0, .slice none 0 0, .string ⟨#[]⟩]) 5 96 Tryz.underlying25 hi hz0 hz1 hz2 rfl (by omega) (.slice pv L.length cv) L.length (ecells L) (by rfl) (rowT_below HOW3.out (by first | exact HA.out | exact HA.out.drew | exact below_drewN HA.out _)) ⟨w3.heap.size, 0, none⟩ 1 1 [.string T1, .string T2, .slice pu m1 cu, .slice pw m2 cw, .string T3] (by rfl) (by simp) (World.news_of_block (heap_alloc_new w3 _)) (by simp [Value.oneCell']) (by omega) (by unfold maxLen; omega) (by omega) (by have := HSZ.out; have := HB5.out.size; simp; omega) (w3.heap.size + 1) (by simp) ?_)
          intro g6 cap6 w6 hown6 hgrow6 hat6 hlt6
          have HPUSH := Lib.hid (SuI.push HI.out (HB5.out.trans (HA.out.mono HB5.out.size)) hkl HXK.out HTT.out.1.symm HTT.out.2.1.symm ⟨HE3.out.1.below HA.out, HE3.out.2.below HA.out⟩ hgrow6 (g6 := g6) (cap6 := cap6) (by rw [← HTT.out.1, ← HTT.out.2.1, ← HTT.out.2.2, ← HMM.out.1, ← HMM.out.2]; exact hown6) (by rw [World.size_alloc]; exact hat6))
          clear hown6 hgrow6 hat6 hlt6
          go_wp2_with fail
          go_roundw
          case rel => exact ⟨k + 1, _, by omega, by go_num, HPUSH.out⟩
          case measure => simp [intOf]; omega
        · have HE := Lib.hid (HI.out.skip (HBX.out (.cells #[.string T1, .string T2, .slice pq n1 cq, .slice pr n2 cr, .string T3] 27)) hkl HXK.out (fun q => hn (HTT.out.2.1.trans q.2)))
          have tn : (T2.toList == nm.toList) = false := beq_eq_false_iff_ne.2 fun q => hn (toList_inj q)
          clear hn
          subst hs
          go_wp2_with fail
          go_roundw
          case rel => exact ⟨k + 1, L, by omega, by go_num, HE.out⟩
          case measure => simp [intOf]; omega
      · have HE := Lib.hid (HI.out.skip (HBX.out (.cells #[.string T1, .string T2, .slice pq n1 cq, .slice pr n2 cr, .string T3] 27)) hkl HXK.out (fun q => hs (HTT.out.1.trans q.1)))
        have tn : (T1.toList == sp.toList) = false := beq_eq_false_iff_ne.2 fun q => hs (toList_inj q)
        clear hs
        go_wp2_with fail
        go_roundw
        case rel => exact ⟨k + 1, L, by omega, by go_num, HE.out⟩
        case measure => simp [intOf]; omega
    · have hkM : k = M := by omega
      have hmap : L.map (·.1) = subM sp nm lk := by
        have := hI.map
        rwa [hkM, HM.out, List.take_length] at this
      have HEND := Lib.hid (show KidsD Any wr (d + 1) (.slice pv L.length cv) (subM sp nm lk) ∧ Below w.heap.size w wr from ⟨by rw [← hmap]; exact KidsD.ofOwn (OwnS.ofRow hI.own) (fun b hb => trivial) (hI.sub.mono (fun b ho _ => trivial)), hI.bel⟩)
      clear hI hmap
      go_wp2_with fail
      go_ret
      exact ⟨_, rfl, HEND.out⟩
end Go.Proofs.YtgkoknckaajgmaaGreatDoor

/- xmltree: the reference: Sub. -/
namespace Go.Proofs.YtgkoknckaajgmaaGreatDoor
open Go Go.RowKit Go.Deep
set_option linter.unusedVariables false
set_option linter.unusedSimpArgs false

set_option maxRecDepth 100000 in
set_option maxHeartbeats 4000000 in
theorem rsub_c (w : World) (d : Nat) (v : Value) (t : ET) (sp nm : ByteArray) (h : ElemD Any w (d + 1) v t) (hE : okE (d + 1) t) : Calls Tryz.prog 21 #[v, .string sp, .string nm] w fun e w' => ∃ v', e = .returned v' ∧ KidsD Any w' (d + 1) v' (subM sp nm t.kids) ∧ Below w.heap.size w w' := by
  obtain ⟨i0, hi, hz0, hz1, hz2⟩ := infoElX
  obtain ⟨hA, hK, hKs⟩ := hE
  obtain ⟨av, kv, rfl, hp1, hk1⟩ := h
  obtain ⟨pa, ca, hav, hla, hma⟩ := hp1.form
  obtain ⟨pk, ck, hkv, hlk, hmk⟩ := hk1.form
  subst hav hkv
  obtain ⟨S1, hS1⟩ : ∃ S, S = t.space := ⟨_, rfl⟩
  obtain ⟨S2, hS2⟩ : ∃ S, S = t.name := ⟨_, rfl⟩
  obtain ⟨S3, hS3⟩ : ∃ S, S = t.text := ⟨_, rfl⟩
  obtain ⟨lk, hlk2⟩ : ∃ l, l = t.kids := ⟨_, rfl⟩
  obtain ⟨N, hN⟩ : ∃ N, N = t.attrs.length := ⟨_, rfl⟩
  rw [← hS1, ← hS2, ← hS3, ← hlk2, ← hN]
  rw [← hlk2] at hk1 hK
  have hKs' : ∀ k (h : k < lk.length), okE d lk[k] := by subst hlk2; exact fun k h => hKs k h
  obtain ⟨M, hM⟩ : ∃ M, M = lk.length := ⟨_, rfl⟩
  rw [← hM] at hk1 hK ⊢
  have HI0 := Lib.hid (show SuI w d sp nm lk 0 [] (.slice none 0 0) (w.alloc (.cells #[.string S1, .string S2, .slice pa N ca, .slice pk M ck, .string S3] 27)) from ⟨rfl, World.ownsRow_nil _ _ _ _, fun x hx => by simp at hx, box_belT w _⟩)
  have HK1 := Lib.hid (hk1.mono (ok' := fun b => b < w.heap.size) (fun b _ hl => hl))
  have HKS := Lib.hid hKs'
  have HM := Lib.hid hM
  have hnM : M ≤ 110 := hK
  obtain ⟨z0, z1, z2, z3, z4, zz⟩ := cellsE5 (heap_alloc_new w (.cells #[.string S1, .string S2, .slice pa N ca, .slice pk M ck, .string S3] 27))
  clear hp1 hk1 hN hM hS1 hS2 hS3 hlk2 hma hmk hKs hKs' hla hlk hK
  go_enter Tryz.func21, Tryz.ntmps21
  go_wp2_with fail
  go_loopw [7, 13] (fun v s wr => ∃ (k : Nat) (L : List EV), k ≤ M ∧ s = .int .i64 k ∧ SuI w d sp nm lk k L v wr) (fun _ s _ => M - (intOf s).toNat)
  case atStart => exact ⟨0, [], by omega, rfl, HI0.out⟩
  case round =>
    obtain ⟨k, L, hk, rfl, hI⟩ := hrel
    have HI := Lib.hid hI
    obtain ⟨pv, cv, hv⟩ := rowT_form hI.own
    subst hv
    have hLk := hI.len
    by_cases hlt : k < M
    · have hkl : k < lk.length := by rw [← HM.out]; exact hlt
      obtain ⟨b, o, pq, cq, pr, cr, hp, hbl, _, d0, d1, d2, d3, d4, hE⟩ := (HK1.out.below hI.bel).at hkl
      have hokE := HKS.out k hkl
      obtain ⟨x, hx⟩ : ∃ x, lk[k] = x := ⟨_, rfl⟩
      have HXK := Lib.hid hx
      rw [hx] at d0 d1 d2 d3 d4 hE hokE
      subst hp
      obtain ⟨T1, hT1⟩ : ∃ T, T = x.space := ⟨_, rfl⟩
      obtain ⟨T2, hT2⟩ : ∃ T, T = x.name := ⟨_, rfl⟩
      obtain ⟨T3, hT3⟩ : ∃ T, T = x.text := ⟨_, rfl⟩
      obtain ⟨n1, hn1⟩ : ∃ n, n = x.attrs.length := ⟨_, rfl⟩
      obtain ⟨n2, hn2⟩ : ∃ n, n = x.kids.length := ⟨_, rfl⟩
      rw [← hn1] at d2
      rw [← hn2] at d3
      rw [← hT1] at d0
      rw [← hT2] at d1
      rw [← hT3] at d4
      rw [← hT1, ← hT2, ← hT3, ← hn1, ← hn2] at hE
      have hrw := fun g hg => rowT_lt hI.own g hg
      have HC := Lib.hid (fun (W : World) (hb : Below wr.heap.size wr W) => (copy_c d (ok := okW (.slice pv L.length cv)) W _ x ((hE.mono (fun b ho _ => fun e => by have := hrw b e; omega)).below hb) (fun b hb2 => fun e => by
          have h9 := hb.size
          have := (hrw b e).2
          omega) hokE).mono (R' := fun (e : Ending) (w' : World) => ∃ v', e = Ending.returned v' ∧ ElemD (okW (.slice pv L.length cv)) w' d v' x ∧ Below wr.heap.size wr w') (fun (e : Ending) (w' : World) ⟨v', he, hE2, hb3⟩ => show ∃ v', e = Ending.returned v' ∧ ElemD (okW (.slice pv L.length cv)) w' d v' x ∧ Below wr.heap.size wr w' from ⟨v', he, hE2, hb.trans (hb3.mono hb.size)⟩))
      have HTT := Lib.hid (And.intro hT1 (And.intro hT2 hT3))
      have HBX := Lib.hid (fun o => box_belT wr o)
      obtain ⟨f0, f1, f2, f3, f4, fz⟩ := cellsE5 (heap_alloc_new wr (.cells #[.string T1, .string T2, .slice pq n1 cq, .slice pr n2 cr, .string T3] 27))
      have hLm : L.length ≤ 110 := by omega
      have HSZ := Lib.hid hI.bel.size
      clear hE hokE hx hT1 hT2 hT3 hn1 hn2 hrw hI hLk z0 z1 z2 z3 z4 zz
      by_cases hs : T1 = sp
      · by_cases hn : T2 = nm
        · subst hs hn
          go_wp2_with fail
          refine (HC.out _ (HBX.out _)).mono ?_
          rintro e w3 ⟨v3, rfl, hE3, hb3⟩
          obtain ⟨av3, kv3, rfl, hp3, hk3⟩ := hE3
          obtain ⟨pu, cu, hu1, -⟩ := hp3.form
          obtain ⟨pw, cw, hu2, -⟩ := hk3.form
          subst hu1 hu2
          have HE3 := Lib.hid (And.intro hp3 hk3)
          rw [← HTT.out.1, ← HTT.out.2.1, ← HTT.out.2.2]
          obtain ⟨m1, hm1⟩ : ∃ m, m = x.attrs.length := ⟨_, rfl⟩
          obtain ⟨m2, hm2⟩ : ∃ m, m = x.kids.length := ⟨_, rfl⟩
          rw [← hm1, ← hm2]
          have HMM := Lib.hid (And.intro hm1 hm2)
          have HB5 := Lib.hid hb3
          have HA := Lib.hid (box_belT w3 (.cells #[.string T1, .string T2, .slice pu m1 cu, .slice pw m2 cw, .string T3] 27))
          have HOW3 := Lib.hid (rowT_below HI.out.own hb3)
          clear hb3 hp3 hk3 hm1 hm2
          go_wp2_with (at_builtin; refine wpList_append_lies _ (by rfl) _ _ 25 (by rfl) w.heap.size 27 i0 (.agg #[.string ⟨#[]⟩, .string ⟨#[]⟩, .slice none 0 0, .slice none 0 0, .string ⟨#[]⟩]) 5 96 Tryz.underlying25 hi hz0 hz1 hz2 rfl (by omega) (.slice pv L.length cv) L.length (ecells L) (by rfl) (rowT_below HOW3.out (by first | exact HA.out | exact HA.out.drew | exact below_drewN HA.out _)) ⟨w3.heap.size, 0, none⟩ 1 1 [.string T1, .string T2, .slice pu m1 cu, .slice pw m2 cw, .string T3] (by rfl) (by simp) (World.news_of_block (heap_alloc_new w3 _)) (by simp [Value.oneCell']) (by omega) (by unfold maxLen; omega) (by omega) (by have := HSZ.out; have := HB5.out.size; simp; omega) (w3.heap.size + 1) (by simp) ?_)
          intro g6 cap6 w6 hown6 hgrow6 hat6 hlt6
          have HPUSH := Lib.hid (SuI.push HI.out (HB5.out.trans (HA.out.mono HB5.out.size)) hkl HXK.out HTT.out.1.symm HTT.out.2.1.symm ⟨HE3.out.1.below HA.out, HE3.out.2.below HA.out⟩ hgrow6 (g6 := g6) (cap6 := cap6) (by rw [← HTT.out.1, ← HTT.out.2.1, ← HTT.out.2.2, ← HMM.out.1, ← HMM.out.2]; exact hown6) (by rw [World.size_alloc]; exact hat6))
          clear hown6 hgrow6 hat6 hlt6
          go_wp2_with fail
          go_roundw
          case rel => exact ⟨k + 1, _, by omega, by go_num, HPUSH.out⟩
          case measure => simp [intOf]; omega
        · have HE := Lib.hid (HI.out.skip (HBX.out (.cells #[.string T1, .string T2, .slice pq n1 cq, .slice pr n2 cr, .string T3] 27)) hkl HXK.out (fun q => hn (HTT.out.2.1.trans q.2)))
          have tn : (T2.toList == nm.toList) = false := beq_eq_false_iff_ne.2 fun q => hn (toList_inj q)
          clear hn
          subst hs
          go_wp2_with fail
          go_roundw
          case rel => exact ⟨k + 1, L, by omega, by go_num, HE.out⟩
          case measure => simp [intOf]; omega
      · have HE := Lib.hid (HI.out.skip (HBX.out (.cells #[.string T1, .string T2, .slice pq n1 cq, .slice pr n2 cr, .string T3] 27)) hkl HXK.out (fun q => hs (HTT.out.1.trans q.1)))
        have tn : (T1.toList == sp.toList) = false := beq_eq_false_iff_ne.2 fun q => hs (toList_inj q)
        clear hs
        go_wp2_with fail
        go_roundw
        case rel => exact ⟨k + 1, L, by omega, by go_num, HE.out⟩
        case measure => simp [intOf]; omega
    · have hkM : k = M := by omega
      have hmap : L.map (·.1) = subM sp nm lk := by
        have := hI.map
        rwa [hkM, HM.out, List.take_length] at this
      have HEND := Lib.hid (show KidsD Any wr (d + 1) (.slice pv L.length cv) (subM sp nm lk) ∧ Below w.heap.size w wr from ⟨by rw [← hmap]; exact KidsD.ofOwn (OwnS.ofRow hI.own) (fun b hb => trivial) (hI.sub.mono (fun b ho _ => trivial)), hI.bel⟩)
      clear hI hmap
      go_wp2_with fail
      go_ret
      exact ⟨_, rfl, HEND.out⟩
end Go.Proofs.YtgkoknckaajgmaaGreatDoor

/- xmltree: slices.EqualFunc at the reference's Same, of two lists that read alike. -/
namespace Go.Proofs.YtgkoknckaajgmaaGreatDoor
open Go Go.RowKit Go.Deep Go.Shelf
set_option linter.unusedVariables false
set_option linter.unusedSimpArgs false

set_option maxRecDepth 100000 in
set_option maxHeartbeats 2000000 in
theorem equalEs_c {ok ok' : Nat → Prop} (w : World) (d : Nat) (v1 v2 : Value) (l : List ET) (h1 : KidsD ok w (d + 1) v1 l) (h2 : KidsD ok' w (d + 1) v2 l) :
    Calls Tryz.prog 19 #[v1, v2, .func (.func 9) #[] #[]] w fun e w' => e = .returned (.bool true) ∧ Below w.heap.size w w' := by
  have H1 := Lib.hid h1
  have H2 := Lib.hid h2
  have hE := enters_of Tryz.func9 (by kernel_rfl) rfl
  obtain ⟨a1, c1, hv1, m1, n1⟩ := h1.form
  obtain ⟨a2, c2, hv2, m2, n2⟩ := h2.form
  subst hv1 hv2
  obtain ⟨N, hN⟩ : ∃ N, N = l.length := ⟨_, rfl⟩
  have HN := Lib.hid hN
  rw [← hN] at H1 H2 ⊢
  have hn : N ≤ 9223372036854775807 := by unfold maxLen at n1; omega
  clear h1 h2 m1 n1 m2 n2 hN
  go_enter Tryz.func19, Tryz.ntmps19
  go_wp2_with fail
  go_loopw [17] (fun i wr => ∃ k : Nat, k ≤ N ∧ i = .int .i64 k ∧ Below w.heap.size w wr) (fun i _ => N - (intOf i).toNat)
  case atStart => exact ⟨0, by omega, rfl, Below.refl _ _⟩
  case round =>
    obtain ⟨k, hk, rfl, hbr⟩ := hrel
    have HBR := Lib.hid hbr
    clear hbr
    by_cases hlt : k < N
    · have hkl : k < l.length := by rw [← HN.out]; exact hlt
      obtain ⟨b, o, pq, cq, pr, cr, hp, hbl, _, d0, d1, d2, d3, d4, hE1⟩ := (H1.out.below HBR.out).at hkl
      obtain ⟨b2, o2, pq2, cq2, pr2, cr2, hp2, hbl2, _, e0, e1, e2, e3, e4, hE2⟩ := (H2.out.below HBR.out).at hkl
      subst hp hp2
      generalize l[k] = x at *
      have HC := Lib.hid (fun (W : World) (hb : Below wr.heap.size wr W) => rsameE_c d W _ _ x (hE1.below hb) (hE2.below hb))
      have HBX := Lib.hid (fun o o2 => (box_belT wr o).trans ((box_belT (wr.alloc o) o2).mono (box_belT wr o).size))
      clear hE1 hE2
      go_wp2_with fail
      refine (HC.out _ (HBX.out _ _)).mono ?_
      rintro e w' ⟨rfl, hb⟩
      have HX2 := Lib.hid (HBR.out.trans (((HBX.out _ _).trans (hb.mono (HBX.out _ _).size)).mono HBR.out.size))
      clear hb d0 d1 d2 d3 d4 e0 e1 e2 e3 e4
      go_wp2_with fail
      go_roundw
      case rel => exact ⟨k + 1, by omega, by go_num, HX2.out⟩
      case measure => simp [intOf]; omega
    · go_wp2_with fail
      go_ret
      exact ⟨rfl, HBR.out⟩
end Go.Proofs.YtgkoknckaajgmaaGreatDoor
