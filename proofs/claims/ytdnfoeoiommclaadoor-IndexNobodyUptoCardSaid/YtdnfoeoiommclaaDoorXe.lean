/- An index at constants: the search for the plan. -/
import Derived.Test.YtdnfoeoiommclaaDoorXd
namespace Go.Proofs.YtdnfoeoiommclaaDoor
open Go Go.RowKit Go.Shelf
set_option linter.unusedVariables false
set_option linter.unusedSimpArgs false

/-- The copy of the plan. -/
theorem copiedP_x (w : World) (a : Option Addr) (n c B : Nat) (h : KidIs B w (.slice a n c)) : Calls Tryd.prog 32 #[.agg (itemX ⟨#[112]⟩ 0 (.slice none 0 0) (.slice a n c))] w (ItemC NilIs KidIs ⟨#[112]⟩ 0 w) :=
  copiedX_c w ⟨#[112]⟩ 0 none a 0 0 n c NilIs KidIs (fun W hb => (copiedSent_nil W).mono fun e w' he => ⟨none, 0, 0, he.1, rfl, by rw [he.2]; exact Below.refl _ _⟩)
    (fun W hb => copiedItems_x W _ B (h.keep (.ofBelow B hb)))
    (fun _ _ _ _ h _ => h) (fun _ _ _ _ h _ => h) (fun _ _ _ _ h k => h.keep k) (fun _ _ _ _ h k => h.mono k)

theorem cells1x {w : World} {b : Nat} {c0 : Value} {T : TypeId} (h : w.heap[b]? = some (.cells #[c0] T (0, 0))) : w.cell? ⟨b, 0, none⟩ = some c0 ∧ (∀ o, w.frozen? ⟨b, o, none⟩ = false) := by
  refine ⟨?_, fun o => ?_⟩ <;> simp [World.cell?, World.frozen?, h]

theorem setX14_far {w : World} {b g : Nat} (h : g ≠ b) (c0 c1 c2 c3 c4 c5 c6 c7 c8 c9 c10 c11 c12 c13 : Value) : (put14 w b c0 c1 c2 c3 c4 c5 c6 c7 c8 c9 c10 c11 c12 c13).heap[g]? = w.heap[g]? := by
  unfold put14
  simp [World.setCell, Array.getElem?_modify, Ne.symm h]

def Found1B (w : World) (bs bf : Nat) (w' : World) : Prop :=
  ∃ a n c, w'.heap[bs]? = some (.cells #[.bool true] 4 (0, 0)) ∧ w'.heap[bf]? = some (.cells (itemX ⟨#[112]⟩ 0 (.slice none 0 0) (.slice a n c)) 36 (0, 0)) ∧ KidIs w.heap.size w' (.slice a n c) ∧
    (∀ B w0, Below B w0 w → B ≤ bs → B ≤ bf → Below B w0 w') ∧ (∀ k, k < w.heap.size → k ≠ bs → k ≠ bf → w'.heap[k]? = w.heap[k]?)

def Found1 (w : World) (bs bf : Nat) (e : Ending) (w' : World) : Prop := e = .returned (.bool false) ∧ Found1B w bs bf w'

set_option maxRecDepth 100000 in
set_option maxHeartbeats 1000000 in
theorem find1_x (w : World) (bi bs bf B : Nat) (a : Option Addr) (n c : Nat) (ar : Value) (h1 : bi < bf) (h2 : bf < bs) (h3 : bs < w.heap.size)
    (hi : w.heap[bi]? = some (.cells #[.string ⟨#[112]⟩] 9 (0, 0))) (hs : w.heap[bs]? = some (.cells #[.bool false] 4 (0, 0)))
    (hf : w.heap[bf]? = some (.cells (itemX ⟨#[]⟩ 0 (.slice none 0 0) (.slice none 0 0)) 36 (0, 0))) (w1 : World) (hk : KidIs B w1 (.slice a n c)) (h0 : w1.heap.size ≤ bi) (hw1 : ∀ k, k < w1.heap.size → w.heap[k]? = w1.heap[k]?) :
    Calls Tryd.prog 31 #[.agg (itemX ⟨#[112]⟩ 0 (.slice none 0 0) (.slice a n c)), ar, .pointer (some ⟨bi, 0, none⟩), .pointer (some ⟨bs, 0, none⟩), .pointer (some ⟨bf, 0, none⟩)] w (Found1 w bs bf) := by
  have HC := Lib.hid (fun (W : World) (hb : w1.heap.size ≤ W.heap.size) (hh : ∀ k, k < w1.heap.size → W.heap[k]? = w1.heap[k]?) => copiedP_x W a n c B (hk.keep ⟨hb, fun k _ => hh k⟩))
  unfold itemX at HC hf
  have HF := Lib.hid hf
  have HS := Lib.hid hs
  have HW1 := Lib.hid hw1
  have H0 := Lib.hid h0
  obtain ⟨i0, iz⟩ := cells1x hi
  obtain ⟨s0, sz⟩ := cells1x hs
  clear hk hf hi hs hw1 h0
  unfold itemX
  have hbi : bi < w.heap.size := by omega
  have hbf : bf < w.heap.size := by omega
  have hq : ((⟨#[112]⟩ : ByteArray).toList == [112]) = true := by decide +kernel
  go_enter Tryd.func31, Tryd.ntmps31
  go_wp2_with fail
  have HQS := Lib.hid (show (w.setCell ⟨bs, 0, none⟩ (.bool true)).heap[bs]? = some (.cells #[.bool true] 4 (0, 0)) from by simp [World.setCell, Array.getElem?_modify, HS.out])
  have HQF := Lib.hid (show (w.setCell ⟨bs, 0, none⟩ (.bool true)).heap[bf]? = some (.cells #[.string ⟨#[]⟩, .string ⟨#[]⟩, .int .i64 0, .slice none 0 0, .slice none 0 0, .string ⟨#[]⟩, .string ⟨#[]⟩, .string ⟨#[]⟩, .bool false, .bool false, .int .i64 0, .slice none 0 0, .slice none 0 0, .slice none 0 0] 36 (0, 0)) from (setX_far _ (by omega) _).trans HF.out)
  have HQZ := Lib.hid (show (w.setCell ⟨bs, 0, none⟩ (.bool true)).heap.size = w.heap.size from by simp [World.setCell])
  have HQK := Lib.hid (fun k (hk : k ≠ bs) => setX_far w (o := 0) hk (.bool true))
  refine (HC.out _ (by have := H0.out; simp [World.setCell]; omega) (fun k hk => ?_)).mono ?_
  · have := H0.out
    rw [Below.heap_alloc _ _ _ (by simp [World.setCell]; omega)]
    first
      | exact (setX_far _ (by omega) _).trans (HW1.out k hk)
      | (rw [setX_far _ (by omega)]; exact HW1.out k hk)
  rintro e w2 ⟨a2, n2, c2, a3, n3, c3, rfl, hp2, hk2, hb2⟩
  have e2 : ∀ k, k < w.heap.size → w2.heap[k]? = (w.setCell ⟨bs, 0, none⟩ (.bool true)).heap[k]? := fun k hk => (hb2.block k (by simp [World.setCell]; omega)).trans (Below.heap_alloc _ _ _ (by simp [World.setCell]; omega))
  have hz : Value.slice a2 n2 c2 = .slice none 0 0 := hp2
  simp only [Value.slice.injEq] at hz
  obtain ⟨rfl, rfl, rfl⟩ := hz
  have HS2 := Lib.hid ((e2 bs h3).trans HQS.out)
  have hf2 := (e2 bf hbf).trans HQF.out
  have HF2 := Lib.hid hf2
  have HK2 := Lib.hid hk2
  have HB2 := Lib.hid (show ∀ B w0, Below B w0 w → B ≤ bs → B ≤ bf → Below B w0 w2 from fun B w0 hb k1 k2 => (((hb.setCell (p := ⟨bs, 0, none⟩) k1 _).alloc (by simp [World.setCell]; omega) _).trans (hb2.mono (by simp [World.setCell]; omega))))
  have HE2 := Lib.hid e2
  obtain ⟨f0, f1, f2, f3, f4, f5, f6, f7, f8, f9, f10, f11, f12, f13, fz⟩ := cells14 hf2
  obtain ⟨t0, tz⟩ := cells1x HS2.out
  have hne : bf ≠ bs := by omega
  have hne2 : bs ≠ bf := by omega
  have hl2 : w.heap.size + 1 ≤ w2.heap.size := by have := hb2.size; simp [World.setCell] at this; omega
  clear s0 sz i0 iz hp2 hk2 hb2 hf2 e2
  unfold itemX
  go_wp2_with fail
  go_ret
  refine ⟨rfl, a3, n3, c3, (setX14_far hne2 _ _ _ _ _ _ _ _ _ _ _ _ _ _).trans HS2.out, put14_at HF2.out _ _ _ _ _ _ _ _ _ _ _ _ _ _, (HK2.out.keep (put14_keeps (by simp [World.setCell]; omega) _ _ _ _ _ _ _ _ _ _ _ _ _ _)).mono (by simp [World.setCell]), fun B w0 hb k1 k2 => put14_below (HB2.out B w0 hb k1 k2) k2 _ _ _ _ _ _ _ _ _ _ _ _ _ _, fun k hk k1 k2 => (setX14_far k2 _ _ _ _ _ _ _ _ _ _ _ _ _ _).trans ((HE2.out k hk).trans (HQK.out k k1))⟩
end Go.Proofs.YtdnfoeoiommclaaDoor
