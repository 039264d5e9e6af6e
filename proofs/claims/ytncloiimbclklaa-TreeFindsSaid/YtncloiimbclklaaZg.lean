/- Cases: the laws' awake; a found instance in one form. -/
import Derived.Test.YtncloiimbclklaaZf
import Derived.Test.YtncloiimbclklaaBulk
namespace Go.Proofs.Ytncloiimbclklaa
open Go Go.RowKit Go.Shelf
set_option linter.unusedVariables false
set_option linter.unusedSimpArgs false

theorem txt2 : (⟨(txt 2).toArray⟩ : ByteArray) = ⟨#[50]⟩ := by decide +kernel

set_option maxRecDepth 100000 in
theorem path_c (w : World) : Calls Try.prog 27 #[.string ⟨#[112, 46, 49]⟩, .string ⟨#[116]⟩, .int .i64 2] w fun e w' => e = .returned (.string ⟨#[112, 46, 49, 47, 116, 46, 50]⟩) ∧ Below w.heap.size w w' := by
  have HT := Lib.hid (fun w => text_c w 2 (by omega) (by omega))
  rw [txt2] at HT
  go_enter Try.func27, Try.ntmps27
  go_wp2_with (go_at_call 52; refine (HT.out _).mono ?_; rintro e w' ⟨rfl, hb⟩; have HB := Lib.hid hb; clear hb)
  go_ret
  refine ⟨?_, HB.out⟩
  show Ending.returned (.string ((⟨#[112, 46, 49]⟩ : ByteArray) ++ ⟨#[47]⟩ ++ ((⟨#[116]⟩ : ByteArray) ++ ⟨#[46]⟩ ++ ⟨#[50]⟩))) = _
  rw [show ((⟨#[112, 46, 49]⟩ : ByteArray) ++ ⟨#[47]⟩ ++ ((⟨#[116]⟩ : ByteArray) ++ ⟨#[46]⟩ ++ ⟨#[50]⟩)) = ⟨#[112, 46, 49, 47, 116, 46, 50]⟩ from by decide +kernel]

theorem li : Lib.lastIndex [112, 46, 49, 47, 116, 46, 50] [47] = 3 := by decide +kernel
theorem ex3 : (⟨#[112, 46, 49, 47, 116, 46, 50]⟩ : ByteArray).extract 0 3 = ⟨#[112, 46, 49]⟩ := by decide +kernel
set_option maxRecDepth 100000 in
theorem up_c (w : World) : Calls Try.prog 28 #[.string ⟨#[112, 46, 49, 47, 116, 46, 50]⟩] w fun e w' => e = .returned (.string ⟨#[112, 46, 49]⟩) ∧ Below w.heap.size w w' := by
  have HL := fun w => Try.strings_LastIndex ⟨#[112, 46, 49, 47, 116, 46, 50]⟩ ⟨#[47]⟩ (by decide) w
  rw [show (⟨#[47]⟩ : ByteArray).data.toList = [47] from rfl, show (⟨#[112, 46, 49, 47, 116, 46, 50]⟩ : ByteArray).data.toList = [112, 46, 49, 47, 116, 46, 50] from rfl, li] at HL
  have HL' := Lib.hid HL
  have HX := Lib.hid ex3
  obtain ⟨X, hX⟩ : ∃ X : ByteArray, X = ⟨#[112, 46, 49, 47, 116, 46, 50]⟩ := ⟨_, rfl⟩
  have hs : 3 ≤ X.size := by rw [hX]; decide
  rw [← hX] at HL' HX ⊢
  have hm : max (0 : Int) 3 = 3 := by decide
  clear hX HL
  go_enter Try.func28, Try.ntmps28
  go_wp2_with (go_at_call 53; refine (HL'.out _).mono ?_; rintro e w' ⟨rfl, rfl⟩)
  go_ret
  exact ⟨by rw [← HX.out]; rfl, Below.refl _ _⟩

theorem awake_c (w : World) : Calls Try.prog 7 #[] w fun e w' => e = .returned (.bool true) ∧ Below w.heap.size w w' := by
  have HP := Lib.hid path_c
  have HU := Lib.hid up_c
  have q1 : ((⟨#[112, 46, 49, 47, 116, 46, 50]⟩ : ByteArray).toList == [112, 46, 49, 47, 116, 46, 50]) = true := by decide +kernel
  have q2 : ((⟨#[112, 46, 49]⟩ : ByteArray).toList == [112, 46, 49]) = true := by decide +kernel
  go_enter Try.func7, Try.ntmps7
  go_wp2_with (first
    | (go_at_call 28; refine (HU.out _).mono ?_; rintro e w' ⟨rfl, hb⟩; have HB2 := Lib.hid (bel_tr HB1.out hb); clear hb)
    | (go_at_call 27; refine (HP.out _).mono ?_; rintro e w' ⟨rfl, hb⟩; have HB1 := Lib.hid hb; clear hb))
  go_ret
  exact ⟨rfl, HB2.out⟩


/-- What a search finds, but for where its latches lie. -/
def foundX (o : Option IV) : IV := (o.getD ⟨⟨#[]⟩, ⟨#[]⟩, 0, 0, .slice none 0 0, [], 0⟩).bare
theorem FoundAs.iv {w w0 w' : World} {o : Option IV} {e : Ending} (h : FoundAs w o e w') (hl : ∀ x, o = some x → IVok w0 x) :
    ∃ x : IV, e = .returned (.tuple #[.agg x.cells.toArray, .bool o.isSome]) ∧ IVok w' x ∧ x.bare = foundX o ∧ Below w.heap.size w w' := by
  cases o with
  | none =>
    obtain ⟨he, hb⟩ := h
    exact ⟨⟨⟨#[]⟩, ⟨#[]⟩, 0, 0, .slice none 0 0, [], 0⟩, he, ⟨by decide, by decide, by decide, by decide, by decide, RdV.nil _⟩, rfl, hb⟩
  | some x =>
    obtain ⟨v', he, ho, hb⟩ := h
    have hx := hl x rfl
    refine ⟨{ x with lv := v' }, he, ⟨hx.path, hx.item, hx.st, hx.bf, hx.due, ?_⟩, rfl, hb⟩
    rw [show x.ls.length = (icells x.ls).length from by simp [icells]] at ho
    exact rdv_of_ownS ho
theorem find_mem {l : List IV} {f : IV → Bool} {x : IV} (h : l.find? f = some x) : x ∈ l := List.mem_of_find?_eq_some h
theorem CopyC.cv {w w' : World} {c : CV} {e : Ending} (h : CopyC w c e w') (hc : CVok w c) :
    ∃ c2 : CV, e = .returned c2.val ∧ CVok w' c2 ∧ c2.id = c.id ∧ c2.model = c.model ∧ c2.clock = c.clock ∧ c2.insts.map IV.bare = c.insts.map IV.bare ∧ c2.docs.map DV.bare = c.docs.map DV.bare ∧ Below w.heap.size w w' := by
  obtain ⟨vI, vD, he, hi, hd, hb⟩ := h
  obtain ⟨li, h1, h2⟩ := hi.is (w0 := w) (fun x hx => hc.insts.2 x hx)
  obtain ⟨ld, h3, h4⟩ := hd.is (w0 := w) (fun x hx => hc.docs.2 x hx)
  exact ⟨⟨c.id, c.model, vI, vD, c.clock, li, ld⟩, he, ⟨hc.id, hc.clock, hc.model, h1, h3⟩, rfl, rfl, rfl, h2, h4, hb⟩
theorem sameD_bare {x y : DV} (h : x.bare = y.bare) : sameD x y = true := by
  obtain ⟨path, vk, vi, vb, vt, rv, rs⟩ := x
  obtain ⟨path2, vk2, vi2, vb2, vt2, rv2, rs2⟩ := y
  simp only [DV.bare, DV.mk.injEq] at h
  obtain ⟨rfl, rfl, rfl, rfl, rfl, _, rfl⟩ := h
  simp [sameD, sameVal, sameT]
theorem zip_all {α β : Type} {f : α → α → Bool} {g : α → β} (hf : ∀ x y, g x = g y → f x y = true) : ∀ {l1 l2 : List α}, l1.map g = l2.map g → ((l1.zip l2).all fun p => f p.1 p.2) = true
  | [], _, _ => by simp
  | x :: r, [], h => by simp
  | x :: r, y :: s, h => by
    simp only [List.map_cons, List.cons.injEq] at h
    simp only [List.zip_cons_cons, List.all_cons, Bool.and_eq_true]
    exact ⟨hf x y h.1, zip_all hf h.2⟩
theorem sameC_of {x y : CV} (h1 : x.id = y.id) (h2 : x.model = y.model) (h3 : x.clock = y.clock) (h4 : x.insts.map IV.bare = y.insts.map IV.bare) (h5 : x.docs.map DV.bare = y.docs.map DV.bare) : sameC x y = true := by
  have l4 : x.insts.length = y.insts.length := by simpa using congrArg List.length h4
  have l5 : x.docs.length = y.docs.length := by simpa using congrArg List.length h5
  unfold sameC sameDs
  rw [h1, h2, h3, decide_eq_true l4, decide_eq_true l5, zip_all (fun _ _ => sameD_bare) h5, zip_all (fun _ _ => sameI_bare) h4]
  simp
end Go.Proofs.Ytncloiimbclklaa
