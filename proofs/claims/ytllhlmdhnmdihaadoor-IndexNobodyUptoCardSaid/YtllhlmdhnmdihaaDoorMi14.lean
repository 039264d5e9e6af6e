/- shape: the parts of a path as an iterator. -/
import Derived.Test.YtllhlmdhnmdihaaDoorMi13
namespace Go.Proofs.YtllhlmdhnmdihaaDoor.P
open Go Go.RowKit Go.Shelf
set_option linter.unusedVariables false

attribute [local go_sem] Oper.semAt_some

theorem round_wide {P : Program} {n m l l2 : Nat} {f : FuncId} {tmps : Array Value} {assign body : Code} {w : World} {R : Ending → World → Prop}
    (h : RoundIn Fence.wide n P l f tmps assign body w R) : RoundIn (Fence.wide.inRound l2) m P l f tmps assign body w R :=
  ⟨trivial, fun c cs _ => h.2 c cs (room_wide _)⟩

theorem terr_in {b s : Nat} {T : Nat → Prop} {Bp Bs Bv : Nat} (h1 : s ≤ Bp ∧ Bp < s + 6) (h2 : s ≤ Bs ∧ Bs < s + 6) (h3 : s ≤ Bv ∧ Bv < s + 6) (hb : b = s + 4) : ∀ k, terr (tri Bp Bs Bv) b (2 + 0) k → terr T s 6 k := by
  rintro k ((rfl | rfl | rfl) | h)
  · exact .inr h1
  · exact .inr h2
  · exact .inr h3
  · exact .inr (by omega)

/-- What yield has said, and what became of the world. -/
def Said (J Jx : List (List UInt8) → World → Prop) (T : Nat → Prop) (xs : List (List UInt8)) (w : World) (g : Bool) (W' : World) : Prop :=
  (g = true → J xs W') ∧ (g = false → Jx xs W') ∧ Keeps T w W'
theorem said_g {J Jx : List (List UInt8) → World → Prop} {T : Nat → Prop} {xs : List (List UInt8)} {w W' : World} {e : Ending}
    (h : (e = .returned (.bool true) ∧ J xs W' ∧ Keeps T w W') ∨ (e = .returned (.bool false) ∧ Jx xs W' ∧ Keeps T w W')) : ∃ g, e = .returned (.bool g) ∧ Said J Jx T xs w g W' := by
  rcases h with ⟨h1, h2, h3⟩ | ⟨h1, h2, h3⟩
  · exact ⟨true, h1, fun _ => h2, (fun h => by cases h), h3⟩
  · exact ⟨false, h1, (fun h => by cases h), fun _ => h2, h3⟩

set_option maxRecDepth 100000 in
set_option maxHeartbeats 4000000 in
theorem parts1_in (n : Nat) (hn : 6 ≤ n) (l Bd : Nat) (doc : ByteArray) (hdoc : doc.size ≤ 140737488355328) (J Jx : List (List UInt8) → World → Prop) (W : World) (hd : Boxed W Bd 9 (.string doc))
    (hJ : Abides (terr (fun k => k = Bd) W.heap.size 6) J) (hJx : Abides (terr (fun k => k = Bd) W.heap.size 6) Jx)
    (hY : ∀ pre x W1, J pre W1 → W.heap.size + 6 ≤ W1.heap.size → (pre ++ [x]) <+: splitD doc.data.toList → YieldAt Fence.wide (n - 1) Tryd.prog l (pV (partF x)) W1 fun e W' =>
      (e = .returned (.bool true) ∧ J (pre ++ [x]) W' ∧ Keeps (terr (fun k => k = Bd) W.heap.size 6) W1 W') ∨ (e = .returned (.bool false) ∧ Jx (pre ++ [x]) W' ∧ Keeps (terr (fun k => k = Bd) W.heap.size 6) W1 W'))
    (h0 : J [] W) :
    CallsIn Fence.wide n Tryd.prog 64 #[.func (.yield l) #[] #[], .pointer (some ⟨Bd, 0, none⟩)] W fun e W' =>
      (∃ v, e = .returned v) ∧ ((∃ xs, xs = splitD doc.data.toList ∧ J xs W') ∨ (∃ pre, pre <+: splitD doc.data.toList ∧ Jx pre W')) := by
  have HY := Lib.hid hY
  have HJ := Lib.hid hJ
  have HJx := Lib.hid hJx
  clear hY hJ hJx
  have h1 : 1 ≤ n := by omega
  have HC := Lib.hid (fun w => splitSeq_c doc w)
  have hcd := hd.cell
  have hlt := hd.lt
  refine callsIn_of_wp_marks Tryd.func64 rfl trivial ?_ rfl
  simp only [Tryd.ntmps64, List.size_toArray, List.length_cons, List.length_nil, Nat.reduceAdd, Nat.reduceSub, Array.replicate_succ, Array.replicate_zero, List.push_toArray, List.append_toArray, List.nil_append, List.cons_append]
  gi_wp2_with (refine ⟨trivial, ?_⟩; gi_at_call 62; refine (callsIn_wide.2 (HC.out _)).mono ?_; rintro e w' ⟨rfl, rfl⟩)
  clear hcd
  obtain ⟨W4, hW4⟩ : ∃ W4, ((((W.alloc (.cells #[.func (.yield l) #[] #[]] 145)).alloc (.cells #[.string doc] 9)).alloc (.cells #[.string ⟨#[46]⟩] 9)).alloc (.cells #[.int .i64 0] 3)) = W4 := ⟨_, rfl⟩
  have bY : Boxed W4 W.heap.size 145 (.func (.yield l) #[] #[]) := by rw [← hW4]; exact ((((Boxed.new W _ _).alloc _).alloc _).alloc _)
  have bS : Boxed W4 (W.heap.size + 1) 9 (.string doc) := by
    rw [← hW4]
    have := Boxed.new (W.alloc (.cells #[.func (.yield l) #[] #[]] 145)) 9 (.string doc)
    rw [World.size_alloc] at this
    exact (this.alloc _).alloc _
  have bP : Boxed W4 (W.heap.size + 1 + 1) 9 (.string ⟨#[46]⟩) := by
    rw [← hW4]
    have := Boxed.new ((W.alloc (.cells #[.func (.yield l) #[] #[]] 145)).alloc (.cells #[.string doc] 9)) 9 (.string ⟨#[46]⟩)
    rw [World.size_alloc, World.size_alloc] at this
    exact this.alloc _
  have bV : Boxed W4 (W.heap.size + 1 + 1 + 1) 3 (.int .i64 0) := by
    rw [← hW4]
    have := Boxed.new (((W.alloc (.cells #[.func (.yield l) #[] #[]] 145)).alloc (.cells #[.string doc] 9)).alloc (.cells #[.string ⟨#[46]⟩] 9)) 3 (.int .i64 0)
    rw [World.size_alloc, World.size_alloc, World.size_alloc] at this
    exact this
  have hsz : W4.heap.size = W.heap.size + 4 := by rw [← hW4]; simp
  have hT4 : Turns (terr (fun k => k = Bd) W.heap.size 6) W W4 := by rw [← hW4]; exact ((((Turns.refl _ W).alloc _).alloc _).alloc _).alloc _
  have h04 : J [] W4 := HJ.out _ _ _ h0 hT4
  rw [hW4]
  clear hW4 h0 hd hlt hT4
  have hin := terr_in (T := fun k => k = Bd) (b := W4.heap.size) (s := W.heap.size) (Bp := W.heap.size + 1 + 1) (Bs := W.heap.size + 1) (Bv := W.heap.size + 1 + 1 + 1) (by omega) (by omega) (by omega) (by omega)
  have hnY : ¬ terr (tri (W.heap.size + 1 + 1) (W.heap.size + 1) (W.heap.size + 1 + 1 + 1)) W4.heap.size (2 + 0) W.heap.size := by
    rintro ((h | h | h) | h) <;> omega
  have HIN := Lib.hid hin
  have HSZ := Lib.hid hsz
  refine rangeX rfl h1 (gf := 76) (lb := #[.pointer (some ⟨W.heap.size + 1 + 1, 0, none⟩), .pointer (some ⟨W.heap.size + 1, 0, none⟩), .pointer (some ⟨W.heap.size + 1 + 1 + 1, 0, none⟩)]) rfl trivial (enters_of Tryd.func76 (by kernel_rfl) rfl)
    (split_seq (n - 1) (by omega) (W.heap.size + 1 + 1) (W.heap.size + 1) (W.heap.size + 1 + 1 + 1) (by omega) (by omega) doc hdoc W4 bP bS bV) (Below.refl _ _) (by rintro k (rfl | rfl | rfl) <;> omega) (fun _ => rfl)
    (fun pre W' => J pre W' ∧ Boxed W' W.heap.size 145 (.func (.yield l) #[] #[]))
    (fun c pre W' => c = .ret ∧ Jx pre W')
    (abides_and (abides_mono HJ.out hin) (abides_block (fun _ => W.heap.size) (fun _ => .cells #[.func (.yield l) #[] #[]] 145 (0, 0)) (fun _ => hnY)))
    (fun c => abides_and (abides_pure _ (fun _ => c = .ret)) (abides_mono HJx.out hin))
    ⟨h04, bY⟩
    (fun x a' _ => a' = { tmps := #[.func (.yield l) #[] #[], .pointer (some ⟨Bd, 0, none⟩), .pointer (some ⟨W.heap.size, 0, none⟩), .string ⟨x.toArray⟩, .string doc, .func (.func 76) #[] #[.pointer (some ⟨W.heap.size + 1 + 1, 0, none⟩), .pointer (some ⟨W.heap.size + 1, 0, none⟩), .pointer (some ⟨W.heap.size + 1 + 1 + 1, 0, none⟩)], .string ⟨x.toArray⟩, undef, undef, undef, undef, undef, undef, undef], defers := [] })
    (fun _ _ _ _ _ hs _ => hs)
    ?assign ?body ?done ?stop
  case assign =>
    intro l2 pre x W5 C hi hge hC
    gi_wp2
    exact hC _ _ (Keeps.refl _ _) hi rfl
  case body =>
    rintro l2 pre x a' W5 ⟨hj, hy5⟩ hge rfl hG
    have hx : (⟨x.toArray⟩ : ByteArray).size ≤ 140737488355328 := by
      have h1 := (splitD_mem doc.data.toList x (hG.subset (by simp))).1
      have h2 : doc.data.toList.length = doc.size := Array.length_toList
      have h3 : (⟨x.toArray⟩ : ByteArray).size = x.length := List.size_toArray ..
      omega
    have HP := Lib.hid (fun w => partOf_c w ⟨x.toArray⟩ hx)
    have HYx := Lib.hid (fun W1 => HY.out pre x W1)
    rw [show (⟨x.toArray⟩ : ByteArray).data.toList = x from rfl, show pV (partF x) = #[pA (partF x), .bool (partF x).isSome] from rfl] at HP
    rw [show pV (partF x) = #[pA (partF x), .bool (partF x).isSome] from rfl] at HYx
    generalize pA (partF x) = pa at HP HYx
    generalize (partF x).isSome = pb at HP HYx
    have hcy := hy5.cell
    have hlty := hy5.lt
    have HB5 := Lib.hid (And.intro hj (And.intro hy5 (And.intro hge hG)))
    have h1' : 1 ≤ n - 1 - 1 := by omega
    have hmix : Tryd.prog.follows .mixedOrders = true := by kernel_rfl
    clear hj hy5 hge hG hx bY bS bP bV h04 hnY hin hsz
    have HW6 := Lib.hid (fun (w' : World) (hb : Below W5.drew.heap.size W5.drew w') => (show J pre w' ∧ Boxed w' W.heap.size 145 (.func (.yield l) #[] #[]) ∧ W.heap.size + 6 ≤ w'.heap.size ∧ Keeps (terr (fun k => k = Bd) W.heap.size 6) W5 w' from
      ⟨HJ.out _ _ _ HB5.out.1 (((Turns.refl _ W5).drew).trans (Turns.of_below hb (fun k h1 h2 => by omega))), (hb.block _ HB5.out.2.1.lt).trans HB5.out.2.1, by
        have h1 := hb.size
        have h2 := HB5.out.2.2.1
        have h4 := HSZ.out
        have h3 : W5.drew.heap.size = W5.heap.size := rfl
        omega, ((Keeps.refl _ W5).drew).trans (Keeps.of_below hb (fun k _ h => h))⟩))
    gi_wp2_with fail
    gi_region_with_o (first
      | (refine ⟨trivial, ?_⟩; gi_at_call 65; refine (CallsIn.inRound l2 (callsIn_wide.2 (HP.out _))).mono ?_; rintro e w' ⟨rfl, hb⟩; have H6 := Lib.hid (HW6.out w' hb); have hc6 := H6.out.2.1.cell; obtain ⟨fn, tmps, assign, body, hyy, hR⟩ := HYx.out w' H6.out.1 H6.out.2.2.1 HB5.out.2.2.2; have HR := Lib.hid hR; clear hR hb)
      | (refine (round_wide HR.out).mono ?_; intro e W6 hres; obtain ⟨g, rfl, hg⟩ := said_g hres; have HG := Lib.hid hg; clear hres hg))
    all_goals
      have hkk := (H6.out.2.2.2.trans HG.out.2.2).mono HIN.out
      have hyb := (HG.out.2.2.same W.heap.size (.inr ⟨Nat.le_refl _, by omega⟩) H6.out.2.1.lt).trans H6.out.2.1
      have HE := Lib.hid (And.intro hkk hyb)
      clear hkk hyb
      cases g
      · gi_wp2
        exact ⟨HE.out.1, rfl, HG.out.2.1 rfl⟩
      · gi_wp2
        exact ⟨HE.out.1, HG.out.1 rfl, HE.out.2⟩
  case done =>
    rintro D xs W5 hDe rfl ⟨hj, _⟩ hD
    have hj' := HJ.out _ _ _ hj ((Turns.refl _ W5).putObj (l := D) (.inr (by omega)) (.deferred none))
    gi_wp2
    refine ⟨by simp, .inl ⟨_, _, rfl, run_takeDeferred hD, ?_⟩⟩
    exact ⟨_, results_none rfl _ _ _, ⟨_, rfl⟩, .inl ⟨_, rfl, hj'⟩⟩
  case stop =>
    rintro D c pre W5 hDe hS ⟨rfl, hj⟩ hD
    have hj' := HJx.out _ _ _ hj ((Turns.refl _ W5).putObj (l := D) (.inr (by omega)) (.deferred none))
    gi_wp2
    refine ⟨by simp, .inl ⟨_, _, rfl, run_takeDeferred hD, ?_⟩⟩
    exact ⟨_, results_none rfl _ _ _, ⟨_, rfl⟩, .inr ⟨_, hS, hj'⟩⟩

theorem parts_c (doc : ByteArray) (w : World) : Calls Tryd.prog 51 #[.string doc] w fun e w' =>
    e = .returned (.func (.func 64) #[] #[.pointer (some ⟨w.heap.size, 0, none⟩)]) ∧ w' = w.alloc (.cells #[.string doc] 9) := by
  go_enter Tryd.func51, Tryd.ntmps51
  go_wp2
  go_ret
  exact ⟨rfl, rfl⟩

/-- What parts hands back, as an iterator. -/
theorem parts_seq (n : Nat) (hn : 6 ≤ n) (Bd : Nat) (doc : ByteArray) (hdoc : doc.size ≤ 140737488355328) (w : World) (hd : Boxed w Bd 9 (.string doc)) :
    SeqX Fence.wide n Tryd.prog 64 #[.pointer (some ⟨Bd, 0, none⟩)] (fun x : List UInt8 => pV (partF x))
      (fun k => k = Bd) 6 (fun xs => xs = splitD doc.data.toList) (fun pre => pre <+: splitD doc.data.toList) (fun pre x => (pre ++ [x]) <+: splitD doc.data.toList) w :=
  fun l J Jx W hW hJ hJx hY h0 => parts1_in n hn l Bd doc hdoc J Jx W ((hW.block _ hd.lt).trans hd) hJ hJx hY h0
end Go.Proofs.YtllhlmdhnmdihaaDoor.P
