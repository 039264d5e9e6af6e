/- journal: Open of a disk that holds a journal. -/
import Derived.Test.YtfljpnfjndjhpaaJx
import Derived.Test.YtfljpnfjndjhpaaRow
namespace Go.Proofs.Ytfljpnfjndjhpaa
open Go Go.RowKit Go.Deep
set_option linter.unusedVariables false
set_option linter.unusedSimpArgs false

/-- What restore and Open give: the journal of l's first body and the others, or the error. -/
def RstE (w : World) (a : Addr) (foot : List Nat) (E : Int) (l : List (List UInt8)) (s' : DS) (e : Ending) (w' : World) : Prop :=
  After w (some a) s' foot w' ∧ (E = 0 → ∃ jb sv rv, e = .returned (.tuple #[.pointer (some ⟨jb, 0, none⟩), .int .i64 0]) ∧ w'.heap[jb]? = some (.cells #[.pointer (some a), sv, rv, .bool false] 51 (0, 0)) ∧ Rd w' sv (l.headD []) ∧ RdRows w' rv l.tail) ∧ (E ≠ 0 → e = .returned (.tuple #[.pointer none, .int .i64 E]))
/-- What restore does to the disk. -/
def DS.rst (s : DS) (b : List UInt8) : Int × List (List UInt8) × DS :=
  if (splM b).1 = [] then (72, [], s)
  else if (splM b).2 < b.length then
    if (s.trunc curN ((splM b).2 : Nat)).1 ≠ 0 then ((s.trunc curN ((splM b).2 : Nat)).1, [], (s.trunc curN ((splM b).2 : Nat)).2) else (0, (splM b).1, (s.trunc curN ((splM b).2 : Nat)).2)
  else (0, (splM b).1, s)

section
variable {w : World} {a : Addr} {s : DS} {foot : List Nat}

theorem cell_of_rowJ {w : World} {g i : Nat} {cur : Array Value} {T : TypeId} (h : w.heap[g]? = some (.cells cur T (0, 0))) : w.cell? ⟨g, i, none⟩ = cur[i]? := by simp [World.cell?, h]
theorem Disk.ofBelowJ {w w' : World} {p : Option Addr} {s : DS} {foot : List Nat} (h : Disk w p s foot) (hb : Below w.heap.size w w') : After w p s foot w' := ⟨foot, h.below hb, fun i hi => .inl hi, Chg.of_below hb⟩
/-- The row of cuts, its first and the others. -/
theorem cuts_open {w w' : World} {base : Nat} {v : Value} {x : List UInt8} {tl : List (List UInt8)} {vs : List Value} {va : Option Addr} {vc : Nat} (how : OwnS w base 23 1 (.slice va (tl.length + 1) vc) (tl.length + 1) vs) (hcu : CutsOf w v (x :: tl) vs)
    (hk : ∀ g, g < w.heap.size → ((Value.slice va (tl.length + 1) vc).ownBlock = some g ∨ v.ownBlock = some g) → w'.heap[g]? = w.heap[g]?) (hs : w.heap.size ≤ w'.heap.size) :
    ∃ g o xa xc, va = some ⟨g, o, none⟩ ∧ g < w'.heap.size ∧ tl.length + 1 ≤ vc ∧ w'.cell? ⟨g, o, none⟩ = some (.slice xa x.length xc) ∧ Rd w' (.slice xa x.length xc) x ∧ RdRows w' (if vc = 1 then .slice (some ⟨g, o, none⟩) 0 0 else .slice (some ⟨g, o + 1, none⟩) tl.length (vc - 1)) tl := by
  obtain ⟨g, o, c, hv, hb, hg, h1⟩ := how.own1 (by omega)
  simp only [Value.slice.injEq] at hv
  obtain ⟨rfl, _, rfl⟩ := hv
  obtain ⟨cur, hgc, hl, hc, hm, hx⟩ := h1
  obtain ⟨hl1, hcx⟩ := hcu
  simp only [List.length_cons] at hl1
  have hg' : w'.heap[g]? = some (.cells cur 23 (0, 0)) := (hk g hg (.inl rfl)).trans hgc
  have hrd : ∀ (aa : Option Addr) (n cc : Nat) (y : List UInt8), Rd w (.slice aa n cc) y → (∀ k, (Value.slice aa n cc).ownBlock = some k → v.ownBlock = some k) → Rd w' (.slice aa n cc) y := fun aa n cc y hr hb => rd_keepJ hr (fun k hk1 hk2 => hk k hk2 (.inr (hb k hk1)))
  have hat : ∀ i y, (x :: tl)[i]? = some y → ∃ a' c', w'.cell? ⟨g, o + i, none⟩ = some (.slice a' y.length c') ∧ Rd w' (.slice a' y.length c') y := fun i y hy => by
    obtain ⟨a', c', k1, k2, k3⟩ := hcx i y hy
    have hi : i < vs.length := (List.getElem?_eq_some_iff.1 k1).1
    exact ⟨a', c', by rw [cell_of_rowJ hg']; rw [hx i hi]; exact k1, hrd _ _ _ _ k2 k3⟩
  obtain ⟨xa, xc, k1, k2⟩ := hat 0 x rfl
  refine ⟨g, o, xa, xc, rfl, Nat.lt_of_lt_of_le hg hs, hc, k1, k2, ?_⟩
  split
  · have : tl = [] := List.eq_nil_of_length_eq_zero (by omega)
    subst this
    exact ⟨_, 0, rfl, Nat.le_refl _, by unfold maxLen; omega, by simp, fun h => by simp at h⟩
  · refine ⟨_, vc - 1, rfl, by omega, by omega, by simp, fun hp => ⟨g, o + 1, rfl, Nat.lt_of_lt_of_le hg hs, fun i y hy => ?_⟩⟩
    obtain ⟨a', c', q1, q2⟩ := hat (i + 1) y (by simpa using hy)
    exact ⟨a', c', by rw [show o + 1 + i = o + (i + 1) from by omega]; exact q1, q2⟩

theorem rst_fin {W : World} {s' : DS} {sv rv : Value} {x : List UInt8} {tl : List (List UInt8)} (ha : After w (some a) s' foot W) (hrx : Rd W sv x) (hrt : RdRows W rv tl) : RstE w a foot 0 (x :: tl) s' (.returned (.tuple #[.pointer (some ⟨W.heap.size, 0, none⟩), .int .i64 0])) (W.drew.alloc (.cells #[.pointer (some a), sv, rv, .bool false] 51 (0, 0))) := by
  obtain ⟨f, hd, hf, hc⟩ := ha
  have hb : Below W.heap.size W (W.drew.alloc (.cells #[.pointer (some a), sv, rv, .bool false] 51 (0, 0))) := ((Below.refl W.heap.size W).drew).alloc (Nat.le_refl _) _
  exact ⟨⟨f, hd.below hb, hf, hc.trans (Chg.of_below hb)⟩, fun _ => ⟨_, _, _, rfl, heap_alloc_new W.drew _, hrx.below hb, hrt.below hb⟩, fun h => absurd rfl h⟩
set_option maxRecDepth 100000 in
set_option maxHeartbeats 4000000 in
theorem restore_c (hd : Disk w (some a) s foot) (hl : s.fs.length ≤ 999999999) (v : Value) (b : List UInt8) (hv : Rd w v b) (h0 : 0 < b.length) (hn : b.length ≤ 4294967295) (hvf : ∀ g, v.ownBlock = some g → g < w.heap.size ∧ g ∉ foot) :
    Calls Try.prog 19 #[.pointer (some a), v] w (RstE w a foot (s.rst b).1 (s.rst b).2.1 (s.rst b).2.2) := by
  have HD := Lib.hid hd
  have HV := Lib.hid hv
  have HVF := Lib.hid hvf
  have HL := Lib.hid hl
  have HSP := Lib.hid (split_c w v b hv h0 hn)
  obtain ⟨p, c, rfl, l1, l2, _⟩ := hv
  obtain ⟨L, hL⟩ : ∃ L, L = (splM b).1 := ⟨_, rfl⟩
  obtain ⟨n, hnn⟩ : ∃ n, n = (splM b).2 := ⟨_, rfl⟩
  have HR := Lib.hid (show s.rst b = if L = [] then (72, [], s) else if n < b.length then if (s.trunc curN (n : Nat)).1 ≠ 0 then ((s.trunc curN (n : Nat)).1, [], (s.trunc curN (n : Nat)).2) else (0, L, (s.trunc curN (n : Nat)).2) else (0, L, s) from by rw [hL, hnn]; rfl)
  have HSP2 := Lib.hid (HSP.out.mono fun e w' h => (show ∃ va vc vs, e = .returned (.tuple #[.slice va L.length vc, .int .i64 (n : Nat)]) ∧ OwnS w' w.heap.size 23 1 (.slice va L.length vc) L.length vs ∧ CutsOf w' (.slice p b.length c) L vs ∧ Below w.heap.size w w' from by rw [hL, hnn]; exact h))
  clear HSP hL hnn hd hvf hl hn
  go_enter Try.func19, Try.ntmps19
  go_wp2_with fail
  refine HSP2.out.mono ?_
  rintro e w1 ⟨va, vc, vs, rfl, how, hcu, hb1⟩
  have HO := Lib.hid (And.intro how (And.intro hcu hb1))
  clear how hcu hb1
  cases L with
  | nil =>
    go_wp2_with fail
    refine bodyPost_ret (v := .tuple #[.pointer none, .int .i64 72]) (by simp [results, Try.results19, go_sem]) rfl ?_
    have hr := HR.out
    rw [if_pos trivial] at hr
    rw [hr]
    exact ⟨HD.out.ofBelowJ HO.out.2.2, fun h => by omega, fun _ => rfl⟩
  | cons x tl =>
    simp only [List.length_cons] at HO
    have hz2 : (((tl.length : Nat) : Int) + 1 == 0) = false := beq_eq_false_iff_ne.2 (by omega)
    have hln : (x :: tl) ≠ [] := by simp
    have hr := HR.out
    rw [if_neg hln] at hr
    have HRR := Lib.hid hr
    clear hr
    by_cases hnb : n < b.length
    · have hd1 : decide (((n : Nat) : Int) < ((b.length : Nat) : Int)) = true := decide_eq_true (by omega)
      go_wp2_with fail
      refine (trunc_c (HD.out.below HO.out.2.2) curB (by decide) (by have := HL.out; omega) (n : Int)).mono ?_
      rintro e w2 ⟨rfl, foot2, hd2, hf2, hc2⟩
      have HA := Lib.hid (show After w (some a) (s.trunc curN (n : Nat)).2 foot w2 from ⟨foot2, hd2, fun i hi => (hf2 i hi).imp id (fun h => Nat.le_trans HO.out.2.2.size h), (Chg.of_below HO.out.2.2).trans hc2⟩)
      have HC2 := Lib.hid hc2
      obtain ⟨T1, hT1⟩ : ∃ T1, T1 = (s.trunc curN (n : Nat)).1 := ⟨_, rfl⟩
      have HT1 := Lib.hid hT1
      rw [show (s.trunc curB.data.toList (n : Int)).1 = T1 from hT1.symm]
      clear hd2 hf2 hc2 hT1
      by_cases hT : T1 = 0
      · have HT0 := Lib.hid (show (s.trunc curN (n : Nat)).1 = 0 from by rw [← HT1.out]; exact hT)
        subst hT
        obtain ⟨g, o, xa, xc, rfl, hg, hvc, k0, hrx, hrt⟩ := cuts_open (w' := w2) HO.out.1 HO.out.2.1 (fun g hg hor => HC2.out.block g hg (fun hm => by
          rcases hor with ho | ho
          · have h1 := HO.out.1.baseJ g ho
            have h2 := HD.out.lt _ hm
            omega
          · exact (HVF.out g ho).2 hm)) HC2.out.size
        have hi0 : (0 : Int) ≤ ((tl.length : Nat) : Int) := by omega
        have hi1 : (0 : Int) < ((tl.length : Nat) : Int) + 1 := by omega
        rcases Nat.lt_or_ge 1 vc with hv1 | hv1
        · rw [if_neg (by omega)] at hrt
          have HX := Lib.hid (And.intro hrx hrt)
          clear hrx hrt
          go_wp2_with fail
          go_region
          go_wp2_with fail
          refine bodyPost_ret (v := .tuple #[.pointer (some ⟨w2.heap.size, 0, none⟩), .int .i64 0]) (by simp [results, Try.results19, go_sem]) rfl ?_
          have hr := HRR.out
          rw [if_pos hnb, if_neg (by rw [HT0.out]; decide)] at hr
          rw [hr]
          exact rst_fin (HA.out) HX.out.1 HX.out.2
        · have hvc1 : vc = 1 := by omega
          subst hvc1
          have htl : tl.length = 0 := by omega
          rw [if_pos rfl] at hrt
          have HX := Lib.hid (And.intro hrx hrt)
          clear hrx hrt
          go_wp2_with fail
          go_region
          go_wp2_with fail
          refine bodyPost_ret (v := .tuple #[.pointer (some ⟨w2.heap.size, 0, none⟩), .int .i64 0]) (by simp [results, Try.results19, go_sem]) rfl ?_
          have hr := HRR.out
          rw [if_pos hnb, if_neg (by rw [HT0.out]; decide)] at hr
          rw [hr]
          exact rst_fin (HA.out) HX.out.1 HX.out.2
      · have hT' : (T1 == 0) = false := beq_eq_false_iff_ne.2 hT
        go_wp2_with fail
        refine bodyPost_ret (v := .tuple #[.pointer none, .int .i64 T1]) (by simp [results, Try.results19, go_sem]) rfl ?_
        have hr := HRR.out
        rw [if_pos hnb, if_pos (by rw [← HT1.out]; exact hT)] at hr
        rw [hr, ← HT1.out]
        exact ⟨HA.out, fun h => absurd h hT, fun _ => rfl⟩
    · have hd1 : decide (((n : Nat) : Int) < ((b.length : Nat) : Int)) = false := decide_eq_false (by omega)
      obtain ⟨g, o, xa, xc, rfl, hg, hvc, k0, hrx, hrt⟩ := cuts_open HO.out.1 HO.out.2.1 (fun _ _ _ => rfl) (Nat.le_refl _)
      have hi0 : (0 : Int) ≤ ((tl.length : Nat) : Int) := by omega
      have hi1 : (0 : Int) < ((tl.length : Nat) : Int) + 1 := by omega
      rcases Nat.lt_or_ge 1 vc with hv1 | hv1
      · rw [if_neg (by omega)] at hrt
        have HX := Lib.hid (And.intro hrx hrt)
        clear hrx hrt
        go_wp2_with fail
        go_region
        go_wp2_with fail
        refine bodyPost_ret (v := .tuple #[.pointer (some ⟨w1.heap.size, 0, none⟩), .int .i64 0]) (by simp [results, Try.results19, go_sem]) rfl ?_
        have hr := HRR.out
        rw [if_neg hnb] at hr
        rw [hr]
        exact rst_fin (HD.out.ofBelowJ HO.out.2.2) HX.out.1 HX.out.2
      · have hvc1 : vc = 1 := by omega
        subst hvc1
        have htl : tl.length = 0 := by omega
        rw [if_pos rfl] at hrt
        have HX := Lib.hid (And.intro hrx hrt)
        clear hrx hrt
        go_wp2_with fail
        go_region
        go_wp2_with fail
        refine bodyPost_ret (v := .tuple #[.pointer (some ⟨w1.heap.size, 0, none⟩), .int .i64 0]) (by simp [results, Try.results19, go_sem]) rfl ?_
        have hr := HRR.out
        rw [if_neg hnb] at hr
        rw [hr]
        exact rst_fin (HD.out.ofBelowJ HO.out.2.2) HX.out.1 HX.out.2
end
end Go.Proofs.Ytfljpnfjndjhpaa
