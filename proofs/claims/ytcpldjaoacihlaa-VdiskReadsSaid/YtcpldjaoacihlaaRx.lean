/- the reference's disk: set, whatever the case; Fuse, Room, New. -/
import Derived.Test.YtcpldjaoacihlaaRv
namespace Go.Proofs.Ytcpldjaoacihlaa
open Go.RowKit
set_option linter.unusedVariables false

section
variable {w : World} {qb : Nat} {s : DS} {lv : Value} {G : Ents}

theorem set_r (h : RC w qb s lv G) (hq : lv.ownBlock ≠ some qb) (hbb : ∀ i ∈ bblks G, i ≠ qb ∧ lv.ownBlock ≠ some i) (hl : G.length ≤ 1000000) (n : ByteArray) (hn : n.size ≤ 9223372036854775807) (bv : Value) (f : Fl)
    (hrd : Rd w bv f.data) (hbv : ∀ i, f.data.length ≠ 0 → bv.ownBlock = some i → i ≠ qb ∧ lv.ownBlock ≠ some i) (ho : ({ s with fs := putA n.data.toList f s.fs } : DS).Ok) :
    Calls Try.prog 59 #[.pointer (some ⟨qb, 0, none⟩), .agg #[.string n, bv, .int .i64 f.sy]] w fun e w' => e = .returned (.tuple #[]) ∧ SetPost w qb s lv G n.data.toList bv f w' := by
  obtain ⟨bp, bc, rfl, _⟩ := id hrd
  have hqb : qb ∉ bblks G := fun hm => (hbb qb hm).1 rfl
  have hbv1 : ∀ g, f.data.length ≠ 0 → (Value.slice bp f.data.length bc).ownBlock = some g → g ≠ qb := fun g h1 h2 => (hbv g h1 h2).1
  cases hg : getA n.data.toList G with
  | some x =>
    rcases h.row.2 with ⟨rfl, h0⟩ | ⟨g, off, c, cur, rfl, _⟩
    · have : G = [] := List.eq_nil_of_length_eq_zero h0
      subst this
      cases hg
    · exact set_old h (fun e => hq (by rw [← e]; rfl)) (fun i hi => ⟨(hbb i hi).1, fun e => (hbb i hi).2 (by rw [e]; rfl)⟩) n hn bp bc f hrd (fun i h1 h2 => ⟨(hbv i h1 h2).1, fun e => (hbv i h1 h2).2 (by rw [e]; rfl)⟩) hg ho
  | none =>
    rcases h.row.2 with ⟨rfl, h0⟩ | ⟨g, off, c, cur, rfl, _, _, hc, _⟩
    · have : G = [] := List.eq_nil_of_length_eq_zero h0
      subst this
      exact set_new3 h hq hqb n hn bp bc f hrd hbv1 hg ho
    · by_cases hcK : c = posA n.data.toList G
      · have hle := posA_le (n := n.data.toList) (l := G)
        have : c = G.length := by omega
        subst this
        exact set_new2 h hq hqb hl n hn bp bc f hrd hbv1 hg ho hcK.symm
      · exact set_new1 h hq hqb hl n hn bp bc f hrd hbv1 hg ho hcK

theorem fuse_r (h : RC w qb s lv G) (hq : lv.ownBlock ≠ some qb) (hbb : qb ∉ bblks G) (k : Int) (hk : -9223372036854775808 ≤ k ∧ k ≤ 9223372036854775807) :
    Calls Try.prog 38 #[.pointer (some ⟨qb, 0, none⟩), .int .i64 k] w fun e w' => e = .returned (.int .i64 (s.setFuse k).1) ∧ RC w' qb (s.setFuse k).2 lv G ∧ Chg [qb] w w' := by
  obtain ⟨c0, c1, c2, c3, cf⟩ := cells4 h.blk
  have cf2 := cf 2
  have HC := Lib.hid h
  have HQ := Lib.hid (And.intro hq hbb)
  have HB := Lib.hid (h.ok.setFuse k hk.2)
  clear h c0 c1 c3 cf hq hbb
  by_cases h0 : k < 0
  · have HX := Lib.hid (show s.setFuse k = (1, s) from by simp [DS.setFuse, h0])
    go_enter Try.func38, Try.ntmps38
    go_wp2
    go_ret
    rw [HX.out]
    exact ⟨rfl, HC.out, Chg.refl _ _⟩
  · have HX := Lib.hid (show s.setFuse k = (0, { s with fuse := k }) from by simp [DS.setFuse, h0])
    have h1 : 0 ≤ k := by omega
    clear h0
    go_enter Try.func38, Try.ntmps38
    go_wp2
    go_ret
    refine ⟨by rw [HX.out]; rfl, ?_, (Chg.refl _ _).set' _ _ _ (by simp)⟩
    rw [HX.out]
    exact HC.out.mk' _ ((heap_mod HC.out.blk).trans rfl) (fun i _ hi => Below.heap_setCell _ _ _ _ hi) HQ.out.1 HQ.out.2 rfl (by have := HB.out; rwa [HX.out] at this)

theorem room_r (h : RC w qb s lv G) (hq : lv.ownBlock ≠ some qb) (hbb : qb ∉ bblks G) (k : Int) (hk : -9223372036854775808 ≤ k ∧ k ≤ 9223372036854775807) :
    Calls Try.prog 40 #[.pointer (some ⟨qb, 0, none⟩), .int .i64 k] w fun e w' => e = .returned (.int .i64 (s.setRoom k).1) ∧ RC w' qb (s.setRoom k).2 lv G ∧ Chg [qb] w w' := by
  obtain ⟨c0, c1, c2, c3, cf⟩ := cells4 h.blk
  have cf1 := cf 1
  have HC := Lib.hid h
  have HQ := Lib.hid (And.intro hq hbb)
  have HB := Lib.hid (h.ok.setRoom k)
  clear h c0 c2 c3 cf hq hbb
  by_cases h0 : k < 0
  · have HX := Lib.hid (show s.setRoom k = (1, s) from by unfold DS.setRoom; rw [if_neg (by omega)])
    go_enter Try.func40, Try.ntmps40
    go_wp2
    go_ret
    rw [HX.out]
    exact ⟨rfl, HC.out, Chg.refl _ _⟩
  · have h1 : 0 ≤ k := by omega
    by_cases h2 : k ≤ 4194304
    · have HX := Lib.hid (show s.setRoom k = (0, { s with room := k }) from by unfold DS.setRoom; rw [if_pos ⟨h1, h2⟩])
      have t : decide ((4194304 : Int) < k) = false := by simp; omega
      clear h0
      go_enter Try.func40, Try.ntmps40
      go_wp2
      go_ret
      refine ⟨by rw [HX.out]; rfl, ?_, (Chg.refl _ _).set' _ _ _ (by simp)⟩
      rw [HX.out]
      exact HC.out.mk' _ ((heap_mod HC.out.blk).trans rfl) (fun i _ hi => Below.heap_setCell _ _ _ _ hi) HQ.out.1 HQ.out.2 rfl (by have := HB.out; rwa [HX.out] at this)
    · have HX := Lib.hid (show s.setRoom k = (1, s) from by unfold DS.setRoom; rw [if_neg (by omega)])
      have t : decide ((4194304 : Int) < k) = true := by simp; omega
      have h3 : (4194304 : Int) < k := by omega
      clear h0 h2
      go_enter Try.func40, Try.ntmps40
      go_wp2
      go_ret
      rw [HX.out]
      exact ⟨rfl, HC.out, Chg.refl _ _⟩
end
end Go.Proofs.Ytcpldjaoacihlaa
