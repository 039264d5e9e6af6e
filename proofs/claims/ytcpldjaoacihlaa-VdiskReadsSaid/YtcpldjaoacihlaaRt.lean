/- the reference's disk: named, Used, there. -/
import Derived.Test.YtcpldjaoacihlaaRp
namespace Go.Proofs.Ytcpldjaoacihlaa
open Go.RowKit
set_option linter.unusedVariables false

theorem named_r (w : World) (s : ByteArray) (hs : s.size ≤ 9223372036854775807) : Calls Try.prog 56 #[.string s] w fun e w' => e = .returned (.bool (namok s.data.toList)) ∧ w = w' := by
  have e : s.data.toList.length = s.size := by simp
  by_cases h0 : 1 ≤ s.size
  · by_cases h1 : s.size ≤ 64
    · have HX := Lib.hid (show namok s.data.toList = true from by unfold namok; rw [e]; simp [h0, h1])
      have t : decide ((s.size : Int) ≤ 64) = true := by simp; omega
      clear e
      go_enter Try.func56, Try.ntmps56
      go_wp2
      go_ret
      exact ⟨by rw [HX.out]; rfl, rfl⟩
    · have HX := Lib.hid (show namok s.data.toList = false from by unfold namok; rw [e]; simp [h1])
      have t : decide ((s.size : Int) ≤ 64) = false := by simp; omega
      clear h1 e
      go_enter Try.func56, Try.ntmps56
      go_wp2
      go_ret
      exact ⟨by rw [HX.out]; rfl, rfl⟩
  · have HX := Lib.hid (show namok s.data.toList = false from by unfold namok; rw [e]; simp [h0])
    have h2 : s.size < 1 := by omega
    clear h0 e
    go_enter Try.func56, Try.ntmps56
    go_wp2
    go_ret
    exact ⟨by rw [HX.out]; rfl, rfl⟩

theorem RC.below {w w' : World} {qb : Nat} {s : DS} {lv : Value} {G : Ents} (h : RC w qb s lv G) (hb : Below w.heap.size w w') : RC w' qb s lv G :=
  h.keep (hb.block _ h.ltq) (fun g hg => hb.block _ (h.row.lt g hg)) (fun g hg => hb.block _ (h.ltb g hg))
theorem RC.drewN {w : World} {qb : Nat} {s : DS} {lv : Value} {G : Ents} (h : RC w qb s lv G) (k : Nat) : RC (w.drewN k) qb s lv G := h.keep rfl (fun _ _ => rfl) (fun _ _ => rfl)
theorem RC.alloc {w : World} {qb : Nat} {s : DS} {lv : Value} {G : Ents} (h : RC w qb s lv G) (o : Obj) : RC (w.alloc o) qb s lv G := h.below ((Below.refl _ _).alloc (Nat.le_refl _) o)
theorem RC.len {w : World} {qb : Nat} {s : DS} {lv : Value} {G : Ents} (h : RC w qb s lv G) : s.fs.length = G.length := by rw [h.fs]; simp [fils, mapA_length]
theorem RC.risG {w : World} {qb : Nat} {s : DS} {lv : Value} {G : Ents} (h : RC w qb s lv G) : Ris G := by have := h.ok.ris; rw [h.fs] at this; exact (mapA_ris _ _).1 this
theorem RC.got {w : World} {qb : Nat} {s : DS} {lv : Value} {G : Ents} (h : RC w qb s lv G) (n : List UInt8) : (getA n G).isSome = (getA n s.fs).isSome := by rw [h.fs]; unfold fils; rw [mapA_getA]; simp
theorem below_drewN {B : Nat} {w w' : World} (h : Below B w w') (k : Nat) : Below B w (w'.drewN k) := ⟨h.os, h.tape, h.output, h.size, h.block⟩

/-- The bytes of the first k files. -/
def totK (k : Nat) (l : Fs) : Nat := total (l.take k)

section
variable {w : World} {qb : Nat} {s : DS} {lv : Value} {G : Ents}

/-- An entry's file is in the list. -/
theorem RC.fileAt (h : RC w qb s lv G) {k : Nat} (hk : k < G.length) : ∃ hk' : k < s.fs.length, s.fs[k] = (G[k].1, G[k].2.2) := by
  have hl := h.len
  refine ⟨by omega, ?_⟩
  have hf := h.fs
  simp only [hf, fils, mapA, List.getElem_map]

set_option maxRecDepth 100000 in
set_option maxHeartbeats 1000000 in
theorem used_r (h : RC w qb s lv G) : Calls Try.prog 43 #[.pointer (some ⟨qb, 0, none⟩)] w fun e w' => e = .returned (.int .i64 (total s.fs)) ∧ Below w.heap.size w w' := by
  have HC := Lib.hid h
  obtain ⟨c0, c1, c2, c3, cf⟩ := cells4 h.blk
  obtain ⟨a, c, rfl, l1, l2, _⟩ := h.row.form
  unfold maxLen at l2
  have HT := Lib.hid h.ok.tot
  clear h c1 c2 c3 cf
  go_enter Try.func43, Try.ntmps43
  go_wp2_with fail
  go_loopw [3, 11] (fun t i wr => ∃ k : Nat, k ≤ G.length ∧ i = .int .i64 k ∧ t = .int .i64 (totK k s.fs) ∧ Below w.heap.size w wr) (fun _ i _ => G.length - (intOf i).toNat)
  case atStart => exact ⟨0, Nat.zero_le _, rfl, by simp [totK, total], Below.refl _ _⟩
  case round =>
    obtain ⟨k, hk, rfl, rfl, hb⟩ := hrel
    have HB := Lib.hid hb
    have HR := Lib.hid (HC.out.below hb)
    clear hb
    by_cases hlt : k < G.length
    · obtain ⟨g, off, c', e1, n1, n2, n3⟩ := HR.out.ent hlt
      simp only [Value.slice.injEq, true_and] at e1
      obtain ⟨e1, rfl⟩ := e1
      subst e1
      obtain ⟨hk', hfk⟩ := HC.out.fileAt hlt
      obtain ⟨bp, bc, hbv, b1, b2, b3⟩ := HC.out.rd _ (List.getElem_mem hlt)
      rw [hbv] at n2
      unfold maxLen at b2
      clear b3
      have hstep : totK (k + 1) s.fs = totK k s.fs + G[k].2.2.data.length := by
        unfold totK
        rw [List.take_succ_eq_append_getElem hk', total_append, hfk]
        simp [total]
      have hle : totK (k + 1) s.fs ≤ 4194304 := by
        have h1 : total (s.fs.take (k + 1)) + total (s.fs.drop (k + 1)) = total s.fs := by rw [← total_append, List.take_append_drop]
        have := HT.out
        unfold totK
        omega
      clear hbv
      generalize G[k].2.2.data.length = L at *
      have HS := Lib.hid hstep
      have hle2 : totK k s.fs + L ≤ 4194304 := by omega
      clear hfk hstep hle
      go_wp2_with fail
      go_roundw
      case rel => exact ⟨k + 1, by omega, by go_num, by rw [HS.out]; go_num, HB.out.alloc HB.out.size _⟩
      case measure => simp [intOf]; omega
    · have HX := Lib.hid (show totK k s.fs = total s.fs from by unfold totK; rw [List.take_of_length_le (by have := HC.out.len; omega)])
      go_wp2_with fail
      go_ret
      exact ⟨by rw [← HX.out]; rfl, HB.out⟩

/-- An entry as a value. -/
def entV (p : List UInt8 × (Value × Fl)) : Value := .agg #[.string ⟨p.1.toArray⟩, p.2.1, .int .i64 p.2.2.sy]

set_option maxRecDepth 100000 in
theorem there_ok (h : RC w qb s lv G) (n : ByteArray) (hn : n.size ≤ 9223372036854775807) (hd : s.dead = false) {x : Value × Fl} (hx : getA n.data.toList G = some x) :
    Calls Try.prog 45 #[.pointer (some ⟨qb, 0, none⟩), .string n] w fun e w' => e = .returned (.tuple #[.agg #[.string n, x.1, .int .i64 x.2.sy], .int .i64 0]) ∧ Below w.heap.size w w' := by
  have HC := Lib.hid h
  have HN := Lib.hid hn
  obtain ⟨hlt, hsp⟩ := getA_split h.risG hx
  have hel : G[posA n.data.toList G] = (n.data.toList, x) := by
    have h1 := getA_of_mem h.risG (show (G[posA n.data.toList G].1, G[posA n.data.toList G].2) ∈ G from List.getElem_mem hlt)
    have hf := posA_found h.risG hlt rfl
    rw [hx] at hf
    have hnn : G[posA n.data.toList G].1 = n.data.toList := by simpa using hf.symm
    rw [hnn, hx] at h1
    exact Prod.ext hnn (by simpa using h1.symm)
  have hmem := List.getElem_mem hlt
  obtain ⟨bp, bc, hbv0, b1, b2, b3⟩ := h.rd _ hmem
  clear b3
  have hbv : x.1 = .slice bp x.2.data.length bc := by have := hbv0; rw [hel] at this; exact this
  clear hbv0 b1 b2
  have HX := Lib.hid (show (getA n.data.toList G).isSome = true from by rw [hx]; rfl)
  obtain ⟨g, off, c, hlv, n1, n2, n3⟩ := h.ent hlt
  rw [hel] at n1 n2 n3
  subst hlv
  obtain ⟨c0, c1, c2, c3, cf⟩ := cells4 h.blk
  rw [hd] at c3
  have hltq := h.ltq
  have hltg := World.block_lt_of_cell? w _ n1
  have n2' : w.cell? ⟨g, off + posA n.data.toList G * 3 + 1, none⟩ = some (.slice bp x.2.data.length bc) := by rw [← hbv]; exact n2
  clear n2
  rw [hbv]
  obtain ⟨K, hK⟩ : ∃ K, K = posA n.data.toList G := ⟨_, rfl⟩
  have HK := Lib.hid hK
  rw [← hK] at n1 n2' n3 hlt
  simp only [show (⟨n.data.toList.toArray⟩ : ByteArray) = n from by simp] at n1
  have hcl := h.row.form
  have hlc : G.length ≤ c := by obtain ⟨_, _, e, h1, _⟩ := hcl; simp only [Value.slice.injEq, true_and] at e; omega
  have hcm : c ≤ 9223372036854775807 := by obtain ⟨_, _, e, _, h1, _⟩ := hcl; simp only [Value.slice.injEq, true_and] at e; unfold maxLen at h1; omega
  clear h hn hx hsp hel hmem hd c1 c2 cf hbv hK hcl
  go_enter Try.func45, Try.ntmps45
  go_wp2_with fail
  refine (place_r (HC.out.alloc _) n HN.out).mono ?_
  rintro e w' ⟨rfl, k, rfl⟩
  rw [HX.out, ← HK.out]
  go_wp2_with fail
  exact bodyPost_ret (v := .tuple #[.agg #[.string n, .slice bp x.2.data.length bc, .int .i64 x.2.sy], .int .i64 0]) (by simp [results, Try.results45, go_sem]) rfl ⟨rfl, (((below_drewN ((Below.refl _ _).alloc (Nat.le_refl _) _) _).setCell (by simp) _).setCell (by simp) _).setCell (by simp) _⟩

set_option maxRecDepth 100000 in
theorem there_no (h : RC w qb s lv G) (n : ByteArray) (hn : n.size ≤ 9223372036854775807) (h0 : s.fnd n.data.toList true ≠ 0) :
    Calls Try.prog 45 #[.pointer (some ⟨qb, 0, none⟩), .string n] w fun e w' => e = .returned (.tuple #[.agg #[.string ⟨#[]⟩, .slice none 0 0, .int .i64 0], .int .i64 (s.fnd n.data.toList true)]) ∧ Below w.heap.size w w' := by
  have HC := Lib.hid h
  have HN := Lib.hid hn
  obtain ⟨c0, c1, c2, c3, cf⟩ := cells4 h.blk
  have hltq := h.ltq
  cases hd : s.dead with
  | true =>
    have HX := Lib.hid (show s.fnd n.data.toList true = 70 from by simp [DS.fnd, DS.rdy, hd])
    rw [hd] at c3
    clear h hn h0 hd c0 c1 c2 cf
    go_enter Try.func45, Try.ntmps45
    go_wp2_with fail
    rw [HX.out]
    exact bodyPost_ret (v := .tuple #[.agg #[.string ⟨#[]⟩, .slice none 0 0, .int .i64 0], .int .i64 70]) (by simp [results, Try.results45, go_sem]) rfl ⟨rfl, (Below.refl _ _).alloc (Nat.le_refl _) _⟩
  | false =>
    have hs : (getA n.data.toList s.fs).isSome = false := by
      cases hs : (getA n.data.toList s.fs).isSome
      · rfl
      · exact absurd (by simp [DS.fnd, DS.rdy, hd, hs]) h0
    have HX := Lib.hid (show s.fnd n.data.toList true = 33 from by simp [DS.fnd, DS.rdy, hd, hs])
    have HG := Lib.hid (show (getA n.data.toList G).isSome = false from by rw [h.got]; exact hs)
    rw [hd] at c3
    clear h hn h0 hd hs c0 c1 c2 cf
    go_enter Try.func45, Try.ntmps45
    go_wp2_with fail
    refine (place_r (HC.out.alloc _) n HN.out).mono ?_
    rintro e w' ⟨rfl, k, rfl⟩
    rw [HG.out]
    go_wp2_with fail
    rw [HX.out]
    exact bodyPost_ret (v := .tuple #[.agg #[.string ⟨#[]⟩, .slice none 0 0, .int .i64 0], .int .i64 33]) (by simp [results, Try.results45, go_sem]) rfl ⟨rfl, (((below_drewN ((Below.refl _ _).alloc (Nat.le_refl _) _) _).setCell (by simp) _).setCell (by simp) _).setCell (by simp) _⟩
end
end Go.Proofs.Ytcpldjaoacihlaa
