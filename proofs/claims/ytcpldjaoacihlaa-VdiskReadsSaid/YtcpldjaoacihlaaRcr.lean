/- the reference's disk: Crash. -/
import Derived.Test.YtcpldjaoacihlaaRnm
namespace Go.Proofs.Ytcpldjaoacihlaa
open Go.RowKit
set_option linter.unusedVariables false

theorem OwnS.base {w : World} {base : Nat} {e : TypeId} {size : Nat} {v : Value} {n : Nat} {xs : List Value} (h : OwnS w base e size v n xs) : ∀ g, v.ownBlock = some g → base ≤ g := by
  intro k hk
  rcases h.2 with ⟨rfl, _⟩ | ⟨g, off, cap, cur, rfl, hb, _⟩
  · simp [Value.ownBlock] at hk
  · simp [Value.ownBlock] at hk
    omega
theorem OwnS.mono {w : World} {base base' : Nat} {e : TypeId} {size : Nat} {v : Value} {n : Nat} {xs : List Value} (h : OwnS w base e size v n xs) (hb : base' ≤ base) : OwnS w base' e size v n xs := by
  refine ⟨h.1, h.2.imp id ?_⟩
  rintro ⟨g, off, cap, cur, h1, h2, h3⟩
  exact ⟨g, off, cap, cur, h1, by omega, h3⟩
theorem crash_take (keeps : List Int) {l : Fs} {k : Nat} (hk : k < l.length) : crashFs keeps 0 (l.take (k + 1)) = crashFs keeps 0 (l.take k) ++ [(l[k].1, crashF keeps k l[k].2)] := by
  rw [List.take_succ_eq_append_getElem hk, crash_snoc]
  simp [List.length_take, Nat.min_eq_left (Nat.le_of_lt hk)]

theorem Rd.heap {w w' : World} {v : Value} {xs : List UInt8} (h : Rd w v xs) (hb : ∀ g, g < w.heap.size → w'.heap[g]? = w.heap[g]?) : Rd w' v xs :=
  Rd.keep' h fun g h1 h2 => hb g (Rd.lt h (by omega) g h2)
theorem own_row0 {W : World} {X B : Nat} {e : TypeId} (h : W.heap[X]? = some (.cells #[] e (0, 0))) (hB : B ≤ X) : W.ownsRow B e 1 (.slice (some ⟨X, 0, none⟩) 0 0) 0 [] :=
  ⟨rfl, .inr ⟨X, 0, #[], rfl, hB, h, Nat.le_refl _, by unfold maxLen; omega, by simp, by simp⟩⟩
/-- What the loop has made behind k rounds. -/
structure CrI (w wr : World) (s : DS) (keeps : List Int) (k : Nat) (o : Value) (Gk : Ents) : Prop where
  len : Gk.length = k
  fs : fils Gk = crashFs keeps 0 (s.fs.take k)
  row : OwnS wr w.heap.size 69 3 o k (flat Gk)
  rd : ∀ p ∈ Gk, Rd wr p.2.1 p.2.2.data
  ap : ∀ g ∈ bblks Gk, w.heap.size ≤ g ∧ o.ownBlock ≠ some g
  bel : Below w.heap.size w wr

theorem crI_step {w wr w2 w4 : World} {s : DS} {keeps : List Int} {k : Nat} {o o' v1 : Value} {Gk : Ents} (h : CrI w wr s keeps k o Gk) (hk : k < s.fs.length) (hb1 : Below wr.heap.size wr w2) (x : Obj)
    (hv1 : Rd w2 v1 (crashF keeps k s.fs[k].2).data) (hv1b : ∀ g, v1.ownBlock = some g → wr.heap.size ≤ g ∧ g < w2.heap.size)
    (hown : OwnS w4 w.heap.size 69 3 o' (k + 1) (flat Gk ++ [.string ⟨(s.fs[k].1).toArray⟩, v1, .int .i64 (crashF keeps k s.fs[k].2).sy])) (hg : (w2.alloc x).grownBy w4 o.ownBlock) (hl : o'.ownBlock = o.ownBlock ∨ o'.ownBlock = some (w2.alloc x).heap.size) :
    CrI w w4 s keeps (k + 1) o' (Gk ++ [(s.fs[k].1, (v1, crashF keeps k s.fs[k].2))]) := by
  have hs1 := hb1.size
  have hs0 := h.bel.size
  have hlt := h.row.lt
  have hfar : ∀ g, g < w2.heap.size → o.ownBlock ≠ some g → w4.heap[g]? = w2.heap[g]? := fun g h1 h2 => (hg.block g (by simp; omega) (fun e => h2 e.symm)).trans (Below.heap_alloc _ _ _ h1)
  have hnew : ∀ g ∈ bblks (Gk ++ [(s.fs[k].1, (v1, crashF keeps k s.fs[k].2))]), g ∈ bblks Gk ∨ v1.ownBlock = some g := fun g hg' => by
    unfold bblks at hg' ⊢
    rw [List.filterMap_append, List.mem_append] at hg'
    rcases hg' with h1 | h1
    · exact .inl h1
    · rw [List.mem_filterMap] at h1
      obtain ⟨p, hp, he⟩ := h1
      simp only [List.mem_singleton] at hp
      subst hp
      simp only at he
      split at he
      · cases he
      · exact .inr he
  have hold : ∀ g ∈ bblks Gk, g < wr.heap.size := fun g hg' => by
    unfold bblks at hg'
    rw [List.mem_filterMap] at hg'
    obtain ⟨p, hp, he⟩ := hg'
    split at he
    · cases he
    · exact Rd.lt (h.rd p hp) (by omega) g he
  refine ⟨by simp [h.len], ?_, ?_, fun p hp => ?_, fun g hg' => ?_, ?_⟩
  · rw [crash_take keeps hk, ← h.fs]
    simp [fils, mapA]
  · rw [flat_app]
    exact hown
  · rcases List.mem_append.1 hp with hp | hp
    · refine Rd.keep' ((h.rd p hp).below hb1) fun g h1 h2 => ?_
      have hm := mem_bblks hp h1 h2
      exact hfar g (by have := hold g hm; omega) (h.ap g hm).2
    · simp only [List.mem_singleton] at hp
      subst hp
      refine Rd.keep' hv1 fun g h1 h2 => hfar g (hv1b g h2).2 fun e => ?_
      have := hlt g e
      have := (hv1b g h2).1
      omega
  · rcases hnew g hg' with h1 | h1
    · refine ⟨(h.ap g h1).1, fun e => ?_⟩
      rcases hl with h2 | h2
      · exact (h.ap g h1).2 (by rw [← h2]; exact e)
      · rw [h2] at e
        have := hold g h1
        simp at e
        omega
    · have h3 := hv1b g h1
      refine ⟨by omega, fun e => ?_⟩
      rcases hl with h2 | h2
      · have := hlt g (by rw [← h2]; exact e)
        omega
      · rw [h2] at e
        simp at e
        omega
  · exact ((h.bel.trans (hb1.mono hs0)).alloc (by omega) x).grown hg (by simp; omega) (h.row.base)

theorem keepN_in {keeps : List Int} {k : Nat} {f : Fl} {x : Int} (h : keeps[k]? = some x) : keepN keeps k f = f.sy + min x.toNat (f.data.length - f.sy) := by
  unfold keepN; rw [List.getD_eq_getElem?_getD, h]; rfl
theorem keepN_out {keeps : List Int} {k : Nat} {f : Fl} (h : keeps.length ≤ k) : keepN keeps k f = f.sy := by
  unfold keepN; rw [List.getD_eq_getElem?_getD, List.getElem?_eq_none h]; simp

set_option maxRecDepth 100000 in
set_option maxHeartbeats 4000000 in
theorem crash_r {w : World} {q : Option Addr} {s : DS} {m bb : List Nat} (h : RDisk w q s m bb) (hl : s.fs.length ≤ 1000000) (v : Value) (keeps : List Int) (hv : RdV w v (icells keeps)) (hkl : keeps.length ≤ 140737488355328) :
    Calls Try.prog 39 #[.pointer q, v] w fun e w' => e = .returned (.tuple #[]) ∧ RAfter w q (s.crash keeps) m bb w' := by
  obtain ⟨qb, lv, G, rfl, hc, rfl, rfl, hq, hbb⟩ := h.parts
  have HC := Lib.hid hc
  have HQ := Lib.hid (And.intro hq hbb)
  have HV := Lib.hid hv
  have hltq := hc.ltq
  have hlG : G.length ≤ 1000000 := by rw [← hc.len]; exact hl
  have HLN := Lib.hid hc.len
  have HOK := Lib.hid hc.ok
  obtain ⟨c0, c1, c2, c3, cf⟩ := cells4 hc.blk
  obtain ⟨a, c, rfl, l1, l2, _⟩ := hc.row.form
  unfold maxLen at l2
  obtain ⟨kp, kc, rfl, kl1, kl2, _⟩ := hv
  rw [show (icells keeps).length = keeps.length from by simp [icells]] at *
  unfold maxLen at kl2
  obtain ⟨ti0, hi, hz0, hz1, hz2⟩ := info_parts infoU8
  obtain ⟨ti1, hi', hz0', hz1', hz2'⟩ := info_parts infoF
  clear h hc hq hbb hl c1 c2 c3 cf
  go_enter Try.func39, Try.ntmps39
  go_wp2_with fail
  go_loopw [4, 14] (fun o i wr => ∃ (k : Nat) (Gk : Ents), k ≤ G.length ∧ i = .int .i64 k ∧ CrI w wr s keeps k o Gk) (fun _ i _ => G.length - (intOf i).toNat)
  case atStart => exact ⟨0, [], Nat.zero_le _, rfl, rfl, by simp [fils, mapA, crashFs], OwnS.nil _ _ _ _, by simp, by simp [bblks], Below.refl _ _⟩
  case round =>
    obtain ⟨k, Gk, hk, rfl, hI⟩ := hrel
    have HI := Lib.hid hI
    have HR := Lib.hid (HC.out.below hI.bel)
    have hsz := hI.bel.size
    have hof := hI.row.form
    clear hI
    by_cases hlt : k < G.length
    · obtain ⟨g, off, c', e1, n1, n2, n3⟩ := HR.out.ent hlt
      simp only [Value.slice.injEq, true_and] at e1
      obtain ⟨e1, rfl⟩ := e1
      subst e1
      obtain ⟨hk', hfk⟩ := HC.out.fileAt hlt
      have hrd := HC.out.rd _ (List.getElem_mem hlt)
      obtain ⟨bp, bc, hbv, b1, b2, b3⟩ := id hrd
      rw [hbv] at n2 hrd
      obtain ⟨nm, hnm⟩ : ∃ nm : ByteArray, nm = ⟨(G[k].1).toArray⟩ := ⟨_, rfl⟩
      rw [← hnm] at n1
      obtain ⟨f, hf⟩ : ∃ f, f = G[k].2.2 := ⟨_, rfl⟩
      rw [← hf] at n2 n3 hrd b1
      have hF : s.fs[k].2 = f := by rw [hfk, hf]
      have hsy : f.sy ≤ f.data.length := by rw [← hF]; exact HOK.out.sy _ (List.getElem_mem hk')
      have hft : f.data.length ≤ 4194304 := by rw [← hF]; exact Nat.le_trans (total_mem (List.getElem_mem hk')) HOK.out.tot
      have HF := Lib.hid (And.intro hk' (And.intro hF (And.intro (show s.fs[k].1 = nm.data.toList from by rw [hfk, hnm]) (And.intro hsy hft))))
      have HRD := Lib.hid hrd
      obtain ⟨op, oc, rfl, o1, o2, o3⟩ := hof
      unfold maxLen at b2 o2
      have hkr := HV.out.below HI.out.bel
      clear hbv b3 hrd hF hfk hnm hf o3
      have i1 : (0 : Int) ≤ (f.sy : Int) := by omega
      have i2 : (f.sy : Int) ≤ (f.data.length : Int) := by omega
      have i3 : (f.sy : Int) ≤ (bc : Int) := by omega
      by_cases hkk : keeps.length ≤ k
      · have HKK := Lib.hid (keepN_out (f := f) hkk)
        have HKL := Lib.hid hsy
        obtain ⟨T, hT⟩ : ∃ T, T = f.data.take f.sy := ⟨_, rfl⟩
        have HT := Lib.hid (And.intro hT (show T.length = f.sy from by rw [hT, List.length_take]; omega))
        clear hkr hT
        have HRT := Lib.hid (show Rd wr (.slice bp f.sy bc) T from by rw [HT.out.1]; exact (HRD.out.below HI.out.bel).to f.sy HKL.out)
        have HS := Lib.hid (show ∀ W, Rd W (.slice bp f.sy bc) T → Src Try.prog 1 31 (.slice bp f.sy bc) f.sy (bcells T) W from fun W hW => by have := hW.src Try.underlying31; rwa [HT.out.2] at this)
        have hfl : f.sy ≤ 4194304 := by omega
        go_wp2_with (first
          | (at_builtin; refine wpList_append_src rfl (Operand.tmp 35) (Operand.tmp 42) 31 31 (by rfl) (wr.heap.size + 1) 5 ti0 (.int .u8 0) 1 Try.underlying31 hi hz0 hz1 hz2 rfl (.slice (some ⟨wr.heap.size + 1, 0, none⟩) 0 0) 0 [] (by rfl) (own_row0 (heap_new _ _ (by simp)) (Nat.le_refl _)) (.slice bp f.sy bc) f.sy (bcells T) (by rfl) (HS.out _ (Rd.heap HRT.out fun g hg => (Below.heap_alloc _ _ _ (by simp; omega)).trans (Below.heap_alloc _ _ _ hg))) (by unfold maxLen; omega) (by omega) (by simp) ?_; intro v1 w2 hown2 hgrow2; rw [Nat.zero_add, List.nil_append] at hown2; have HO := Lib.hid (own_bytes hown2 rfl); have HB2 := Lib.hid (show Below wr.heap.size wr w2 from ⟨hgrow2.os, hgrow2.tape, hgrow2.output, by have := hgrow2.size; simp at this; omega, fun i hi => (hgrow2.block i (by simp; omega) (fun e => by have e' : i = wr.heap.size + 1 := Option.some.inj e; omega)).trans ((Below.heap_alloc _ _ _ (by simp; omega)).trans (Below.heap_alloc _ _ _ hi))⟩); obtain ⟨y0, y1, y2, yf⟩ := cells3 ((hgrow2.block wr.heap.size (by simp; omega) (fun e => by have e' : wr.heap.size = wr.heap.size + 1 := Option.some.inj e; omega)).trans ((Below.heap_alloc _ _ _ (by simp)).trans (heap_alloc_new wr _))); have hlw : wr.heap.size < w2.heap.size := World.block_lt_of_cell? w2 _ y0; clear hown2 hgrow2; obtain ⟨a2, cp2, hv, v1, v2, v3⟩ := own_form HO.out; rw [HT.out.2] at hv v1; subst hv)
          | (at_builtin; go_must (refine wpList_append_S rfl (Operand.tmp 44) (Operand.tmp 51) 62 62 (by rfl) w.heap.size 69 ti1 _ 3 48 Try.underlying62 hi' hz0' hz1' hz2' rfl (Nat.succ_pos _) (.slice op k oc) k (flat Gk) (by rfl) ((HI.out.row.below HB2.out).alloc _) (.slice (some ⟨w2.heap.size, 0, none⟩) 1 1) 1 [.string nm, .slice a2 f.sy cp2, .int .i64 (f.sy : Nat)] (by rfl) (src_file (heap_alloc_new w2 _) rfl rfl) (by unfold maxLen; omega) (by omega) (by have := HB2.out.size; simp; omega) ?_); intro o' w4 hown4 hgrow4 hl4; have HO4 := Lib.hid (And.intro hown4 (And.intro hgrow4 hl4)); clear hown4 hgrow4 hl4))
        go_roundw
        case rel =>
          have hF := HF.out
          have hcr : crashF keeps k s.fs[k].2 = ⟨T, f.sy⟩ := by rw [hF.2.1]; unfold crashF; rw [HKK.out, HT.out.1]
          refine ⟨k + 1, _, by omega, by go_num, crI_step (v1 := .slice a2 f.sy cp2) HI.out hF.1 HB2.out _ ?_ ?_ ?_ HO4.out.2.1 HO4.out.2.2⟩
          · rw [hcr]
            have := Rd.of_own HO.out
            exact this
          · intro g hg
            have := HO.out.lt g hg
            omega
          · rw [hcr, hF.2.2.1]
            exact HO4.out.1
        case measure => simp [intOf]; omega
      · have hkk' : k < keeps.length := by omega
        obtain ⟨kp', kc', hkv, _, _, _, hkx⟩ := hkr
        rw [show (icells keeps).length = keeps.length from by simp [icells]] at hkv
        simp only [Value.slice.injEq, true_and] at hkv
        obtain ⟨hkp, hkc'⟩ := hkv
        subst hkp
        clear hkc'
        obtain ⟨kb, ko, hkp, hkc⟩ := hkx (by simpa [icells] using (by omega : 0 < keeps.length))
        subst hkp
        have hkck := hkc k (by simpa [icells] using hkk')
        obtain ⟨x, hx⟩ : ∃ x, x = keeps[k] := ⟨_, rfl⟩
        rw [show (icells keeps)[k]'(by simpa [icells] using hkk') = .int .i64 x from by simp [icells, hx]] at hkck
        have hkb := World.block_lt_of_cell? wr _ hkck
        obtain ⟨N, hN⟩ : ∃ N, N = min x.toNat (f.data.length - f.sy) := ⟨_, rfl⟩
        obtain ⟨K, hK⟩ : ∃ K, K = f.sy + N := ⟨_, rfl⟩
        have HKK := Lib.hid (show keepN keeps k f = K from by rw [keepN_in (show keeps[k]? = some x from by rw [List.getElem?_eq_getElem hkk', hx]), hK, hN])
        have HKL := Lib.hid (show K ≤ f.data.length from by omega)
        obtain ⟨T, hT⟩ : ∃ T, T = f.data.take K := ⟨_, rfl⟩
        have HT := Lib.hid (And.intro hT (show T.length = K from by rw [hT, List.length_take]; omega))
        have X3 := Lib.hid (show (f.sy : Int) + (N : Int) = (K : Int) from by omega)
        have X1 := Lib.hid (show IntKind.i64.wrap ((f.data.length : Int) - (f.sy : Int)) = (f.data.length : Int) - (f.sy : Int) from IntWalk.i64_in _ (by omega))
        have X2 := Lib.hid (show max 0 (min x ((f.data.length : Int) - (f.sy : Int))) = (N : Int) from by omega)
        have j1 : (0 : Int) ≤ (N : Int) := by omega
        have j2 : (N : Int) ≤ 4194304 := by omega
        have j3 : (K : Int) ≤ (f.data.length : Int) := by omega
        have j4 : (K : Int) ≤ (bc : Int) := by omega
        have j5 : (0 : Int) ≤ (K : Int) := by omega
        have j6 : (f.sy : Int) ≤ 4194304 := by omega
        clear hkc hkx hx hkk hN hK hT
        have x1 := X1.out
        go_wp2_with fail
        go_quiet (fail)
        clear x1
        have x2 := X2.out
        have x3 := X3.out
        have HRT := Lib.hid (show Rd wr (.slice bp K bc) T from by rw [HT.out.1]; exact (HRD.out.below HI.out.bel).to K HKL.out)
        have HS := Lib.hid (show ∀ W, Rd W (.slice bp K bc) T → Src Try.prog 1 31 (.slice bp K bc) K (bcells T) W from fun W hW => by have := hW.src Try.underlying31; rwa [HT.out.2] at this)
        have hfl : K ≤ 4194304 := by omega
        go_wp2_with (first
          | (at_builtin; refine wpList_append_src rfl (Operand.tmp 35) (Operand.tmp 42) 31 31 (by rfl) (wr.heap.size + 1) 5 ti0 (.int .u8 0) 1 Try.underlying31 hi hz0 hz1 hz2 rfl (.slice (some ⟨wr.heap.size + 1, 0, none⟩) 0 0) 0 [] (by rfl) (own_row0 (heap_new _ _ (by simp)) (Nat.le_refl _)) (.slice bp K bc) K (bcells T) (by rfl) (HS.out _ (Rd.heap HRT.out fun g hg => (Below.heap_alloc _ _ _ (by simp; omega)).trans (Below.heap_alloc _ _ _ hg))) (by unfold maxLen; omega) (by omega) (by simp) ?_; intro v1 w2 hown2 hgrow2; rw [Nat.zero_add, List.nil_append] at hown2; have HO := Lib.hid (own_bytes hown2 rfl); have HB2 := Lib.hid (show Below wr.heap.size wr w2 from ⟨hgrow2.os, hgrow2.tape, hgrow2.output, by have := hgrow2.size; simp at this; omega, fun i hi => (hgrow2.block i (by simp; omega) (fun e => by have e' : i = wr.heap.size + 1 := Option.some.inj e; omega)).trans ((Below.heap_alloc _ _ _ (by simp; omega)).trans (Below.heap_alloc _ _ _ hi))⟩); obtain ⟨y0, y1, y2, yf⟩ := cells3 ((hgrow2.block wr.heap.size (by simp; omega) (fun e => by have e' : wr.heap.size = wr.heap.size + 1 := Option.some.inj e; omega)).trans ((Below.heap_alloc _ _ _ (by simp)).trans (heap_alloc_new wr _))); have hlw : wr.heap.size < w2.heap.size := World.block_lt_of_cell? w2 _ y0; clear hown2 hgrow2; obtain ⟨a2, cp2, hv, v1, v2, v3⟩ := own_form HO.out; rw [HT.out.2] at hv v1; subst hv)
          | (at_builtin; go_must (refine wpList_append_S rfl (Operand.tmp 44) (Operand.tmp 51) 62 62 (by rfl) w.heap.size 69 ti1 _ 3 48 Try.underlying62 hi' hz0' hz1' hz2' rfl (Nat.succ_pos _) (.slice op k oc) k (flat Gk) (by rfl) ((HI.out.row.below HB2.out).alloc _) (.slice (some ⟨w2.heap.size, 0, none⟩) 1 1) 1 [.string nm, .slice a2 K cp2, .int .i64 (K : Nat)] (by rfl) (src_file (heap_alloc_new w2 _) rfl rfl) (by unfold maxLen; omega) (by omega) (by have := HB2.out.size; simp; omega) ?_); intro o' w4 hown4 hgrow4 hl4; have HO4 := Lib.hid (And.intro hown4 (And.intro hgrow4 hl4)); clear hown4 hgrow4 hl4))
        go_roundw
        case rel =>
          have hF := HF.out
          have hcr : crashF keeps k s.fs[k].2 = ⟨T, K⟩ := by rw [hF.2.1]; unfold crashF; rw [HKK.out, HT.out.1]
          refine ⟨k + 1, _, by omega, by go_num, crI_step (v1 := .slice a2 K cp2) HI.out hF.1 HB2.out _ ?_ ?_ ?_ HO4.out.2.1 HO4.out.2.2⟩
          · rw [hcr]
            have := Rd.of_own HO.out
            exact this
          · intro g hg
            have := HO.out.lt g hg
            omega
          · rw [hcr, hF.2.2.1]
            exact HO4.out.1
        case measure => simp [intOf]; omega
    · have hkk : k = G.length := by omega
      have HX := Lib.hid hkk
      have hkl : G.length ≤ k := by omega
      obtain ⟨d0, d1, d2, d3, df⟩ := cells4 HR.out.blk
      have f0 := df 0
      have f2 := df 2
      have f3 := df 3
      obtain ⟨op, oc, rfl, _⟩ := hof
      clear hkk hlt
      go_wp2_with fail
      refine bodyPost_end (v := .tuple #[]) (by simp [results, Try.results39, go_sem]) rfl ?_
      have hI := HI.out
      have hne : ∀ g, (Value.slice op k oc).ownBlock = some g → g ≠ qb := fun g hg => by have := hI.row.base g hg; omega
      have hfar : ∀ g, g ≠ qb → (((wr.setCell ⟨qb, 0, none⟩ (.slice op k oc)).setCell ⟨qb, 3, none⟩ (.bool false)).setCell ⟨qb, 2, none⟩ (.int .i64 (-1))).heap[g]? = wr.heap[g]? := fun g hg =>
        (Below.heap_setCell _ _ _ _ hg).trans ((Below.heap_setCell _ _ _ _ hg).trans (Below.heap_setCell _ _ _ _ hg))
      have hfs : (s.crash keeps).fs = fils Gk := by
        rw [hI.fs, HX.out, ← HLN.out, List.take_length]; rfl
      have hrow : OwnS (((wr.setCell ⟨qb, 0, none⟩ (.slice op k oc)).setCell ⟨qb, 3, none⟩ (.bool false)).setCell ⟨qb, 2, none⟩ (.int .i64 (-1))) 0 69 3 (.slice op k oc) Gk.length (flat Gk) := by
        rw [hI.len]
        exact (hI.row.mono (Nat.zero_le _)).keep fun g hg => hfar g (hne g hg)
      refine ⟨rfl, rafter_mk (qb := qb) (lv' := .slice op k oc) (G' := Gk) ⟨(heap_mod (heap_mod (heap_mod HR.out.blk))).trans rfl, hrow, hfs, fun p hp => Rd.keep' (hI.rd p hp) fun g h1 h2 => hfar g ?_, HOK.out.crash keeps⟩ hltq HQ.out.1 ?_ (fun i hi => .inr (hI.ap i hi).1) (fun i hi => ⟨by have := (hI.ap i hi).1; omega, (hI.ap i hi).2⟩) ?_⟩
      · have := (hI.ap g (mem_bblks hp h1 h2)).1
        omega
      · cases ho : (Value.slice op k oc).ownBlock with
        | none => exact .inr (.inr rfl)
        | some g => exact .inr (.inl ⟨g, rfl, hI.row.base g ho⟩)
      · exact (((Chg.of_below hI.bel).set' _ _ _ (.inl (by simp))).set' _ _ _ (.inl (by simp))).set' _ _ _ (.inl (by simp))
end Go.Proofs.Ytcpldjaoacihlaa
