/- xmltree: whether an element is not great (dossierplain.Element): it answers, and what was there stays. -/
import Derived.Test.YtpcajjbdlfookaaGreatDoorMw25
import Derived.Test.YtpcajjbdlfookaaGreatDoorMw08
import Derived.Test.YtpcajjbdlfookaaGreatDoorChecked
import Derived.OpenShut
import Derived.Outline
import Derived.WalkLawsBesides
import Derived.WalkSpells
import Derived.Laws.StructEq
import Derived.Deep.QuietTactic
import Derived.BigQuiet
import Derived.Deep.RegionWith
import Derived.Deep.Cut
import Derived.BigRegion
import Derived.RegionTactic
import Derived.Deep.DeepFit
namespace Go.Proofs.YtpcajjbdlfookaaGreatDoor
open Go Go.RowKit Go.Deep
set_option linter.unusedVariables false
set_option linter.unusedSimpArgs false

theorem box_belT (w : World) (o : Obj) : Below w.heap.size w (w.alloc o) := (Below.refl _ _).alloc (Nat.le_refl _) _
theorem one_cellT {w : World} {b : Nat} {c0 : Value} {T : TypeId} (h : w.heap[b]? = some (.cells #[c0] T (0, 0))) : w.cell? ⟨b, 0, none⟩ = some c0 ∧ (∀ o, w.frozen? ⟨b, o, none⟩ = false) := by
  refine ⟨?_, fun o => ?_⟩ <;> simp [World.cell?, World.frozen?, h]
theorem set_cellT {w : World} {b : Nat} {c0 c1 : Value} {T : TypeId} (h : w.heap[b]? = some (.cells #[c0] T (0, 0))) : (w.setCell ⟨b, 0, none⟩ c1).heap[b]? = some (.cells #[c1] T (0, 0)) := by
  simp [World.setCell, Array.getElem?_modify, h]
/-- No list in it has more than 110 elements. -/
def okK : Nat → List ET → Prop
  | 0, _ => False
  | d + 1, l => l.length ≤ 110 ∧ ∀ k (h : k < l.length), l[k].attrs.length ≤ 110 ∧ okK d l[k].kids
def okE (d : Nat) (t : ET) : Prop := t.attrs.length ≤ 110 ∧ okK d t.kids
/-- It answers; if so, it is not great. -/
def AnsE (d : Nat) (t : ET) (e : Ending) : Prop := ∃ q : Bool, e = .returned (.bool q) ∧ (q = true → okE d t)

set_option maxRecDepth 100000 in
set_option maxHeartbeats 2000000 in
theorem element_c (W0 : World) : ∀ (d : Nat) (w : World) (v : Value) (t : ET) (dep b : Nat) (u : Int), ElemD Any W0 d v t → Below W0.heap.size W0 w → W0.heap.size ≤ b → w.heap[b]? = some (.cells #[.int .i64 u] 3 (0, 0)) → dep ≤ 41 →
    Calls Tryz.prog 23 #[v, .int .i64 dep, .pointer (some ⟨b, 0, none⟩)] w fun e w' => AnsE d t e ∧ (∃ u', w'.heap[b]? = some (.cells #[.int .i64 u'] 3 (0, 0))) ∧ Below W0.heap.size W0 w' := by
  intro d
  induction d with
  | zero => rintro w v t dep b u ⟨av, kv, _, _, h⟩; exact h.elim
  | succ d ih =>
    intro w v t dep b u h hb0 hbb hbx hdep
    have HIH := Lib.hid ih
    have HB0 := Lib.hid hb0
    have HBB := Lib.hid hbb
    obtain ⟨av, kv, rfl, hpr, hkd⟩ := h
    obtain ⟨pa, ca, hav, _, hcm0⟩ := hpr.form
    obtain ⟨N, hN⟩ : ∃ N, N = t.attrs.length := ⟨_, rfl⟩
    rw [← hN] at hav
    subst hav
    obtain ⟨a, c, hv, hlc, hcm, hnone, hrows⟩ := hkd
    obtain ⟨M, hM⟩ : ∃ M, M = t.kids.length := ⟨_, rfl⟩
    rw [← hM] at hv hlc
    subst hv
    have HROW := Lib.hid hrows
    have HN := Lib.hid hN
    have HM := Lib.hid hM
    have hn : M ≤ 9223372036854775807 := by unfold maxLen at hcm; omega
    have hnN : N ≤ 9223372036854775807 := by
      obtain ⟨_, c', e, q1, q2⟩ := hpr.form
      unfold maxLen at q2
      omega
    have hw1 : IntKind.i64.wrap ((dep : Int) + 1) = (dep : Int) + 1 := by rw [IntKind.wrap_i64]; omega
    obtain ⟨S1, hS1⟩ : ∃ S, S = t.space := ⟨_, rfl⟩
    obtain ⟨S2, hS2⟩ : ∃ S, S = t.name := ⟨_, rfl⟩
    obtain ⟨S3, hS3⟩ : ∃ S, S = t.text := ⟨_, rfl⟩
    rw [← hS1, ← hS2, ← hS3]
    obtain ⟨u1, hu1⟩ : ∃ u1, IntKind.i64.wrap (u - 1) = u1 := ⟨_, rfl⟩
    obtain ⟨b0, bz⟩ := one_cellT hbx
    have hltb : b < w.heap.size := (Array.getElem?_eq_some_iff.1 hbx).1
    have HX3 := Lib.hid (show ((w.setCell ⟨b, 0, none⟩ (.int .i64 u1)).alloc (.cells #[.string S1, .string S2, .slice pa N ca, .slice a M c, .string S3] 27)).heap[b]? = some (.cells #[.int .i64 u1] 3 (0, 0)) from (Below.heap_alloc _ _ b (by simpa [World.size_setCell] using hltb)).trans (set_cellT hbx))
    have HB3 := Lib.hid (show Below W0.heap.size W0 ((w.setCell ⟨b, 0, none⟩ (.int .i64 u1)).alloc (.cells #[.string S1, .string S2, .slice pa N ca, .slice a M c, .string S3] 27)) from (hb0.setCell (p := ⟨b, 0, none⟩) hbb _).alloc (by have := hb0.size; simpa [World.size_setCell] using this) _)
    clear ih hb0 hbb hlc hcm hnone hrows hpr hN hM hS1 hS2 hS3 hbx hcm0
    by_cases hd4 : 40 < dep
    · have hq : decide ((40 : Int) < (dep : Int)) = true := decide_eq_true (by omega)
      go_enter Tryz.func23, Tryz.ntmps23
      go_wp2_with fail
      go_ret
      exact ⟨⟨_, rfl, by simp⟩, ⟨_, HX3.out⟩, HB3.out⟩
    have hq : decide ((40 : Int) < (dep : Int)) = false := decide_eq_false (by omega)
    by_cases hneg : u1 < 0
    · have hqn : decide (u1 < 0) = true := decide_eq_true hneg
      go_enter Tryz.func23, Tryz.ntmps23
      go_wp2_with fail
      go_ret
      exact ⟨⟨_, rfl, by simp⟩, ⟨_, HX3.out⟩, HB3.out⟩
    have hqn : decide (u1 < 0) = false := decide_eq_false hneg
    by_cases hbA : 110 < N
    · have hqa : decide ((110 : Int) < (N : Int)) = true := decide_eq_true (by omega)
      go_enter Tryz.func23, Tryz.ntmps23
      go_wp2_with fail
      go_ret
      exact ⟨⟨_, rfl, by simp⟩, ⟨_, HX3.out⟩, HB3.out⟩
    have hqa : decide ((110 : Int) < (N : Int)) = false := decide_eq_false (by omega)
    by_cases hbK : 110 < M
    · have hqk : decide ((110 : Int) < (M : Int)) = true := decide_eq_true (by omega)
      go_enter Tryz.func23, Tryz.ntmps23
      go_wp2_with fail
      go_ret
      exact ⟨⟨_, rfl, by simp⟩, ⟨_, HX3.out⟩, HB3.out⟩
    have hqk : decide ((110 : Int) < (M : Int)) = false := decide_eq_false (by omega)
    go_enter Tryz.func23, Tryz.ntmps23
    go_wp2_with fail
    go_loopw [37] (fun i wr => ∃ (k : Nat) (u : Int), k ≤ M ∧ i = .int .i64 k ∧ wr.heap[b]? = some (.cells #[.int .i64 u] 3 (0, 0)) ∧ Below W0.heap.size W0 wr ∧ (∀ j (h : j < t.kids.length), j < k → t.kids[j].attrs.length ≤ 110 ∧ okK d t.kids[j].kids)) (fun i _ => M - (intOf i).toNat)
    case atStart => exact ⟨0, u1, by omega, rfl, HX3.out, HB3.out, fun j _ h => absurd h (by omega)⟩
    case round =>
      obtain ⟨k, u, hk, rfl, hbx, hbr, hall⟩ := hrel
      have HQ := Lib.hid hbx
      have HBR := Lib.hid hbr
      have HALL := Lib.hid hall
      clear hbx hbr hall
      by_cases hlt : k < M
      · obtain ⟨g, o, ha, hgl, -, hx⟩ := HROW.out (by rw [← HM.out]; omega)
        have hkl : k < t.kids.length := by rw [← HM.out]; exact hlt
        obtain ⟨av, kv, ⟨c0, c1, c2, c3, c4⟩, hpr, hkd⟩ := hx k hkl
        subst ha
        obtain ⟨ka, kc, hkv, -⟩ := hkd.form
        obtain ⟨ra, rc, hrv, -⟩ := hpr.form
        have HED := Lib.hid (show ElemD Any W0 d (.agg #[.string t.kids[k].space, .string t.kids[k].name, av, kv, .string t.kids[k].text]) t.kids[k] from ⟨av, kv, rfl, hpr, hkd⟩)
        rw [hrv, hkv] at HED
        rw [hkv] at c3
        rw [hrv] at c2
        have e0 := (HBR.out.cell (p := ⟨g, o + k * 5, none⟩) hgl).trans c0
        have e1 := (HBR.out.cell (p := ⟨g, o + k * 5 + 1, none⟩) hgl).trans c1
        have e2 := (HBR.out.cell (p := ⟨g, o + k * 5 + 2, none⟩) hgl).trans c2
        have e3 := (HBR.out.cell (p := ⟨g, o + k * 5 + 3, none⟩) hgl).trans c3
        have e4 := (HBR.out.cell (p := ⟨g, o + k * 5 + 4, none⟩) hgl).trans c4
        have HNX := Lib.hid (fun (hok : okE d t.kids[k]) => show ∀ j (h : j < t.kids.length), j < k + 1 → t.kids[j].attrs.length ≤ 110 ∧ okK d t.kids[j].kids from fun j hj hjk => by
          by_cases hjk2 : j < k
          · exact HALL.out j hj hjk2
          · obtain rfl : j = k := by omega
            exact hok)
        generalize t.kids[k] = x at *
        obtain ⟨nm, sp, at2, ki, tx⟩ := x
        dsimp only [ET.space, ET.name, ET.text, ET.attrs, ET.kids] at e0 e1 e2 e3 e4 HED
        generalize hkn : ki.length = kn at *
        generalize hrn : at2.length = rn at *
        have HB4 := Lib.hid (show Below W0.heap.size W0 (wr.alloc (.cells #[.string nm, .string sp, .slice ra rn rc, .slice ka kn kc, .string tx] 27)) from HBR.out.alloc HBR.out.size _)
        have hltb2 : b < wr.heap.size := (Array.getElem?_eq_some_iff.1 HQ.out).1
        have HX4 := Lib.hid (show (wr.alloc (.cells #[.string nm, .string sp, .slice ra rn rc, .slice ka kn kc, .string tx] 27)).heap[b]? = some (.cells #[.int .i64 u] 3 (0, 0)) from (Below.heap_alloc _ _ b hltb2).trans HQ.out)
        have HREC := Lib.hid (HIH.out (wr.alloc (.cells #[.string nm, .string sp, .slice ra rn rc, .slice ka kn kc, .string tx] 27)) _ _ (dep + 1) b u HED.out HB4.out HBB.out HX4.out (by omega))
        rw [show (((dep + 1 : Nat) : Int)) = (dep : Int) + 1 by omega] at HREC
        clear hx c0 c1 c2 c3 c4 hkd hpr hkv hrv hkn hrn hkl b0 bz
        go_wp2_with fail
        refine (HREC.out).mono ?_
        rintro e w4 ⟨⟨q, rfl, hq2⟩, ⟨u4, hbx4⟩, hb4⟩
        have HX5 := Lib.hid hbx4
        have HB5 := Lib.hid hb4
        have HQ2 := Lib.hid hq2
        clear hbx4 hb4 e0 e1 e2 e3 e4 hq2
        cases q
        · go_wp2_with fail
          go_ret
          exact ⟨⟨_, rfl, by simp⟩, ⟨_, HX5.out⟩, HB5.out⟩
        · go_wp2_with fail
          go_roundw
          case rel => exact ⟨k + 1, u4, by omega, by go_num, HX5.out, HB5.out, HNX.out (HQ2.out (by first | rfl | trivial))⟩
          case measure => simp [intOf]; omega
      · clear b0 bz
        go_wp2_with fail
        go_ret
        exact ⟨⟨_, rfl, fun _ => ⟨by rw [← HN.out]; omega, by rw [← HM.out]; omega, fun j hj => HALL.out j hj (by rw [← HM.out] at hj; omega)⟩⟩, ⟨_, HQ.out⟩, HBR.out⟩
theorem elementP_c (w : World) (d : Nat) (v : Value) (t : ET) (h : ElemD Any w d v t) : Calls Tryz.prog 11 #[v, .int .i64 0] w fun e w' => AnsE d t e ∧ Below w.heap.size w w' := by
  have h' := h
  obtain ⟨av, kv, rfl, hpr, hkd⟩ := h
  obtain ⟨pa, ca, hav, -⟩ := hpr.form
  obtain ⟨ka, kc, hkv, -⟩ := hkd.form
  subst hav hkv
  obtain ⟨N, hN⟩ : ∃ N, N = t.attrs.length := ⟨_, rfl⟩
  obtain ⟨M, hM⟩ : ∃ M, M = t.kids.length := ⟨_, rfl⟩
  obtain ⟨S1, hS1⟩ : ∃ S, S = t.space := ⟨_, rfl⟩
  obtain ⟨S2, hS2⟩ : ∃ S, S = t.name := ⟨_, rfl⟩
  obtain ⟨S3, hS3⟩ : ∃ S, S = t.text := ⟨_, rfl⟩
  rw [← hN, ← hM, ← hS1, ← hS2, ← hS3] at h' ⊢
  have HC := Lib.hid (element_c w d ((w.alloc (.cells #[.string S1, .string S2, .slice pa N ca, .slice ka M kc, .string S3] 27)).alloc (.cells #[.int .i64 400] 3)) _ t 0 (w.heap.size + 1) 400 h' ((box_belT w _).trans ((box_belT _ _).mono (by simp))) (by omega) (by have := heap_alloc_new (w.alloc (.cells #[.string S1, .string S2, .slice pa N ca, .slice ka M kc, .string S3] 27)) (.cells #[.int .i64 400] 3); rwa [World.size_alloc] at this) (by omega))
  clear h' hpr hkd hN hM hS1 hS2 hS3
  go_enter Tryz.func11, Tryz.ntmps11
  go_wp2_with fail
  refine (HC.out).mono ?_
  rintro e w4 ⟨⟨q, rfl, hq⟩, -, hb4⟩
  have HB4 := Lib.hid hb4
  have HQ := Lib.hid hq
  clear hb4 hq
  go_wp2_with fail
  go_ret
  exact ⟨⟨_, rfl, HQ.out⟩, HB4.out⟩
end Go.Proofs.YtpcajjbdlfookaaGreatDoor

/- xmltree: Get, both sides. -/
namespace Go.Proofs.YtpcajjbdlfookaaGreatDoor
open Go Go.RowKit Go.Deep
set_option linter.unusedVariables false
set_option linter.unusedSimpArgs false

/-- The attribute without a namespace. -/
def getM (name : ByteArray) : List PT → Option ByteArray
  | [] => none
  | a :: r => if a.1 = ⟨#[]⟩ ∧ a.2.1 = name then some a.2.2 else getM name r
theorem get_hit {name : ByteArray} {l : List PT} {k : Nat} (h : k < l.length) (h1 : l[k].1 = ⟨#[]⟩) (h2 : l[k].2.1 = name) : getM name (l.drop k) = some l[k].2.2 := by
  rw [List.drop_eq_getElem_cons h, getM, if_pos ⟨h1, h2⟩]
theorem get_miss {name : ByteArray} {l : List PT} {k : Nat} (h : k < l.length) (h1 : ¬ (l[k].1 = ⟨#[]⟩ ∧ l[k].2.1 = name)) : getM name (l.drop k) = getM name (l.drop (k + 1)) := by
  rw [List.drop_eq_getElem_cons h, getM, if_neg h1]
/-- How Get ends. -/
def GetEnd (R : Option ByteArray) (e : Ending) : Prop := match R with
  | some v => e = .returned (.tuple #[.string v, .bool true])
  | none => e = .returned (.tuple #[.string ⟨#[]⟩, .bool false])
theorem toList_inj {a b : ByteArray} (h : a.toList = b.toList) : a = b := by
  rw [ByteArray.toList_eq, ByteArray.toList_eq] at h
  exact ByteArray.ext (Array.toList_inj.1 h)
end Go.Proofs.YtpcajjbdlfookaaGreatDoor

/- xmltree: the reference: Same, of elements that read alike. -/
namespace Go.Proofs.YtpcajjbdlfookaaGreatDoor
open Go Go.RowKit Go.Deep
set_option linter.unusedVariables false
set_option linter.unusedSimpArgs false

theorem fieldsP : (Tryz.prog.fieldsOf 58).toList.map (fun f => (f.name != "_", f.type, f.offset)) = [(true, 9, 0), (true, 9, 1), (true, 9, 2)] := by kernel_rfl
theorem structP : Tryz.prog.underlying 58 = some (.struct (Tryz.prog.fieldsOf 58)) := by kernel_rfl
theorem heldP : Tryz.prog.stoodInHeld 58 = false := by kernel_rfl
theorem run_neqP (w : World) (s t u : ByteArray) : (binOp .neq 58 (.agg #[.string s, .string t, .string u]) (.agg #[.string s, .string t, .string u])).run Tryz.prog w = .ok (.bool false) w := by
  rw [run_neq_struct, run_equalIn_agg _ _ _ _ _ structP heldP]
  have hf := fieldsP
  generalize (Tryz.prog.fieldsOf 58).toList = fs at hf
  rcases fs with _ | ⟨f0, _ | ⟨f1, _ | ⟨f2, _ | ⟨f3, r⟩⟩⟩⟩
  · simp at hf
  · simp at hf
  · simp at hf
  · simp only [List.map_cons, List.map_nil, List.cons.injEq, Prod.mk.injEq, and_true] at hf
    obtain ⟨⟨n0, t0, o0⟩, ⟨n1, t1, o1⟩, n2, t2, o2⟩ := hf
    simp only [Op.eqFields, t0, t1, t2, o0, o1, o2]
    simp only [bne_iff_ne] at n0 n1 n2
    rw [if_pos n0, if_pos n1, if_pos n2]
    simp [go_sem, part]
  · simp at hf
theorem PairsR.at {ok : Nat → Prop} {w : World} {p : Option Addr} {n c : Nat} {l : List PT} (h : PairsR ok w (.slice p n c) l) {k : Nat} (hk : k < l.length) : ∃ b o, p = some ⟨b, o, none⟩ ∧ w.cell? ⟨b, o + k * 3, none⟩ = some (.string l[k].1) ∧ w.cell? ⟨b, o + k * 3 + 1, none⟩ = some (.string l[k].2.1) ∧ w.cell? ⟨b, o + k * 3 + 2, none⟩ = some (.string l[k].2.2) := by
  obtain ⟨a, c', e, h1, h2, h3, h4⟩ := h
  cases e
  obtain ⟨b, o, ha, _, _, hx⟩ := h4 (by omega)
  exact ⟨b, o, ha, hx k hk⟩
/-- One kid: its cells, and that it reads as it should. -/
theorem KidsD.at {ok : Nat → Prop} {w : World} {d : Nat} {p : Option Addr} {n c : Nat} {l : List ET} (h : KidsD ok w (d + 1) (.slice p n c) l) {k : Nat} (hk : k < l.length) : ∃ b o pa ca pk ck, p = some ⟨b, o, none⟩ ∧ b < w.heap.size ∧ ok b ∧
    w.cell? ⟨b, o + k * 5, none⟩ = some (.string l[k].space) ∧ w.cell? ⟨b, o + k * 5 + 1, none⟩ = some (.string l[k].name) ∧ w.cell? ⟨b, o + k * 5 + 2, none⟩ = some (.slice pa l[k].attrs.length ca) ∧ w.cell? ⟨b, o + k * 5 + 3, none⟩ = some (.slice pk l[k].kids.length ck) ∧ w.cell? ⟨b, o + k * 5 + 4, none⟩ = some (.string l[k].text) ∧
    ElemD ok w d (.agg #[.string l[k].space, .string l[k].name, .slice pa l[k].attrs.length ca, .slice pk l[k].kids.length ck, .string l[k].text]) l[k] := by
  obtain ⟨a, c', e, h1, h2, h3, h4⟩ := h
  cases e
  obtain ⟨b, o, ha, hlt, ho, hx⟩ := h4 (by omega)
  obtain ⟨av, kv, ⟨c0, c1, c2, c3, c4⟩, hp, hk1⟩ := hx k hk
  obtain ⟨pa, ca, hav, -⟩ := hp.form
  obtain ⟨pk, ck, hkv, -⟩ := hk1.form
  subst hav hkv
  exact ⟨b, o, pa, ca, pk, ck, ha, hlt, ho, c0, c1, c2, c3, c4, _, _, rfl, hp, hk1⟩
theorem cellsE5 {w : World} {b : Nat} {c0 c1 c2 c3 c4 : Value} {T : TypeId} (h : w.heap[b]? = some (.cells #[c0, c1, c2, c3, c4] T (0, 0))) : w.cell? ⟨b, 0, none⟩ = some c0 ∧ w.cell? ⟨b, 1, none⟩ = some c1 ∧ w.cell? ⟨b, 2, none⟩ = some c2 ∧ w.cell? ⟨b, 3, none⟩ = some c3 ∧ w.cell? ⟨b, 4, none⟩ = some c4 ∧ (∀ o, w.frozen? ⟨b, o, none⟩ = false) := by
  refine ⟨?_, ?_, ?_, ?_, ?_, fun o => ?_⟩ <;> simp [World.cell?, World.frozen?, h]

set_option maxRecDepth 100000 in
set_option maxHeartbeats 4000000 in
theorem rsameE_c {ok ok' : Nat → Prop} : ∀ (d : Nat) (w : World) (v u : Value) (t : ET), ElemD ok w d v t → ElemD ok' w d u t → Calls Tryz.prog 8 #[v, u] w fun e w' => e = .returned (.bool true) ∧ Below w.heap.size w w' := by
  intro d
  induction d with
  | zero => rintro w v u t ⟨av, kv, _, _, h⟩; exact h.elim
  | succ d ih =>
    intro w v u t h1 h2
    have HIH := Lib.hid ih
    obtain ⟨av, kv, rfl, hp1, hk1⟩ := h1
    obtain ⟨av2, kv2, rfl, hp2, hk2⟩ := h2
    obtain ⟨pa, ca, hav, _, hma⟩ := hp1.form
    obtain ⟨pk, ck, hkv, _, hmk⟩ := hk1.form
    obtain ⟨pa2, ca2, hav2, -⟩ := hp2.form
    obtain ⟨pk2, ck2, hkv2, -⟩ := hk2.form
    subst hav hkv hav2 hkv2
    have hnN : t.attrs.length ≤ 9223372036854775807 := by unfold maxLen at hma; omega
    have hnM : t.kids.length ≤ 9223372036854775807 := by unfold maxLen at hmk; omega
    obtain ⟨S1, hS1⟩ : ∃ S, S = t.space := ⟨_, rfl⟩
    obtain ⟨S2, hS2⟩ : ∃ S, S = t.name := ⟨_, rfl⟩
    obtain ⟨S3, hS3⟩ : ∃ S, S = t.text := ⟨_, rfl⟩
    obtain ⟨lp, hlp⟩ : ∃ l, l = t.attrs := ⟨_, rfl⟩
    obtain ⟨lk, hlk⟩ : ∃ l, l = t.kids := ⟨_, rfl⟩
    rw [← hS1, ← hS2, ← hS3]
    rw [← hlp] at hp1 hp2 hnN
    rw [← hlk] at hk1 hk2 hnM
    rw [← hlp, ← hlk]
    obtain ⟨N, hN⟩ : ∃ N, N = lp.length := ⟨_, rfl⟩
    obtain ⟨M, hM⟩ : ∃ M, M = lk.length := ⟨_, rfl⟩
    rw [← hN] at hp1 hp2 hnN ⊢
    rw [← hM] at hk1 hk2 hnM ⊢
    have HP1 := Lib.hid hp1
    have HP2 := Lib.hid hp2
    have HK1 := Lib.hid hk1
    have HK2 := Lib.hid hk2
    have HN := Lib.hid hN
    have HM := Lib.hid hM
    have q1 : ((N : Int) != (N : Int)) = false := by simp
    have q2 : ((M : Int) != (M : Int)) = false := by simp
    have q3 : (S1.toList == S1.toList) = true := by simp
    have q4 : (S2.toList == S2.toList) = true := by simp
    have q5 : (S3.toList == S3.toList) = true := by simp
    have b1 := box_belT w (.cells #[.string S1, .string S2, .slice pa N ca, .slice pk M ck, .string S3] 27)
    have b2 := box_belT (w.alloc (.cells #[.string S1, .string S2, .slice pa N ca, .slice pk M ck, .string S3] 27)) (.cells #[.string S1, .string S2, .slice pa2 N ca2, .slice pk2 M ck2, .string S3] 27)
    have HB0 := Lib.hid (b1.trans (b2.mono (by simp)))
    have HX0 := Lib.hid ((b2.block w.heap.size (by simp)).trans (heap_alloc_new w (.cells #[.string S1, .string S2, .slice pa N ca, .slice pk M ck, .string S3] 27)))
    have HX1 := Lib.hid (show ((w.alloc (.cells #[.string S1, .string S2, .slice pa N ca, .slice pk M ck, .string S3] 27)).alloc (.cells #[.string S1, .string S2, .slice pa2 N ca2, .slice pk2 M ck2, .string S3] 27)).heap[w.heap.size + 1]? = some (.cells #[.string S1, .string S2, .slice pa2 N ca2, .slice pk2 M ck2, .string S3] 27 (0, 0)) from by
      have := heap_alloc_new (w.alloc (.cells #[.string S1, .string S2, .slice pa N ca, .slice pk M ck, .string S3] 27)) (.cells #[.string S1, .string S2, .slice pa2 N ca2, .slice pk2 M ck2, .string S3] 27)
      rwa [World.size_alloc] at this)
    clear ih hp1 hp2 hk1 hk2 hN hM hS1 hS2 hS3 hlp hlk hma hmk b1 b2
    go_enter Tryz.func8, Tryz.ntmps8
    go_wp2_with fail
    go_loopw [47] (fun s44 wr => ∃ k : Nat, k ≤ N ∧ s44 = .int .i64 k ∧ Below w.heap.size w wr ∧ wr.heap[w.heap.size]? = some (.cells #[.string S1, .string S2, .slice pa N ca, .slice pk M ck, .string S3] 27 (0, 0)) ∧ wr.heap[w.heap.size + 1]? = some (.cells #[.string S1, .string S2, .slice pa2 N ca2, .slice pk2 M ck2, .string S3] 27 (0, 0))) (fun s44 _ => N - (intOf s44).toNat)
    case atStart => exact ⟨0, by omega, rfl, HB0.out, HX0.out, HX1.out⟩
    case round =>
      obtain ⟨k, hk, rfl, hb, hx0, hx1⟩ := hrel
      have HB := Lib.hid hb
      have HY0 := Lib.hid hx0
      have HY1 := Lib.hid hx1
      obtain ⟨x0, x1, x2, x3, x4, xz⟩ := cellsE5 hx0
      obtain ⟨y0, y1, y2, y3, y4, yz⟩ := cellsE5 hx1
      by_cases hlt : k < N
      · have hd : decide ((k : Int) < (N : Int)) = true := decide_eq_true (by omega)
        have hkl : k < lp.length := by rw [← HN.out]; exact hlt
        obtain ⟨b, o, hp, d0, d1, d2⟩ := (HP1.out.below hb).at hkl
        obtain ⟨b', o', hp', e0, e1, e2⟩ := (HP2.out.below hb).at hkl
        subst hp hp'
        generalize lp[k] = x at *
        obtain ⟨s, n, u⟩ := x
        dsimp only at d0 d1 d2 e0 e1 e2
        have hneq := fun W => run_neqP W s n u
        clear hb hx0 hx1 hkl x0 x1 x3 x4 y0 y1 y3 y4
        go_wp2_with fail
        go_quiet (fail)
        go_wp2_with fail
        go_roundw
        case rel => exact ⟨k + 1, by omega, by go_num, Go.below_drewN HB.out _, HY0.out, HY1.out⟩
        case measure => simp [intOf]; omega
      · have hd : decide ((k : Int) < (N : Int)) = false := decide_eq_false (by omega)
        clear hb hx0 hx1 x0 x1 x2 x4 y0 y1 y2 y4
        go_wp2_with fail
        go_loopw [65] (fun s44 wr => ∃ k : Nat, k ≤ M ∧ s44 = .int .i64 k ∧ Below w.heap.size w wr ∧ wr.heap[w.heap.size]? = some (.cells #[.string S1, .string S2, .slice pa N ca, .slice pk M ck, .string S3] 27 (0, 0)) ∧ wr.heap[w.heap.size + 1]? = some (.cells #[.string S1, .string S2, .slice pa2 N ca2, .slice pk2 M ck2, .string S3] 27 (0, 0))) (fun s44 _ => M - (intOf s44).toNat)
        case atStart => exact ⟨0, by omega, rfl, HB.out, HY0.out, HY1.out⟩
        case round =>
          obtain ⟨k, hk, rfl, hb, hx0, hx1⟩ := hrel
          have HB := Lib.hid hb
          have HY0 := Lib.hid hx0
          have HY1 := Lib.hid hx1
          obtain ⟨x0, x1, x2, x3, x4, xz⟩ := cellsE5 hx0
          obtain ⟨y0, y1, y2, y3, y4, yz⟩ := cellsE5 hx1
          by_cases hlt : k < M
          · have hd : decide ((k : Int) < (M : Int)) = true := decide_eq_true (by omega)
            have hkl : k < lk.length := by rw [← HM.out]; exact hlt
            obtain ⟨b, o, pa, ca, pk, ck, hp, _, _, d0, d1, d2, d3, d4, hE⟩ := (HK1.out.below hb).at hkl
            obtain ⟨b', o', pa', ca', pk', ck', hp', _, _, e0, e1, e2, e3, e4, hE'⟩ := (HK2.out.below hb).at hkl
            subst hp hp'
            have HREC := Lib.hid (fun q => HIH.out (wr.drewN q) _ _ _ (hE.below (Go.below_drewN (Below.refl _ _) q)) (hE'.below (Go.below_drewN (Below.refl _ _) q)))
            have HRE0 := Lib.hid (HIH.out wr _ _ _ hE hE')
            generalize lk[k] = x at *
            obtain ⟨s, n, l1, l2, u⟩ := x
            dsimp only [ET.space, ET.name, ET.text, ET.attrs, ET.kids] at d0 d1 d2 d3 d4 e0 e1 e2 e3 e4 HREC HRE0
            generalize l1.length = n1 at *
            generalize l2.length = n2 at *
            clear hb hx0 hx1 hkl x0 x1 x2 x4 y0 y1 y2 y4 hE hE'
            go_wp2_with fail
            go_region_with (go_at_call 8; refine ((HREC.out _)).mono ?_; rintro e w2 ⟨rfl, hb2⟩; have hbq := (Go.below_drewN (Below.refl _ _) _).trans hb2; have HB2 := Lib.hid (HB.out.trans (hbq.mono HB.out.size)); have HZ0 := Lib.hid ((hbq.block _ (Array.getElem?_eq_some_iff.1 HY0.out).1).trans HY0.out); have HZ1 := Lib.hid ((hbq.block _ (Array.getElem?_eq_some_iff.1 HY1.out).1).trans HY1.out); clear hb2 hbq)
            all_goals
              go_wp2_with fail
              go_roundw
              case rel => exact ⟨k + 1, by omega, by go_num, HB2.out, HZ0.out, HZ1.out⟩
              case measure => simp [intOf]; omega
          · have hd : decide ((k : Int) < (M : Int)) = false := decide_eq_false (by omega)
            clear hb hx0 hx1 x0 x1 x2 x4 y0 y1 y2 y4
            go_wp2_with fail
            go_ret
            exact ⟨rfl, HB.out⟩
end Go.Proofs.YtpcajjbdlfookaaGreatDoor
