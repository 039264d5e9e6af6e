/- Definitions of a case file: whether they are not many (dossierplain.Files): it answers, and what was there stays. -/
import Derived.Test.YtkapelpbepejfaaFa
import Derived.Test.YtkapelpbepejfaaChecked
import Derived.OpenShut
import Derived.Outline
import Derived.WalkLawsBesides
import Derived.WalkSpells
namespace Go.Proofs.Ytkapelpbepejfaa
open Go Go.RowKit Go.Deep
set_option linter.unusedVariables false
set_option linter.unusedSimpArgs false

theorem box_belF (w : World) (o : Obj) : Below w.heap.size w (w.alloc o) := (Below.refl _ _).alloc (Nat.le_refl _) _
theorem one_cellF {w : World} {b : Nat} {c0 : Value} {T : TypeId} (h : w.heap[b]? = some (.cells #[c0] T (0, 0))) : w.cell? ⟨b, 0, none⟩ = some c0 ∧ (∀ o, w.frozen? ⟨b, o, none⟩ = false) := by
  refine ⟨?_, fun o => ?_⟩ <;> simp [World.cell?, World.frozen?, h]
theorem set_cellF {w : World} {b : Nat} {c0 c1 : Value} {T : TypeId} (h : w.heap[b]? = some (.cells #[c0] T (0, 0))) : (w.setCell ⟨b, 0, none⟩ c1).heap[b]? = some (.cells #[c1] T (0, 0)) := by
  simp [World.setCell, Array.getElem?_modify, h]
theorem FilesD.form {w : World} : ∀ {d : Nat} {v : Value} {l : List FT}, FilesD w d v l → ∃ a c, v = .slice a l.length c ∧ l.length ≤ c ∧ c ≤ maxLen
  | 0, _, _, h => h.elim
  | d + 1, v, l, h => by
    obtain ⟨a, c, e, h1, h2, -⟩ := h
    exact ⟨a, c, e, h1, h2⟩

/-- It answers one way or the other. -/
def AnyB (e : Ending) : Prop := ∃ q : Bool, e = .returned (.bool q)

set_option maxRecDepth 100000 in
set_option maxHeartbeats 2000000 in
theorem files_c (W0 : World) : ∀ (d : Nat) (w : World) (v : Value) (l : List FT) (dep b : Nat) (u : Int), FilesD W0 d v l → Below W0.heap.size W0 w → W0.heap.size ≤ b → w.heap[b]? = some (.cells #[.int .i64 u] 3 (0, 0)) → dep ≤ 41 →
    Calls Try.prog 28 #[v, .int .i64 dep, .pointer (some ⟨b, 0, none⟩)] w fun e w' => AnyB e ∧ (∃ u', w'.heap[b]? = some (.cells #[.int .i64 u'] 3 (0, 0))) ∧ Below W0.heap.size W0 w' := by
  intro d
  induction d with
  | zero => intro w v l dep b u h; exact h.elim
  | succ d ih =>
    intro w v l dep b u h hb0 hbb hbx hdep
    have HIH := Lib.hid ih
    have HB0 := Lib.hid hb0
    have HBB := Lib.hid hbb
    have HBX := Lib.hid hbx
    obtain ⟨a, c, hv, hlc, hcm, hnone, hrows⟩ := h
    subst hv
    have HROW := Lib.hid hrows
    have hn : l.length ≤ 9223372036854775807 := by unfold maxLen at hcm; omega
    have hw1 : IntKind.i64.wrap ((dep : Int) + 1) = (dep : Int) + 1 := by rw [IntKind.wrap_i64]; omega
    clear ih hb0 hbb hbx hlc hcm hnone hrows
    by_cases hd4 : 40 < dep
    · have hq : decide ((40 : Int) < (dep : Int)) = true := decide_eq_true (by omega)
      go_enter Try.func28, Try.ntmps28
      go_wp2_with fail
      go_ret
      exact ⟨⟨_, rfl⟩, ⟨_, HBX.out⟩, HB0.out⟩
    · have hq : decide ((40 : Int) < (dep : Int)) = false := decide_eq_false (by omega)
      go_enter Try.func28, Try.ntmps28
      go_wp2_with fail
      go_loopw [13] (fun i wr => ∃ (k : Nat) (u : Int), k ≤ l.length ∧ i = .int .i64 k ∧ wr.heap[b]? = some (.cells #[.int .i64 u] 3 (0, 0)) ∧ Below W0.heap.size W0 wr) (fun i _ => l.length - (intOf i).toNat)
      case atStart => exact ⟨0, u, by omega, rfl, HBX.out, HB0.out⟩
      case round =>
        obtain ⟨k, u, hk, rfl, hbx, hbr⟩ := hrel
        have HQ := Lib.hid hbx
        have HBR := Lib.hid hbr
        clear hbx hbr
        by_cases hlt : k < l.length
        · obtain ⟨g, o, ha, hgl, hx⟩ := HROW.out (by omega)
          obtain ⟨kv, rv, ⟨c0, c1, c2, c3, c4⟩, hkd, hr, -⟩ := hx k hlt
          subst ha
          have HKD := Lib.hid hkd
          obtain ⟨ka, kc, hkv, -⟩ := hkd.form
          obtain ⟨ra, rc, hrv, -⟩ := hr
          rw [hkv] at c3 HKD
          rw [hrv] at c4
          have e0 := (HBR.out.cell (p := ⟨g, o + k * 5, none⟩) hgl).trans c0
          have e1 := (HBR.out.cell (p := ⟨g, o + k * 5 + 1, none⟩) hgl).trans c1
          have e2 := (HBR.out.cell (p := ⟨g, o + k * 5 + 2, none⟩) hgl).trans c2
          have e3 := (HBR.out.cell (p := ⟨g, o + k * 5 + 3, none⟩) hgl).trans c3
          have e4 := (HBR.out.cell (p := ⟨g, o + k * 5 + 4, none⟩) hgl).trans c4
          obtain ⟨b0, bz⟩ := one_cellF HQ.out
          have hltb : b < wr.heap.size := (Array.getElem?_eq_some_iff.1 HQ.out).1
          obtain ⟨u1, hu1⟩ : ∃ u1, IntKind.i64.wrap (u - 1) = u1 := ⟨_, rfl⟩
          generalize l[k].name = nm at *
          generalize l[k].kind = kd at *
          generalize l[k].multi = mu at *
          generalize (tcellsF l[k].refs).length = rn at *
          generalize l[k].kids = kids at *
          generalize hkn : kids.length = kn at *
          have HKN := Lib.hid hkn
          have HB3 := Lib.hid (show ∀ u1 : Int, Below W0.heap.size W0 ((wr.setCell ⟨b, 0, none⟩ (.int .i64 u1)).alloc (.cells #[.string nm, .int .i64 kd, .int .i64 mu, .slice ka kn kc, .slice ra rn rc] 58)) from fun u1 => (HBR.out.setCell (p := ⟨b, 0, none⟩) HBB.out _).alloc (by have := HBR.out.size; simpa [World.size_setCell] using this) _)
          have HX3 := Lib.hid (show ∀ u1 : Int, ((wr.setCell ⟨b, 0, none⟩ (.int .i64 u1)).alloc (.cells #[.string nm, .int .i64 kd, .int .i64 mu, .slice ka kn kc, .slice ra rn rc] 58)).heap[b]? = some (.cells #[.int .i64 u1] 3 (0, 0)) from fun u1 => (Below.heap_alloc _ _ b (by simpa [World.size_setCell] using hltb)).trans (set_cellF HQ.out))
          have HREC := Lib.hid (fun (u1 : Int) => HIH.out ((wr.setCell ⟨b, 0, none⟩ (.int .i64 u1)).alloc (.cells #[.string nm, .int .i64 kd, .int .i64 mu, .slice ka kn kc, .slice ra rn rc] 58)) _ kids (dep + 1) b u1 HKD.out (HB3.out u1) HBB.out (HX3.out u1) (by omega))
          rw [show (((dep + 1 : Nat) : Int)) = (dep : Int) + 1 by omega] at HREC
          clear hx c0 c1 c2 c3 c4 hkd hkv hrv hkn
          by_cases hneg : u1 < 0
          · have hqn : decide (u1 < 0) = true := decide_eq_true hneg
            go_wp2_with fail
            go_ret
            exact ⟨⟨_, rfl⟩, ⟨_, HX3.out _⟩, HB3.out _⟩
          · have hqn : decide (u1 < 0) = false := decide_eq_false hneg
            by_cases hbig : 20 < rn
            · have hqr : decide ((20 : Int) < (rn : Int)) = true := decide_eq_true (by omega)
              go_wp2_with fail
              go_ret
              exact ⟨⟨_, rfl⟩, ⟨_, HX3.out _⟩, HB3.out _⟩
            · have hqr : decide ((20 : Int) < (rn : Int)) = false := decide_eq_false (by omega)
              go_wp2_with fail
              refine (HREC.out _).mono ?_
              rintro e w4 ⟨⟨q, rfl⟩, ⟨u4, hbx4⟩, hb4⟩
              have HX4 := Lib.hid hbx4
              have HB4 := Lib.hid hb4
              clear hbx4 hb4 e0 e1 e2 e3 e4 b0 bz hltb
              cases q
              · go_wp2_with fail
                go_ret
                exact ⟨⟨_, rfl⟩, ⟨_, HX4.out⟩, HB4.out⟩
              · go_wp2_with fail
                go_roundw
                case rel => exact ⟨k + 1, u4, by omega, by go_num, HX4.out, HB4.out⟩
                case measure => simp [intOf]; omega
        · go_wp2_with fail
          go_ret
          exact ⟨⟨_, rfl⟩, ⟨_, HQ.out⟩, HBR.out⟩
theorem filesF_c (w : World) (d : Nat) (v : Value) (l : List FT) (h : FilesD w d v l) : Calls Try.prog 18 #[v] w fun e w' => AnyB e ∧ Below w.heap.size w w' := by
  have HC := Lib.hid (files_c w d (w.alloc (.cells #[.int .i64 120] 3)) v l 0 w.heap.size 120 h (box_belF w _) (Nat.le_refl _) (heap_alloc_new w _) (by omega))
  obtain ⟨a, c, hv, -⟩ := h.form
  subst hv
  clear h
  go_enter Try.func18, Try.ntmps18
  go_wp2_with fail
  refine (HC.out).mono ?_
  rintro e w4 ⟨⟨q, rfl⟩, -, hb4⟩
  have HB4 := Lib.hid hb4
  clear hb4
  go_wp2_with fail
  go_ret
  exact ⟨⟨_, rfl⟩, HB4.out⟩
end Go.Proofs.Ytkapelpbepejfaa
