/- vdisk: the laws over steps: plain lemmas, a step out of the list. -/
import Derived.Test.YtcpldjaoacihlaaSm
namespace Go.Proofs.Ytcpldjaoacihlaa
open Go.RowKit
set_option linter.unusedVariables false

theorem change_len (s : DS) (n : List UInt8) (v : Bool) (g : Fl → Fs) (h : (g (fileA n s.fs)).length ≤ s.fs.length + 1) : (s.change n v g).2.fs.length ≤ s.fs.length + 1 := by
  unfold DS.change
  split
  · exact h
  · unfold DS.aft
    split
    · rw [DS.burn_fs]; omega
    · show s.fs.length ≤ _
      omega
theorem append_len' (s : DS) (n b : List UInt8) : (s.append n b).2.fs.length ≤ s.fs.length + 1 := by
  unfold DS.append
  split
  · exact Nat.le_succ _
  · split
    · exact Nat.le_succ _
    · split
      · simp only [DS.burn_fs]; omega
      · exact length_putA _ _ _
theorem act_len (x : SV) (s : DS) : (x.act s).fs.length ≤ s.fs.length + 1 := by
  unfold SV.act
  split
  · exact append_len' _ _ _
  · split
    · exact change_len _ _ _ _ (length_putA _ _ _)
    · split
      · exact change_len _ _ _ _ (Nat.le_trans (length_putA _ _ _) (Nat.add_le_add_right (length_delA _ _) 1))
      · split
        · exact change_len _ _ _ _ (length_putA _ _ _)
        · split
          · exact change_len _ _ _ _ (Nat.le_trans (length_delA _ _) (Nat.le_succ _))
          · split
            · unfold DS.setFuse; split <;> exact Nat.le_succ _
            · split
              · have := congrArg List.length (crash_names x.ks s.fs 0)
                simp only [List.length_map] at this
                show (crashFs x.ks 0 s.fs).length ≤ _
                omega
              · unfold DS.setRoom; split <;> exact Nat.le_succ _

theorem change_tot (s : DS) (n : List UInt8) (v : Bool) (g : Fl → Fs) (h : total (g (fileA n s.fs)) ≤ total s.fs) : total (s.change n v g).2.fs ≤ total s.fs ∧ (s.change n v g).2.room = s.room := by
  unfold DS.change
  split
  · exact ⟨h, DS.burn_room s⟩
  · unfold DS.aft
    split
    · exact ⟨Nat.le_of_eq (by rw [DS.burn_fs]), DS.burn_room s⟩
    · exact ⟨Nat.le_refl _, rfl⟩
theorem put_tot {s : DS} (h : s.Ok) (n : List UInt8) (f : Fl) (hf : f.data.length ≤ (fileA n s.fs).data.length) : total (putA n f s.fs) ≤ total s.fs := by
  have := total_put n f s.fs h.ris
  rw [fileA_len] at this
  omega
/-- A step other than Room keeps the files within the room. -/
theorem act_room (x : SV) {s : DS} (h : s.Ok) (hk : x.kind ≠ 8) (ht : total s.fs ≤ s.room) : (x.act s).room = s.room ∧ total (x.act s).fs ≤ s.room := by
  have lift : ∀ s' : DS, total s'.fs ≤ total s.fs ∧ s'.room = s.room → s'.room = s.room ∧ (total s'.fs : Int) ≤ s.room := fun s' h => ⟨h.2, by omega⟩
  unfold SV.act
  split
  · unfold DS.append
    split
    · exact ⟨rfl, ht⟩
    · split
      · exact ⟨rfl, ht⟩
      · rename_i h2
        split
        · exact ⟨DS.burn_room s, by rw [DS.burn_fs]; exact ht⟩
        · refine ⟨DS.burn_room s, ?_⟩
          have hp := total_put x.nm.data.toList ⟨(fileA x.nm.data.toList s.fs).data ++ x.b, (fileA x.nm.data.toList s.fs).sy⟩ s.fs h.ris
          rw [fileA_len] at hp
          simp only [List.length_append] at hp
          show (total (putA x.nm.data.toList ⟨(fileA x.nm.data.toList s.fs).data ++ x.b, (fileA x.nm.data.toList s.fs).sy⟩ s.fs) : Int) ≤ s.room
          omega
  · split
    · exact lift _ (change_tot s _ _ _ (put_tot h _ _ (Nat.le_refl _)))
    · split
      · refine lift _ (change_tot s _ _ _ ?_)
        have h1 := total_put x.tn.data.toList (fileA x.nm.data.toList s.fs) (delA x.nm.data.toList s.fs) (ris_delA h.ris)
        have h2 := total_del x.nm.data.toList s.fs h.ris
        rw [fileA_len] at h1 h2
        omega
      · split
        · refine lift _ (change_tot s _ _ _ (put_tot h _ _ ?_))
          simp only [Fl.cut, List.length_take]
          omega
        · split
          · refine lift _ (change_tot s _ _ _ ?_)
            have := total_del x.nm.data.toList s.fs h.ris
            omega
          · split
            · unfold DS.setFuse; split <;> exact ⟨rfl, ht⟩
            · split
              · exact lift _ ⟨crash_total x.ks s.fs 0, rfl⟩
              · have := x.kind_in
                exact absurd (by omega) hk

/-- The k-th step's cells. -/
theorem StepsIs.at {w wr : World} {v : Value} {l : List SV} (h : StepsIs w v l) (hb : Below w.heap.size w wr) {k : Nat} (hk : k < l.length) : ∃ b o c, v = .slice (some ⟨b, o, none⟩) l.length c ∧
    wr.cell? ⟨b, o + k * 6, none⟩ = some (.int .i64 l[k].op) ∧ wr.cell? ⟨b, o + k * 6 + 1, none⟩ = some (.int .i64 l[k].n) ∧ wr.cell? ⟨b, o + k * 6 + 2, none⟩ = some (.string l[k].nm) ∧ wr.cell? ⟨b, o + k * 6 + 3, none⟩ = some (.string l[k].tn) ∧
    wr.cell? ⟨b, o + k * 6 + 4, none⟩ = some l[k].bv ∧ wr.cell? ⟨b, o + k * 6 + 5, none⟩ = some l[k].kv ∧ SVok w l[k] := by
  obtain ⟨a, c, rfl, _, _, h1, h2⟩ := h
  obtain ⟨b, o, rfl, hx⟩ := h1 (by omega)
  have hat : ∀ j, j < 6 → ∀ u, (scells l[k])[j]? = some u → wr.cell? ⟨b, o + k * 6 + j, none⟩ = some u := fun j hj u hu => by
    have h3 := hx k hk j hj
    rw [hu] at h3
    rw [Nat.add_assoc, hb.cell (World.block_lt_of_cell? w _ h3)]
    exact h3
  exact ⟨b, o, c, rfl, hat 0 (by omega) _ rfl, hat 1 (by omega) _ rfl, hat 2 (by omega) _ rfl, hat 3 (by omega) _ rfl, hat 4 (by omega) _ rfl, hat 5 (by omega) _ rfl, h2 _ (List.getElem_mem hk)⟩

theorem tw_new {w0 w w1 w2 : World} {p q : Option Addr} {r : Int} {foot m : List Nat} (hw : Below w0.heap.size w0 w) (hd : Disk w1 p (newS r) foot) (hf : ∀ i ∈ foot, w.heap.size ≤ i) (hb1 : Below w.heap.size w w1) (hr : RDisk w2 q (newS r) m []) (hm : ∀ i ∈ m, w1.heap.size ≤ i) (hb2 : Below w1.heap.size w1 w2) : Tw w0 w2 p q (newS r) (newS r) := by
  have h1 := hb1.size
  have h0 := hw.size
  refine ⟨foot, m, [], hd.below hb2, hr, fun i hi => ⟨fun hm' => ?_, by simp⟩, fun i hi => by have := hf i hi; omega, fun i hi => by have := hm i hi; omega, (hw.trans (hb1.mono h0)).trans (hb2.mono (by omega))⟩
  have := hd.lt i hi
  have := hm i hm'
  omega
end Go.Proofs.Ytcpldjaoacihlaa
