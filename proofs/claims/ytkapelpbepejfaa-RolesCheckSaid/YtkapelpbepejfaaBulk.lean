/- What the bulk's bound gives, for the second form of a statement. -/
import Derived.Test.YtkapelpbepejfaaRows
namespace Go.Proofs.Ytkapelpbepejfaa

theorem bulk_one {H : Type} (d : DataW H) : 1 ≤ Rows.uptoBulk d := by
  cases d with
  | lit l => cases l <;> simp [Rows.uptoBulk]
  | _ => simp [Rows.uptoBulk]

theorem bulk_part {H : Type} {d : DataW H} {l : List (DataW H)} (h : d ∈ l) : Rows.uptoBulk d ≤ Rows.uptoBulkAll l := by
  induction l with
  | nil => cases h
  | cons x r ih =>
    simp only [Rows.uptoBulkAll]
    cases List.mem_cons.1 h with
    | inl e => subst e; omega
    | inr e => have := ih e; omega

theorem bulk_length {H : Type} (l : List (DataW H)) : l.length ≤ Rows.uptoBulkAll l := by
  induction l with
  | nil => simp [Rows.uptoBulkAll]
  | cons x r ih => have := bulk_one x; simp only [Rows.uptoBulkAll, List.length_cons]; omega

theorem bulk_bound {H : Type} {l : List (DataW H)} (hk : Rows.uptoSmall H l = true) : Rows.uptoBulkAll l ≤ 1048576 := of_decide_eq_true hk

theorem bulk_slice {H : Type} (elems spare l : List (DataW H)) (hk : Rows.uptoBulkAll l ≤ 1048576) (h : DataW.slice elems spare ∈ l) : elems.length ≤ 1048576 := by
  have h1 := bulk_part h
  have h2 := bulk_length elems
  simp only [Rows.uptoBulk] at h1
  omega

theorem bulk_string {H : Type} (bs : List UInt8) (l : List (DataW H)) (hk : Rows.uptoBulkAll l ≤ 1048576) (h : DataW.lit (.string bs) ∈ l) : bs.length ≤ 1048576 := by
  have h1 := bulk_part h
  simp only [Rows.uptoBulk] at h1
  omega
end Go.Proofs.Ytkapelpbepejfaa
