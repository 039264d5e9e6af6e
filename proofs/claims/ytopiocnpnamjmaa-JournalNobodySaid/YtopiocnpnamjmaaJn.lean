/- journal: a journal that no call made. -/
import Derived.Test.YtopiocnpnamjmaaJp
import Derived.Test.YtopiocnpnamjmaaVx
namespace Go.Proofs.Ytopiocnpnamjmaa
open Go.RowKit
set_option linter.unusedVariables false

/-- nil, or {}. -/
def NoJ (w : World) (p : Option Addr) : Prop := p = none ∨ ∃ b, p = some ⟨b, 0, none⟩ ∧ w.cell? ⟨b, 0, none⟩ = some (.pointer none)

section
variable {w : World} {p : Option Addr}

theorem jmade_n (h : NoJ w p) : Calls Try.prog 28 #[.pointer p] w fun e w' => e = .returned (.bool false) ∧ w = w' := by
  rcases h with rfl | ⟨b, rfl, h⟩
  all_goals
    go_enter Try.func28, Try.ntmps28
    go_wp2
    go_ret
    exact ⟨rfl, rfl⟩
theorem jready_n (h : NoJ w p) (v : Bool) : Calls Try.prog 22 #[.pointer p, .bool v] w fun e w' => e = .returned (.int .i64 2) ∧ w = w' := by
  go_enter Try.func22, Try.ntmps22
  go_wp2_with (go_at_call 28; refine (jmade_n h).mono ?_; rintro e w' ⟨rfl, rfl⟩)
  go_ret
  exact ⟨rfl, rfl⟩
theorem jstopped_n (h : NoJ w p) : Calls Try.prog 16 #[.pointer p] w fun e w' => e = .returned (.bool true) ∧ w = w' := by
  go_enter Try.func16, Try.ntmps16
  go_wp2_with (go_at_call 28; refine (jmade_n h).mono ?_; rintro e w' ⟨rfl, rfl⟩)
  go_ret
  exact ⟨rfl, rfl⟩
theorem jsnap_n (h : NoJ w p) : Calls Try.prog 9 #[.pointer p] w fun e w' => e = .returned (.slice none 0 0) ∧ w = w' := by
  go_enter Try.func9, Try.ntmps9
  go_wp2_with (go_at_call 28; refine (jmade_n h).mono ?_; rintro e w' ⟨rfl, rfl⟩)
  go_ret
  exact ⟨rfl, rfl⟩
theorem jrecs_n (h : NoJ w p) : Calls Try.prog 8 #[.pointer p] w fun e w' => e = .returned (.slice none 0 0) ∧ w = w' := by
  go_enter Try.func8, Try.ntmps8
  go_wp2_with (go_at_call 28; refine (jmade_n h).mono ?_; rintro e w' ⟨rfl, rfl⟩)
  go_ret
  exact ⟨rfl, rfl⟩
theorem japp_n (h : NoJ w p) (v : Value) (b : List UInt8) (hv : Rd w v b) : Calls Try.prog 7 #[.pointer p, v] w fun e w' => e = .returned (.int .i64 2) ∧ w = w' := by
  obtain ⟨q, c, rfl, l1, l2, _⟩ := hv
  go_enter Try.func7, Try.ntmps7
  go_wp2_with (go_at_call 22; refine (jready_n h _).mono ?_; rintro e w' ⟨rfl, rfl⟩)
  all_goals
    go_ret
    exact ⟨rfl, rfl⟩
theorem jcmp_n (h : NoJ w p) (v : Value) (b : List UInt8) (hv : Rd w v b) : Calls Try.prog 11 #[.pointer p, v] w fun e w' => e = .returned (.int .i64 2) ∧ w = w' := by
  obtain ⟨q, c, rfl, l1, l2, _⟩ := hv
  go_enter Try.func11, Try.ntmps11
  go_wp2_with (go_at_call 22; refine (jready_n h _).mono ?_; rintro e w' ⟨rfl, rfl⟩)
  all_goals
    go_ret
    exact ⟨rfl, rfl⟩
theorem discard_n (h : NoD w p) (n : ByteArray) : Calls Try.prog 18 #[.pointer p, .string n] w fun e w' => e = .returned (.int .i64 2) ∧ Below w.heap.size w w' := by
  go_enter Try.func18, Try.ntmps18
  go_wp2_with (go_at_call 19; refine (read_n h n).mono ?_; rintro e w1 ⟨rfl, hb⟩)
  go_ret
  exact ⟨rfl, hb⟩
theorem open_n (h : NoD w p) (v : Value) : Calls Try.prog 6 #[.pointer p, v] w fun e w' => e = .returned (.tuple #[.pointer none, .int .i64 2]) ∧ Below w.heap.size w w' := by
  go_enter Try.func6, Try.ntmps6
  go_wp2_with (go_at_call 18; refine (discard_n h _).mono ?_; rintro e w1 ⟨rfl, hb⟩)
  exact bodyPost_ret (v := .tuple #[.pointer none, .int .i64 2]) (by simp [results, Try.results6, go_sem]) rfl ⟨rfl, hb⟩
end
end Go.Proofs.Ytopiocnpnamjmaa
