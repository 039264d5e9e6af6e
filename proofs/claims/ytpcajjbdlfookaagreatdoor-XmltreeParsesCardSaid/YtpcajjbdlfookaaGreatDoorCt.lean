/- The reference's Decode, whole; the law's awake. -/
import Derived.Test.YtpcajjbdlfookaaGreatDoorCs
namespace Go.Proofs.YtpcajjbdlfookaaGreatDoor
open Go.RowKit
set_option linter.unusedVariables false

theorem rdecode_c (w : World) (v : Value) (xs : List UInt8) (h : Rd w v xs) :
    Calls Tryz.prog 34 #[v] w fun e w' => e = .returned (.tuple #[.int .i64 (D xs).1, .int .i64 (D xs).2]) ∧ Below w.heap.size w w' := by
  have HR := Lib.hid h
  obtain ⟨p, c, rfl, h1, h2, h3, h4⟩ := h
  unfold maxLen at h2
  by_cases h0 : xs.length = 0
  · obtain rfl : xs = [] := List.eq_nil_of_length_eq_zero h0
    clear h3 h4
    go_enter Tryz.func34, Tryz.ntmps34
    go_wp2
    go_ret2
    exact ⟨rfl, Below.refl _ _⟩
  · obtain ⟨b, o, rfl, hx⟩ := h4 (by omega)
    have hl : 1 ≤ xs.length := by omega
    have hg : ∀ i, i < xs.length → w.cell? ⟨b, o + i, none⟩ = some (.int .u8 (at8 xs i)) := fun i hi => by rw [hx i hi]; simp [at8, List.getD, hi]
    have c0 : w.cell? ⟨b, o, none⟩ = some (.int .u8 (at8 xs 0)) := by have := hg 0 (by omega); simpa using this
    have hlt := at8_lt xs 0
    suffices hs : Calls Tryz.prog 34 #[.slice (some ⟨b, o, none⟩) xs.length c] w (Ends xs w) from hs.mono fun e w' h => h
    have c1 : 2 ≤ xs.length → w.cell? ⟨b, o + 1, none⟩ = some (.int .u8 (at8 xs 1)) := fun h => hg 1 (by omega)
    have c2 : 3 ≤ xs.length → w.cell? ⟨b, o + 1 + 1, none⟩ = some (.int .u8 (at8 xs 2)) := fun h => hg 2 (by omega)
    have c3 : 4 ≤ xs.length → w.cell? ⟨b, o + 1 + 2, none⟩ = some (.int .u8 (at8 xs 3)) := fun h => hg 3 (by omega)
    by_cases a1 : at8 xs 0 < 128
    · exact rd_one HR hl h1 h2 c0 (by omega) a1 (by omega)
    · by_cases a2 : at8 xs 0 < 192
      · exact rd_cont HR hl h1 h2 c0 (by omega) a2 (by omega)
      · by_cases a3 : at8 xs 0 < 224
        · by_cases s : xs.length < 2
          · exact rd_2_short HR hl h1 h2 c0 (by omega) a3 s
          · by_cases b1 : at8 xs 1 < 128 ∨ 192 ≤ at8 xs 1
            · exact rd_2_bad1 HR hl h1 h2 c0 (by omega) a3 (by omega) (c1 (by omega)) b1
            · by_cases q : 128 ≤ (at8 xs 0 - 192) * 64 + (at8 xs 1 - 128)
              · exact rd_2_yes HR hl h1 h2 c0 (by omega) a3 (by omega) (c1 (by omega)) (by omega) (by omega) q
              · exact rd_2_no HR hl h1 h2 c0 (by omega) a3 (by omega) (c1 (by omega)) (by omega) (by omega) q
        · by_cases a4 : at8 xs 0 < 240
          · by_cases s : xs.length < 3
            · exact rd_3_short HR hl h1 h2 c0 (by omega) a4 s
            · by_cases b1 : at8 xs 1 < 128 ∨ 192 ≤ at8 xs 1
              · exact rd_3_bad1 HR hl h1 h2 c0 (by omega) a4 (by omega) (c1 (by omega)) (c2 (by omega)) b1
              · by_cases b2 : at8 xs 2 < 128 ∨ 192 ≤ at8 xs 2
                · exact rd_3_bad2 HR hl h1 h2 c0 (by omega) a4 (by omega) (c1 (by omega)) (c2 (by omega)) (by omega) (by omega) b2
                · by_cases q : 2048 ≤ ((at8 xs 0 - 224) * 4096 + (at8 xs 1 - 128) * 64 + (at8 xs 2 - 128)) ∧ (((at8 xs 0 - 224) * 4096 + (at8 xs 1 - 128) * 64 + (at8 xs 2 - 128)) < 55296 ∨ 57344 ≤ ((at8 xs 0 - 224) * 4096 + (at8 xs 1 - 128) * 64 + (at8 xs 2 - 128)))
                  · exact rd_3_yes HR hl h1 h2 c0 (by omega) a4 (by omega) (c1 (by omega)) (c2 (by omega)) (by omega) (by omega) (by omega) (by omega) q
                  · exact rd_3_no HR hl h1 h2 c0 (by omega) a4 (by omega) (c1 (by omega)) (c2 (by omega)) (by omega) (by omega) (by omega) (by omega) q
          · by_cases s : xs.length < 4
            · exact rd_4_short HR hl h1 h2 c0 (by omega) hlt s
            · by_cases b1 : at8 xs 1 < 128 ∨ 192 ≤ at8 xs 1
              · exact rd_4_bad1 HR hl h1 h2 c0 (by omega) hlt (by omega) (c1 (by omega)) (c2 (by omega)) (c3 (by omega)) b1
              · by_cases b2 : at8 xs 2 < 128 ∨ 192 ≤ at8 xs 2
                · exact rd_4_bad2 HR hl h1 h2 c0 (by omega) hlt (by omega) (c1 (by omega)) (c2 (by omega)) (c3 (by omega)) (by omega) (by omega) b2
                · by_cases b3 : at8 xs 3 < 128 ∨ 192 ≤ at8 xs 3
                  · exact rd_4_bad3 HR hl h1 h2 c0 (by omega) hlt (by omega) (c1 (by omega)) (c2 (by omega)) (c3 (by omega)) (by omega) (by omega) (by omega) (by omega) b3
                  · by_cases q : 65536 ≤ ((at8 xs 0 - 240) * 262144 + (at8 xs 1 - 128) * 4096 + (at8 xs 2 - 128) * 64 + (at8 xs 3 - 128)) ∧ ((at8 xs 0 - 240) * 262144 + (at8 xs 1 - 128) * 4096 + (at8 xs 2 - 128) * 64 + (at8 xs 3 - 128)) ≤ 1114111
                    · exact rd_4_yes HR hl h1 h2 c0 (by omega) hlt (by omega) (c1 (by omega)) (c2 (by omega)) (c3 (by omega)) (by omega) (by omega) (by omega) (by omega) (by omega) (by omega) q
                    · exact rd_4_no HR hl h1 h2 c0 (by omega) hlt (by omega) (c1 (by omega)) (c2 (by omega)) (c3 (by omega)) (by omega) (by omega) (by omega) (by omega) (by omega) (by omega) q
end Go.Proofs.YtpcajjbdlfookaaGreatDoor
