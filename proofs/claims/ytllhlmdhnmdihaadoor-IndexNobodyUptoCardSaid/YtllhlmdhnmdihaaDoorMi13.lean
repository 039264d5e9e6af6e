/- strings.SplitSeq at a dot, as an iterator. -/
import Derived.Test.YtllhlmdhnmdihaaDoorMi12
import Derived.Test.YtllhlmdhnmdihaaDoorMi10
import Derived.Test.YtllhlmdhnmdihaaDoorMi11
import Derived.Shelf.Abstract
import Derived.Shelf.RegionOpen
import Derived.WalkKit
import Derived.OwnWalkIn
import Derived.TacticsInMore
import Derived.LoopNIn
import Derived.LoopIn
import Derived.Test.YtllhlmdhnmdihaaDoorMi01
namespace Go.Proofs.YtllhlmdhnmdihaaDoor.P
open Go Go.RowKit Go.Shelf
set_option linter.unusedVariables false

attribute [local go_sem] Oper.semAt_some

theorem idx_cases (c : UInt8) (l : List UInt8) : (Lib.indexByte l c = -1 ∧ c ∉ l) ∨ ∃ k : Nat, Lib.indexByte l c = (k : Int) ∧ k < l.length ∧ c ∉ l.take k ∧ l = l.take k ++ c :: l.drop (k + 1) := by
  induction l with
  | nil => exact .inl ⟨rfl, by simp⟩
  | cons a r ih =>
    unfold Lib.indexByte
    by_cases h : a = c
    · subst h
      exact .inr ⟨0, by simp, by simp, by simp, by simp⟩
    · rw [if_neg (by simpa using h)]
      rcases ih with ⟨h1, h2⟩ | ⟨k, h1, h2, h3, h4⟩
      · exact .inl ⟨by rw [h1]; simp, by simp only [List.mem_cons, not_or]; exact ⟨fun e => h e.symm, h2⟩⟩
      · refine .inr ⟨k + 1, ?_, by simpa using h2, ?_, ?_⟩
        · rw [h1, if_neg (by simp)]; rfl
        · simp only [List.take_succ_cons, List.mem_cons, not_or]; exact ⟨fun e => h e.symm, h3⟩
        · simp only [List.take_succ_cons, List.drop_succ_cons, List.cons_append, ← h4]

theorem cutTo (s : ByteArray) (z : Nat) : s.extract 0 z = ⟨(s.data.toList.take z).toArray⟩ := by
  apply ByteArray.ext
  rw [ByteArray.data_extract]
  apply Array.toList_inj.1
  rw [Array.toList_extract, List.extract_eq_take_drop]
  simp
theorem cutFrom (s : ByteArray) (k : Nat) : s.extract k s.size = ⟨(s.data.toList.drop k).toArray⟩ := by
  apply ByteArray.ext
  rw [ByteArray.data_extract]
  apply Array.toList_inj.1
  rw [Array.toList_extract, List.extract_eq_take_drop]
  show _ = s.data.toList.drop k
  rw [List.take_of_length_le (by rw [List.length_drop, Array.length_toList]; exact Nat.le_refl _)]

set_option maxRecDepth 100000 in
theorem index_c (s : ByteArray) (c : UInt8) (w : World) : Calls Tryd.prog 78 #[.string s, .string ⟨#[c]⟩] w fun e w' => e = .returned (.int .i64 (Lib.indexByte s.data.toList c)) ∧ w = w' := by
  go_enter Tryd.func78, Tryd.ntmps78
  go_wp2_with (go_at_call 83; refine (Tryd.stringslite_Index_one _ _ _).mono ?_; rintro e w' ⟨rfl, rfl⟩)
  go_ret
  exact ⟨rfl, rfl⟩

/-- The three boxes of the closure. -/
def tri (a b c : Nat) : Nat → Prop := fun k => k = a ∨ k = b ∨ k = c

def left (B : Nat) (w : World) : Nat := match w.cell? ⟨B, 0, none⟩ with
  | some (.string s) => s.size
  | _ => 0
theorem left_of {B : Nat} {w : World} {s : ByteArray} (h : Boxed w B 9 (.string s)) : left B w = s.size := by unfold left; rw [h.cell]

set_option maxRecDepth 100000 in
set_option maxHeartbeats 2000000 in
theorem split1_in (n : Nat) (hn : 1 ≤ n) (l Bp Bs Bv : Nat) (hps : Bp ≠ Bs) (hvs : Bv ≠ Bs) (doc : ByteArray) (hdoc : doc.size ≤ 140737488355328) (J Jx : List (List UInt8) → World → Prop) (hJ : Abides (tri Bp Bs Bv) J)
    (hY : ∀ pre x W1, J pre W1 → (pre ++ [x]) <+: splitD doc.data.toList → YieldAt Fence.wide (n - 1) Tryd.prog l #[.string ⟨x.toArray⟩] W1 fun e W' =>
      (e = .returned (.bool true) ∧ J (pre ++ [x]) W' ∧ Keeps (tri Bp Bs Bv) W1 W') ∨ (e = .returned (.bool false) ∧ Jx (pre ++ [x]) W' ∧ Keeps (tri Bp Bs Bv) W1 W'))
    (W : World) (hp : Boxed W Bp 9 (.string ⟨#[46]⟩)) (hs : Boxed W Bs 9 (.string doc)) (hv : Boxed W Bv 3 (.int .i64 0)) (h0 : J [] W) :
    CallsIn Fence.wide n Tryd.prog 76 #[.func (.yield l) #[] #[], .pointer (some ⟨Bp, 0, none⟩), .pointer (some ⟨Bs, 0, none⟩), .pointer (some ⟨Bv, 0, none⟩)] W fun e W' =>
      (∃ v, e = .returned v) ∧ ((∃ xs, xs = splitD doc.data.toList ∧ J xs W') ∨ (∃ pre, pre <+: splitD doc.data.toList ∧ Jx pre W')) := by
  have HY := Lib.hid hY
  have HJ := Lib.hid hJ
  clear hY hJ
  obtain ⟨L, hL⟩ : ∃ L, L = splitD doc.data.toList := ⟨_, rfl⟩
  have HL := Lib.hid hL
  have hcp := hp.cell
  refine callsIn_of_wp Tryd.func76 rfl trivial ?_ rfl
  simp only [Tryd.ntmps76, List.size_toArray, List.length_cons, List.length_nil, Nat.reduceAdd, Nat.reduceSub, Array.replicate_succ, Array.replicate_zero, List.push_toArray, List.append_toArray, List.nil_append, List.cons_append]
  rw [← hL]
  gi_wp2
  clear hcp hL
  gi_loopw [7] (fun _ wr => ∃ (pre : List (List UInt8)) (r : ByteArray), L = pre ++ splitD r.data.toList ∧ r.size ≤ doc.size ∧ Boxed wr Bp 9 (.string ⟨#[46]⟩) ∧ Boxed wr Bs 9 (.string r) ∧ Boxed wr Bv 3 (.int .i64 0) ∧ J pre wr)
    (fun _ wr => left Bs wr)
  case atStart => exact ⟨[], doc, HL.out, Nat.le_refl _, hp, hs, hv, h0⟩
  case round =>
    obtain ⟨pre, r, hl, hrd, hp', hs', hv', hj⟩ := hrel
    have HRD := Lib.hid hrd
    have hcp := hp'.cell
    have hcs := hs'.cell
    have hcv := hv'.cell
    have hfs := hs'.frozen
    have HB := Lib.hid (And.intro hp' (And.intro hs' hv'))
    have HMe := Lib.hid (left_of hs')
    have hself : (⟨r.data.toList.toArray⟩ : ByteArray) = r := rfl
    have hrl : r.data.toList.length = r.size := Array.length_toList
    rcases idx_cases 46 r.data.toList with ⟨hi, hnot⟩ | ⟨k, hi, hk, hnot, hcut⟩
    · have HS := Lib.hid (splitD_last _ hnot)
      have HC := Lib.hid (fun w => index_c r 46 w)
      rw [hi] at HC
      obtain ⟨fn, tmps, assign, body, hy, hR⟩ := HY.out pre r.data.toList wr hj (by rw [← HL.out, hl, HS.out]; exact List.prefix_rfl)
      have HLL := Lib.hid (show L = pre ++ [r.data.toList] from by rw [hl, HS.out])
      have HR := Lib.hid hR
      clear hl hi hnot hp' hs' hv' hR hrd hrl
      rw [hself] at hy
      clear hself
      gi_wp2_with (refine ⟨trivial, ?_⟩; gi_at_call 78; refine (callsIn_wide.2 (HC.out _)).mono ?_; rintro e w' ⟨rfl, rfl⟩)
      refine HR.out.mono ?_
      rintro e W3 (⟨rfl, hJ3, hk3⟩ | ⟨rfl, hJx3, hk3⟩)
      · gi_wp2
        go_end0
        exact ⟨⟨_, rfl⟩, .inl ⟨_, HLL.out.symm, hJ3⟩⟩
      · gi_wp2
        go_end0
        exact ⟨⟨_, rfl⟩, .inr ⟨_, by rw [HLL.out]; exact List.prefix_rfl, hJx3⟩⟩
    · have HC := Lib.hid (fun w => index_c r 46 w)
      rw [hi] at HC
      have hk1 : k + 1 ≤ r.size := by omega
      have hk0 : k ≤ r.size := by omega
      have hbig : r.size ≤ 140737488355328 := Nat.le_trans HRD.out hdoc
      have hsp : splitD r.data.toList = r.data.toList.take k :: splitD (r.data.toList.drop (k + 1)) := by
        conv => lhs; rw [hcut]
        exact splitD_dot _ _ hnot
      have HLL := Lib.hid (show L = (pre ++ [r.data.toList.take k]) ++ splitD (r.extract (k + 1) r.size).data.toList from by rw [hl, hsp, cutFrom]; simp)
      obtain ⟨fn, tmps, assign, body, hy, hR⟩ := HY.out pre (r.data.toList.take k) wr hj (by rw [← HL.out, HLL.out]; exact List.prefix_append _ _)
      have HR := Lib.hid hR
      rw [← cutTo] at hy
      have HSZ := Lib.hid (show (r.extract (k + 1) r.size).size + (k + 1) = r.size from by rw [ByteArray.size_extract]; omega)
      clear hl hi hnot hp' hs' hv' hR hrd hrl hself hcut hsp hk hj
      gi_wp2_with (refine ⟨trivial, ?_⟩; gi_at_call 78; refine (callsIn_wide.2 (HC.out _)).mono ?_; rintro e w' ⟨rfl, rfl⟩)
      clear hy
      refine HR.out.mono ?_
      rintro e W3 (⟨rfl, hJ3, hk3⟩ | ⟨rfl, hJx3, hk3⟩)
      · have hp3 : Boxed W3 Bp 9 (.string ⟨#[46]⟩) := (hk3.same Bp (.inl rfl) HB.out.1.lt).trans HB.out.1
        have hs3 : Boxed W3 Bs 9 (.string r) := (hk3.same Bs (.inr (.inl rfl)) HB.out.2.1.lt).trans HB.out.2.1
        have hv3 : Boxed W3 Bv 3 (.int .i64 0) := (hk3.same Bv (.inr (.inr rfl)) HB.out.2.2.lt).trans HB.out.2.2
        have HN := Lib.hid (show Boxed (W3.setCell ⟨Bs, 0, none⟩ (.string (r.extract (k + 1) r.size))) Bp 9 (.string ⟨#[46]⟩) ∧ Boxed (W3.setCell ⟨Bs, 0, none⟩ (.string (r.extract (k + 1) r.size))) Bs 9 (.string (r.extract (k + 1) r.size)) ∧ Boxed (W3.setCell ⟨Bs, 0, none⟩ (.string (r.extract (k + 1) r.size))) Bv 3 (.int .i64 0) from ⟨hp3.other hps _, hs3.set _, hv3.other hvs _⟩)
        have HJN := Lib.hid (HJ.out _ _ _ hJ3 ((Turns.refl _ W3).setCell (p := ⟨Bs, 0, none⟩) (.inr (.inl rfl)) (.string (r.extract (k + 1) r.size))))
        have hcp3 := hp3.cell
        have hcs3 := hs3.cell
        have hfs3 := hs3.frozen
        clear hp3 hs3 hv3 hJ3 hk3 hcp hcs hcv hfs
        gi_wp2
        go_roundw
        case rel => exact ⟨_, _, HLL.out, by have := HSZ.out; have := HRD.out; omega, HN.out.1, HN.out.2.1, HN.out.2.2, HJN.out⟩
        case measure => rw [left_of HN.out.2.1, HMe.out]; have := HSZ.out; omega
      · gi_wp2
        refine bodyPost_ret (results_none rfl _ _ _) rfl ?_
        exact ⟨⟨_, rfl⟩, .inr ⟨_, by rw [HLL.out]; exact List.prefix_append _ _, hJx3⟩⟩

set_option maxRecDepth 100000 in
theorem splitSeq_c (s : ByteArray) (w : World) : Calls Tryd.prog 62 #[.string s, .string ⟨#[46]⟩] w fun e w' =>
    e = .returned (.func (.func 76) #[] #[.pointer (some ⟨w.heap.size + 1, 0, none⟩), .pointer (some ⟨w.heap.size, 0, none⟩), .pointer (some ⟨w.heap.size + 1 + 1, 0, none⟩)]) ∧
    w' = ((w.alloc (.cells #[.string s] 9)).alloc (.cells #[.string ⟨#[46]⟩] 9)).alloc (.cells #[.int .i64 0] 3) := by
  have HC : ∀ w : World, Calls Tryd.prog 70 #[.string s, .string ⟨#[46]⟩, .int .i64 0] w fun e w' =>
    e = .returned (.func (.func 76) #[] #[.pointer (some ⟨w.heap.size + 1, 0, none⟩), .pointer (some ⟨w.heap.size, 0, none⟩), .pointer (some ⟨w.heap.size + 1 + 1, 0, none⟩)]) ∧
    w' = ((w.alloc (.cells #[.string s] 9)).alloc (.cells #[.string ⟨#[46]⟩] 9)).alloc (.cells #[.int .i64 0] 3) := by
    intro w
    go_enter Tryd.func70, Tryd.ntmps70
    go_wp2
    go_ret
    exact ⟨rfl, rfl⟩
  have HC' := Lib.hid HC
  clear HC
  go_enter Tryd.func62, Tryd.ntmps62
  go_wp2_with (go_at_call 70; refine (HC'.out _).mono ?_; rintro e w' ⟨rfl, rfl⟩)
  go_ret
  exact ⟨rfl, rfl⟩

/-- What SplitSeq hands back, as an iterator over the pieces. -/
theorem split_seq (n : Nat) (hn : 1 ≤ n) (Bp Bs Bv : Nat) (hps : Bp ≠ Bs) (hvs : Bv ≠ Bs) (doc : ByteArray) (hdoc : doc.size ≤ 140737488355328) (w : World)
    (hp : Boxed w Bp 9 (.string ⟨#[46]⟩)) (hs : Boxed w Bs 9 (.string doc)) (hv : Boxed w Bv 3 (.int .i64 0)) :
    SeqX Fence.wide n Tryd.prog 76 #[.pointer (some ⟨Bp, 0, none⟩), .pointer (some ⟨Bs, 0, none⟩), .pointer (some ⟨Bv, 0, none⟩)] (fun x : List UInt8 => #[.string ⟨x.toArray⟩])
      (tri Bp Bs Bv) 0 (fun xs => xs = splitD doc.data.toList) (fun pre => pre <+: splitD doc.data.toList) (fun pre x => (pre ++ [x]) <+: splitD doc.data.toList) w := by
  intro l J Jx W hW hJ hJx hY h0
  have t1 : ∀ k, tri Bp Bs Bv k → terr (tri Bp Bs Bv) W.heap.size 0 k := fun k h => .inl h
  refine split1_in n hn l Bp Bs Bv hps hvs doc hdoc (fun pre W' => J pre W' ∧ W.heap.size ≤ W'.heap.size) Jx ?_ ?_ W ((hW.block _ hp.lt).trans hp) ((hW.block _ hs.lt).trans hs) ((hW.block _ hv.lt).trans hv) ⟨h0, Nat.le_refl _⟩ |>.mono ?_
  · exact fun s A B hj ht => ⟨hJ s A B hj.1 (ht.mono t1), Nat.le_trans hj.2 ht.size⟩
  · intro pre x W1 hj hlen
    refine (hY pre x W1 hj.1 (by have := hj.2; omega) hlen).mono ?_
    rintro e W' (⟨he, h1, h2⟩ | ⟨he, h1, h2⟩)
    · exact .inl ⟨he, ⟨h1, Nat.le_trans hj.2 h2.size⟩, h2.mono t1⟩
    · exact .inr ⟨he, h1, h2.mono t1⟩
  · rintro e W' ⟨hv, h | h⟩
    · obtain ⟨xs, h1, h2, _⟩ := h
      exact ⟨hv, .inl ⟨xs, h1, h2⟩⟩
    · exact ⟨hv, .inr h⟩
end Go.Proofs.YtllhlmdhnmdihaaDoor.P

/- shape: a part of an instance's path; the parts as an iterator; read. -/
namespace Go.Proofs.YtllhlmdhnmdihaaDoor.P
open Go Go.RowKit Go.Shelf
set_option linter.unusedVariables false

theorem below_drewN {B : Nat} {a w : World} (h : Below B a w) (n : Nat) : Below B a (w.drewN n) := ⟨h.os, h.tape, h.output, h.size, h.block⟩
theorem cutH_le (l : List UInt8) : (cutH l).1.length ≤ l.length ∧ (cutH l).2.length ≤ l.length := by
  induction l with
  | nil => simp [cutH]
  | cons c r ih =>
    unfold cutH
    split
    · simp
    · simp only [List.length_cons]; omega

set_option maxRecDepth 100000 in
theorem cut1_c (s : ByteArray) (hs : s.size ≤ 140737488355328) (w : World) : Calls Tryd.prog 79 #[.string s, .string ⟨#[35]⟩] w fun e w' =>
    e = .returned (.tuple #[.string ⟨(cutH s.data.toList).1.toArray⟩, .string ⟨(cutH s.data.toList).2.toArray⟩, .bool (decide (35 ∈ s.data.toList))]) ∧ ∃ q, w' = w.drewN q := by
  have hrl : s.data.toList.length = s.size := Array.length_toList
  rcases idx_cases 35 s.data.toList with ⟨hi, hnot⟩ | ⟨k, hi, hk, hnot, hcut⟩
  · have HC := Lib.hid (fun w => Tryd.stringslite_Index_one s 35 w)
    rw [hi] at HC
    have HH := Lib.hid (cutH_none _ hnot)
    have HD := Lib.hid (show decide ((35 : UInt8) ∈ s.data.toList) = false from decide_eq_false hnot)
    clear hi hnot hrl
    go_enter Tryd.func79, Tryd.ntmps79
    go_wp2_with (go_at_call 83; refine (HC.out _).mono ?_; rintro e w' ⟨rfl, rfl⟩)
    go_ret3
    exact ⟨by rw [HH.out, HD.out]; rfl, 0, rfl⟩
  · have HC := Lib.hid (fun w => Tryd.stringslite_Index_one s 35 w)
    rw [hi] at HC
    have hh : cutH s.data.toList = (s.data.toList.take k, s.data.toList.drop (k + 1)) := by
      conv => lhs; rw [hcut]
      exact cutH_of _ _ hnot
    have HH := Lib.hid hh
    have HD := Lib.hid (show decide ((35 : UInt8) ∈ s.data.toList) = true from decide_eq_true (by rw [hcut]; simp))
    have hk0 : k ≤ s.size := by omega
    have hk1 : k + 1 ≤ s.size := by omega
    clear hi hnot hrl hcut hk hh
    go_enter Tryd.func79, Tryd.ntmps79
    go_wp2_with (go_at_call 83; refine (HC.out _).mono ?_; rintro e w' ⟨rfl, rfl⟩)
    go_quiet (fail)
    go_wp2_with fail
    go_ret3
    exact ⟨by rw [HH.out, HD.out, ← cutTo, ← cutFrom]; rfl, _, rfl⟩
theorem cut_c (s : ByteArray) (hs : s.size ≤ 140737488355328) (w : World) : Calls Tryd.prog 71 #[.string s, .string ⟨#[35]⟩] w fun e w' =>
    e = .returned (.tuple #[.string ⟨(cutH s.data.toList).1.toArray⟩, .string ⟨(cutH s.data.toList).2.toArray⟩, .bool (decide (35 ∈ s.data.toList))]) ∧ ∃ q, w' = w.drewN q := by
  have HC := fun w => cut1_c s hs w
  generalize (⟨(cutH s.data.toList).1.toArray⟩ : ByteArray) = A at *
  generalize (⟨(cutH s.data.toList).2.toArray⟩ : ByteArray) = D at *
  generalize decide ((35 : UInt8) ∈ s.data.toList) = b at *
  have HC' := Lib.hid HC
  clear HC
  go_enter Tryd.func71, Tryd.ntmps71
  go_wp2_with (go_at_call 79; refine (HC'.out _).mono ?_; rintro e w' ⟨rfl, q, rfl⟩)
  go_ret3
  exact ⟨rfl, _, rfl⟩

/-- A part as it is handed back. -/
def pA : Option PT → Value
  | some p => .agg #[.string ⟨p.1.toArray⟩, .int .i64 p.2]
  | none => .agg #[.string ⟨#[]⟩, .int .i64 0]
def pV (o : Option PT) : Array Value := #[pA o, .bool o.isSome]

set_option maxRecDepth 100000 in
theorem partOf_c (w : World) (s : ByteArray) (hs : s.size ≤ 140737488355328) : Calls Tryd.prog 65 #[.string s] w fun e w' => e = .returned (.tuple (pV (partF s.data.toList))) ∧ Below w.heap.size w w' := by
  have hle := cutH_le s.data.toList
  have hrl : s.data.toList.length = s.size := Array.length_toList
  obtain ⟨A, hA⟩ : ∃ A : ByteArray, A = ⟨(cutH s.data.toList).1.toArray⟩ := ⟨_, rfl⟩
  obtain ⟨D, hD⟩ : ∃ D : ByteArray, D = ⟨(cutH s.data.toList).2.toArray⟩ := ⟨_, rfl⟩
  have hA1 : A.data.toList = (cutH s.data.toList).1 := by rw [hA]
  have hD1 : D.data.toList = (cutH s.data.toList).2 := by rw [hD]
  have hAs : A.size ≤ s.size := by rw [← size_list A, hA1]; omega
  have hDs : D.size ≤ s.size := by rw [← size_list D, hD1]; omega
  have HC := fun w => cut_c s hs w
  have HN := fun w => sname_c w A (by omega)
  have HM := fun w => number_c w D (by omega)
  unfold tb at HM
  rw [← hA, ← hD] at HC
  rw [hA1] at HN
  rw [hD1] at HM
  obtain ⟨fnd, hf⟩ : ∃ b, decide ((35 : UInt8) ∈ s.data.toList) = b := ⟨_, rfl⟩
  rw [hf] at HC
  obtain ⟨nm, hn⟩ : ∃ b, nameOk (cutH s.data.toList).1 = b := ⟨_, rfl⟩
  obtain ⟨v, hv⟩ : ∃ v, num (cutH s.data.toList).2 = v := ⟨_, rfl⟩
  rw [hn] at HN
  rw [hv] at HM
  obtain ⟨n, er⟩ := v
  have HP := Lib.hid (show partF s.data.toList = if nm = true ∧ er = 0 ∧ 1 ≤ n then some (A.data.toList, n) else none from by unfold partF; rw [hn, hv, hA1])
  have HC' := Lib.hid HC
  have HN' := Lib.hid HN
  have HM' := Lib.hid HM
  have HSA := Lib.hid (show (⟨A.data.toList.toArray⟩ : ByteArray) = A from rfl)
  clear hle hrl hA hD hA1 hD1 hAs hDs HC HN HM hf hn hv
  cases nm with
  | false =>
    have HR := Lib.hid (show partF s.data.toList = none from by rw [HP.out]; simp)
    go_enter Tryd.func65, Tryd.ntmps65
    go_wp2_with (first
      | (go_at_call 71; refine (HC'.out _).mono ?_; rintro e w' ⟨rfl, q, rfl⟩)
      | (go_at_call 44; refine (HM'.out _).mono ?_; rintro e w' ⟨rfl, rfl⟩)
      | (go_at_call 72; refine (HN'.out _).mono ?_; rintro e w' ⟨rfl, rfl⟩))
    refine bodyPost_ret (v := .tuple (pV none)) (by simp [results, Tryd.results65, go_sem, pV, pA]) rfl ⟨by rw [HR.out], ?_⟩
    exact ((below_drewN ((Below.refl _ _).alloc (Nat.le_refl _) _) _).setCell (Nat.le_refl _) _).setCell (Nat.le_refl _) _
  | true =>
    by_cases he : er = 0
    · subst he
      by_cases h1 : 1 ≤ n
      · have HR := Lib.hid (show partF s.data.toList = some (A.data.toList, n) from by rw [HP.out]; simp [h1])
        go_enter Tryd.func65, Tryd.ntmps65
        go_wp2_with (first
          | (go_at_call 71; refine (HC'.out _).mono ?_; rintro e w' ⟨rfl, q, rfl⟩)
          | (go_at_call 44; refine (HM'.out _).mono ?_; rintro e w' ⟨rfl, rfl⟩)
          | (go_at_call 72; refine (HN'.out _).mono ?_; rintro e w' ⟨rfl, rfl⟩))
        refine bodyPost_ret (v := .tuple (pV (some (A.data.toList, n)))) (by simp [results, Tryd.results65, go_sem, pV, pA]; try rfl) rfl ⟨by rw [HR.out], ?_⟩
        exact ((below_drewN ((Below.refl _ _).alloc (Nat.le_refl _) _) _).setCell (Nat.le_refl _) _).setCell (Nat.le_refl _) _
      · have HR := Lib.hid (show partF s.data.toList = none from by rw [HP.out]; simp [h1])
        go_enter Tryd.func65, Tryd.ntmps65
        go_wp2_with (first
          | (go_at_call 71; refine (HC'.out _).mono ?_; rintro e w' ⟨rfl, q, rfl⟩)
          | (go_at_call 44; refine (HM'.out _).mono ?_; rintro e w' ⟨rfl, rfl⟩)
          | (go_at_call 72; refine (HN'.out _).mono ?_; rintro e w' ⟨rfl, rfl⟩))
        refine bodyPost_ret (v := .tuple (pV none)) (by simp [results, Tryd.results65, go_sem, pV, pA]) rfl ⟨by rw [HR.out], ?_⟩
        exact ((below_drewN ((Below.refl _ _).alloc (Nat.le_refl _) _) _).setCell (Nat.le_refl _) _).setCell (Nat.le_refl _) _
    · have HR := Lib.hid (show partF s.data.toList = none from by rw [HP.out]; simp [he])
      have hne : ((er : Int) == 0) = false := by simpa using he
      have hne' : ((er : Int) != 0) = true := by simpa using he
      clear he
      go_enter Tryd.func65, Tryd.ntmps65
      go_wp2_with (first
          | (go_at_call 71; refine (HC'.out _).mono ?_; rintro e w' ⟨rfl, q, rfl⟩)
          | (go_at_call 44; refine (HM'.out _).mono ?_; rintro e w' ⟨rfl, rfl⟩)
          | (go_at_call 72; refine (HN'.out _).mono ?_; rintro e w' ⟨rfl, rfl⟩))
      refine bodyPost_ret (v := .tuple (pV none)) (by simp [results, Tryd.results65, go_sem, pV, pA]) rfl ⟨by rw [HR.out], ?_⟩
      exact ((below_drewN ((Below.refl _ _).alloc (Nat.le_refl _) _) _).setCell (Nat.le_refl _) _).setCell (Nat.le_refl _) _
end Go.Proofs.YtllhlmdhnmdihaaDoor.P
