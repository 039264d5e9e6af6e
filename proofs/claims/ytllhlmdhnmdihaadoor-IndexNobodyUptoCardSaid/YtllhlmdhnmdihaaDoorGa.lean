/- Items of a model in memory (trees), in blocks that may be; reading a law's argument. -/
import Derived.Test.YtllhlmdhnmdihaaDoorYa
namespace Go.Proofs.YtllhlmdhnmdihaaDoor
open Go Go.RowKit Go.ChangeShapes Go.WideShapes Go.Deep
set_option linter.unusedVariables false

/-- An on-part. -/
structure OT where
  item : ByteArray
  file : ByteArray
  event : Int
/-- A sentry. -/
structure ST where
  on : List OT
  cond : ByteArray
/-- An item. -/
inductive IT where
  | mk (id nm : ByteArray) (kind : Int) (entry exit : List ST) (man req rep : ByteArray) (auto free : Bool) (after : Int) (roles : List ByteArray) (kids table : List IT)
namespace IT
def id : IT → ByteArray | .mk a _ _ _ _ _ _ _ _ _ _ _ _ _ => a
def nm : IT → ByteArray | .mk _ a _ _ _ _ _ _ _ _ _ _ _ _ => a
def kind : IT → Int | .mk _ _ a _ _ _ _ _ _ _ _ _ _ _ => a
def entry : IT → List ST | .mk _ _ _ a _ _ _ _ _ _ _ _ _ _ => a
def exit : IT → List ST | .mk _ _ _ _ a _ _ _ _ _ _ _ _ _ => a
def man : IT → ByteArray | .mk _ _ _ _ _ a _ _ _ _ _ _ _ _ => a
def req : IT → ByteArray | .mk _ _ _ _ _ _ a _ _ _ _ _ _ _ => a
def rep : IT → ByteArray | .mk _ _ _ _ _ _ _ a _ _ _ _ _ _ => a
def auto : IT → Bool | .mk _ _ _ _ _ _ _ _ a _ _ _ _ _ => a
def free : IT → Bool | .mk _ _ _ _ _ _ _ _ _ a _ _ _ _ => a
def after : IT → Int | .mk _ _ _ _ _ _ _ _ _ _ a _ _ _ => a
def roles : IT → List ByteArray | .mk _ _ _ _ _ _ _ _ _ _ _ a _ _ => a
def kids : IT → List IT | .mk _ _ _ _ _ _ _ _ _ _ _ _ a _ => a
def table : IT → List IT | .mk _ _ _ _ _ _ _ _ _ _ _ _ _ a => a
end IT

/-- A slice of n elements of so many cells, as it reads, in a block that may be. -/
def RdN (S : Nat → Prop) (w : World) (v : Value) (n size : Nat) (cs : List Value) : Prop :=
  cs.length = n * size ∧ (∀ u ∈ cs, u.oneCell' = true) ∧ ∃ a c, v = .slice a n c ∧ n ≤ c ∧ c ≤ maxLen ∧ (a = none → c = 0) ∧
    (0 < n → ∃ b o, a = some ⟨b, o, none⟩ ∧ S b ∧ b < w.heap.size ∧ ∀ j u, cs[j]? = some u → w.cell? ⟨b, o + j, none⟩ = some u)
theorem RdN.nil (S : Nat → Prop) (w : World) (size : Nat) : RdN S w (.slice none 0 0) 0 size [] := ⟨by simp, by simp, none, 0, rfl, Nat.le_refl _, by unfold maxLen; omega, by simp, by simp⟩
theorem RdN.keep {S : Nat → Prop} {w w' : World} {v : Value} {n size : Nat} {cs : List Value} (h : RdN S w v n size cs) (hs : w.heap.size ≤ w'.heap.size) (hk : ∀ k, S k → k < w.heap.size → w'.heap[k]? = w.heap[k]?) : RdN S w' v n size cs := by
  obtain ⟨h1, h2, a, c, h3, h4, h5, h6, h7⟩ := h
  refine ⟨h1, h2, a, c, h3, h4, h5, h6, fun hp => ?_⟩
  obtain ⟨b, o, ha, hS, hlt, hx⟩ := h7 hp
  refine ⟨b, o, ha, hS, Nat.lt_of_lt_of_le hlt hs, fun j u hu => ?_⟩
  rw [← hx j u hu]
  simp [World.cell?, hk b hS hlt]
theorem RdN.mono {S S' : Nat → Prop} {w : World} {v : Value} {n size : Nat} {cs : List Value} (h : RdN S w v n size cs) (hm : ∀ k, k < w.heap.size → S k → S' k) : RdN S' w v n size cs := by
  obtain ⟨h1, h2, a, c, h3, h4, h5, h6, h7⟩ := h
  refine ⟨h1, h2, a, c, h3, h4, h5, h6, fun hp => ?_⟩
  obtain ⟨b, o, ha, hS, hlt, hx⟩ := h7 hp
  exact ⟨b, o, ha, hm b hlt hS, hlt, hx⟩
theorem RdN.form {S : Nat → Prop} {w : World} {v : Value} {n size : Nat} {cs : List Value} (h : RdN S w v n size cs) : ∃ a c, v = .slice a n c ∧ n ≤ c ∧ c ≤ maxLen ∧ (a = none → c = 0) := by
  obtain ⟨_, _, a, c, h3, h4, h5, h6, _⟩ := h
  exact ⟨a, c, h3, h4, h5, h6⟩
/-- The cells of such a slice, where it is not empty. -/
theorem RdN.at {S : Nat → Prop} {w : World} {a : Option Addr} {c n size : Nat} {cs : List Value} (h : RdN S w (.slice a n c) n size cs) (hn : 0 < n) : ∃ b o, a = some ⟨b, o, none⟩ ∧ S b ∧ b < w.heap.size ∧ ∀ j u, cs[j]? = some u → w.cell? ⟨b, o + j, none⟩ = some u := by
  obtain ⟨_, _, a', c', h3, h4, h5, h6, h7⟩ := h
  simp only [Value.slice.injEq, true_and] at h3
  obtain ⟨rfl, rfl⟩ := h3
  exact h7 hn
/-- Such a slice as what an append takes. -/
theorem RdN.src {P : Program} {t e' : TypeId} (hk : P.underlying t = some (.slice e')) {S : Nat → Prop} {w : World} {v : Value} {n size : Nat} {cs : List Value} (h : RdN S w v n size cs) (hn : 0 < n) : Src P size t v n cs w := by
  obtain ⟨h1, h2, a, c, rfl, h4, h5, h6, h7⟩ := h
  obtain ⟨b, o, rfl, hS, hlt, hx⟩ := h7 hn
  refine Src.ofSlice w hk ⟨b, o, none⟩ n c cs h1 (fun j u hu => ?_) h2
  rw [Addr.add_lit]
  exact hx j u hu

def onCells (l : List OT) : List Value := l.flatMap fun o => [.string o.item, .string o.file, .int .i64 o.event]
def sentCells (ps : List (Value × ST)) : List Value := ps.flatMap fun p => [p.1, .string p.2.cond]
def OnsD (S : Nat → Prop) (w : World) (v : Value) (l : List OT) : Prop := RdN S w v l.length 3 (onCells l) ∧ l.length * 40 ≤ 140737488355328
def SentsD (S : Nat → Prop) (w : World) (v : Value) (l : List ST) : Prop := ∃ ps : List (Value × ST), ps.map (·.2) = l ∧ RdN S w v ps.length 2 (sentCells ps) ∧ ps.length * 40 ≤ 140737488355328 ∧ ∀ p ∈ ps, OnsD S w p.1 p.2.on
def TextsD (S : Nat → Prop) (w : World) (v : Value) (l : List ByteArray) : Prop := RdN S w v l.length 1 (tcells l) ∧ l.length * 16 ≤ 140737488355328
def item14 (x : IT) (ev xv rv kv tv : Value) : List Value := [.string x.id, .string x.nm, .int .i64 x.kind, ev, xv, .string x.man, .string x.req, .string x.rep, .bool x.auto, .bool x.free, .int .i64 x.after, rv, kv, tv]
/-- Its texts and numbers may be. -/
structure OkT (x : IT) : Prop where
  id : x.id.size ≤ 9223372036854775807
  nm : x.nm.size ≤ 9223372036854775807
  kind : -9223372036854775808 ≤ x.kind ∧ x.kind ≤ 9223372036854775807
  man : x.man.size ≤ 9223372036854775807
  req : x.req.size ≤ 9223372036854775807
  rep : x.rep.size ≤ 9223372036854775807
  after : -9223372036854775808 ≤ x.after ∧ x.after ≤ 9223372036854775807
/-- Items, so many levels deep at most. -/
def ItemsD (S : Nat → Prop) (w : World) : Nat → Value → List IT → Prop
  | 0, _, _ => False
  | d + 1, v, l => ∃ ps : List (List Value × IT), ps.map (·.2) = l ∧ RdN S w v ps.length 14 (ps.flatMap (·.1)) ∧ ps.length * 224 ≤ 140737488355328 ∧ ∀ p ∈ ps, OkT p.2 ∧ ∃ ev xv rv kv tv, p.1 = item14 p.2 ev xv rv kv tv ∧
      SentsD S w ev p.2.entry ∧ SentsD S w xv p.2.exit ∧ TextsD S w rv p.2.roles ∧ ItemsD S w d kv p.2.kids ∧ ItemsD S w d tv p.2.table
/-- An item given by value. -/
def ItemV (S : Nat → Prop) (w : World) (d : Nat) (cs : List Value) (x : IT) : Prop := OkT x ∧ ∃ ev xv rv kv tv, cs = item14 x ev xv rv kv tv ∧
      SentsD S w ev x.entry ∧ SentsD S w xv x.exit ∧ TextsD S w rv x.roles ∧ ItemsD S w d kv x.kids ∧ ItemsD S w d tv x.table

theorem OnsD.keep {S : Nat → Prop} {w w' : World} {v : Value} {l : List OT} (h : OnsD S w v l) (hs : w.heap.size ≤ w'.heap.size) (hk : ∀ k, S k → k < w.heap.size → w'.heap[k]? = w.heap[k]?) : OnsD S w' v l := ⟨h.1.keep hs hk, h.2⟩
theorem TextsD.keep {S : Nat → Prop} {w w' : World} {v : Value} {l : List ByteArray} (h : TextsD S w v l) (hs : w.heap.size ≤ w'.heap.size) (hk : ∀ k, S k → k < w.heap.size → w'.heap[k]? = w.heap[k]?) : TextsD S w' v l := ⟨h.1.keep hs hk, h.2⟩
theorem SentsD.keep {S : Nat → Prop} {w w' : World} {v : Value} {l : List ST} (h : SentsD S w v l) (hs : w.heap.size ≤ w'.heap.size) (hk : ∀ k, S k → k < w.heap.size → w'.heap[k]? = w.heap[k]?) : SentsD S w' v l := by
  obtain ⟨ps, h1, h2, h3, h4⟩ := h
  exact ⟨ps, h1, h2.keep hs hk, h3, fun p hp => (h4 p hp).keep hs hk⟩
theorem ItemsD.keep {S : Nat → Prop} {w w' : World} (hs : w.heap.size ≤ w'.heap.size) (hk : ∀ k, S k → k < w.heap.size → w'.heap[k]? = w.heap[k]?) : ∀ {d : Nat} {v : Value} {l : List IT}, ItemsD S w d v l → ItemsD S w' d v l
  | 0, _, _, h => h
  | d + 1, v, l, h => by
    obtain ⟨ps, h1, h2, h3, h4⟩ := h
    refine ⟨ps, h1, h2.keep hs hk, h3, fun p hp => ?_⟩
    obtain ⟨ho, ev, xv, rv, kv, tv, e, k1, k2, k3, k4, k5⟩ := h4 p hp
    exact ⟨ho, ev, xv, rv, kv, tv, e, k1.keep hs hk, k2.keep hs hk, k3.keep hs hk, k4.keep hs hk, k5.keep hs hk⟩
theorem ItemV.keep {S : Nat → Prop} {w w' : World} {d : Nat} {cs : List Value} {x : IT} (h : ItemV S w d cs x) (hs : w.heap.size ≤ w'.heap.size) (hk : ∀ k, S k → k < w.heap.size → w'.heap[k]? = w.heap[k]?) : ItemV S w' d cs x := by
  obtain ⟨ho, ev, xv, rv, kv, tv, e, k1, k2, k3, k4, k5⟩ := h
  exact ⟨ho, ev, xv, rv, kv, tv, e, k1.keep hs hk, k2.keep hs hk, k3.keep hs hk, k4.keep hs hk, k5.keep hs hk⟩
theorem OnsD.mono {S S' : Nat → Prop} {w : World} {v : Value} {l : List OT} (h : OnsD S w v l) (hm : ∀ k, k < w.heap.size → S k → S' k) : OnsD S' w v l := ⟨h.1.mono hm, h.2⟩
theorem TextsD.mono {S S' : Nat → Prop} {w : World} {v : Value} {l : List ByteArray} (h : TextsD S w v l) (hm : ∀ k, k < w.heap.size → S k → S' k) : TextsD S' w v l := ⟨h.1.mono hm, h.2⟩
theorem SentsD.mono {S S' : Nat → Prop} {w : World} {v : Value} {l : List ST} (h : SentsD S w v l) (hm : ∀ k, k < w.heap.size → S k → S' k) : SentsD S' w v l := by
  obtain ⟨ps, h1, h2, h3, h4⟩ := h
  exact ⟨ps, h1, h2.mono hm, h3, fun p hp => (h4 p hp).mono hm⟩
theorem ItemsD.mono {S S' : Nat → Prop} {w : World} (hm : ∀ k, k < w.heap.size → S k → S' k) : ∀ {d : Nat} {v : Value} {l : List IT}, ItemsD S w d v l → ItemsD S' w d v l
  | 0, _, _, h => h
  | d + 1, v, l, h => by
    obtain ⟨ps, h1, h2, h3, h4⟩ := h
    refine ⟨ps, h1, h2.mono hm, h3, fun p hp => ?_⟩
    obtain ⟨ho, ev, xv, rv, kv, tv, e, k1, k2, k3, k4, k5⟩ := h4 p hp
    exact ⟨ho, ev, xv, rv, kv, tv, e, k1.mono hm, k2.mono hm, k3.mono hm, k4.mono hm, k5.mono hm⟩
theorem ItemV.mono {S S' : Nat → Prop} {w : World} {d : Nat} {cs : List Value} {x : IT} (h : ItemV S w d cs x) (hm : ∀ k, k < w.heap.size → S k → S' k) : ItemV S' w d cs x := by
  obtain ⟨ho, ev, xv, rv, kv, tv, e, k1, k2, k3, k4, k5⟩ := h
  exact ⟨ho, ev, xv, rv, kv, tv, e, k1.mono hm, k2.mono hm, k3.mono hm, k4.mono hm, k5.mono hm⟩
theorem ItemsD.up {S : Nat → Prop} {w : World} : ∀ {d : Nat} {v : Value} {l : List IT}, ItemsD S w d v l → ItemsD S w (d + 1) v l
  | 0, _, _, h => h.elim
  | d + 1, v, l, h => by
    obtain ⟨ps, h1, h2, h3, h4⟩ := h
    refine ⟨ps, h1, h2, h3, fun p hp => ?_⟩
    obtain ⟨ho, ev, xv, rv, kv, tv, e, k1, k2, k3, k4, k5⟩ := h4 p hp
    exact ⟨ho, ev, xv, rv, kv, tv, e, k1, k2, k3, ItemsD.up k4, ItemsD.up k5⟩
theorem ItemsD.ups {S : Nat → Prop} {w : World} {v : Value} {l : List IT} {d : Nat} (h : ItemsD S w d v l) : ∀ m, ItemsD S w (d + m) v l
  | 0 => h
  | m + 1 => (ItemsD.ups h m).up
theorem ItemsD.le {S : Nat → Prop} {w : World} {v : Value} {l : List IT} {d e : Nat} (h : ItemsD S w d v l) (hle : d ≤ e) : ItemsD S w e v l := by
  have := h.ups (e - d)
  rwa [show d + (e - d) = e by omega] at this
theorem ItemsD.nil (S : Nat → Prop) (w : World) (d : Nat) : ItemsD S w (d + 1) (.slice none 0 0) [] := ⟨[], rfl, RdN.nil S w 14, by simp, by simp⟩
theorem SentsD.nil (S : Nat → Prop) (w : World) : SentsD S w (.slice none 0 0) [] := ⟨[], rfl, RdN.nil S w 2, by simp, by simp⟩
theorem TextsD.nil (S : Nat → Prop) (w : World) : TextsD S w (.slice none 0 0) [] := ⟨RdN.nil S w 1, by simp⟩
theorem SentsD.form {S : Nat → Prop} {w : World} {v : Value} {l : List ST} (h : SentsD S w v l) : ∃ a c, v = .slice a l.length c ∧ l.length ≤ c ∧ c ≤ maxLen ∧ (a = none → c = 0) := by
  obtain ⟨ps, rfl, h2, _, _⟩ := h
  simpa using h2.form
theorem TextsD.form {S : Nat → Prop} {w : World} {v : Value} {l : List ByteArray} (h : TextsD S w v l) : ∃ a c, v = .slice a l.length c ∧ l.length ≤ c ∧ c ≤ maxLen ∧ (a = none → c = 0) := h.1.form
theorem ItemsD.form {S : Nat → Prop} {w : World} : ∀ {d : Nat} {v : Value} {l : List IT}, ItemsD S w d v l → ∃ a c, v = .slice a l.length c ∧ l.length ≤ c ∧ c ≤ maxLen ∧ (a = none → c = 0)
  | 0, _, _, h => h.elim
  | d + 1, v, l, h => by
    obtain ⟨ps, rfl, h2, _, _⟩ := h
    simpa using h2.form

/-- The cells of an element in a row of elements of one size. -/
theorem flat_len {α : Type} {f : α → List Value} {m : Nat} : ∀ {l : List α}, (∀ x ∈ l, (f x).length = m) → (l.flatMap f).length = l.length * m
  | [], _ => by simp
  | x :: t, h => by
    rw [List.flatMap_cons, List.length_append, h x (by simp), flat_len (fun y hy => h y (by simp [hy])), List.length_cons, Nat.succ_mul]
    omega
theorem flat_at {α : Type} {f : α → List Value} {m : Nat} : ∀ {l : List α}, (∀ x ∈ l, (f x).length = m) → ∀ (k : Nat) (hk : k < l.length) (j : Nat), j < m → (l.flatMap f)[k * m + j]? = (f l[k])[j]?
  | [], _, k, hk, _, _ => by simp at hk
  | x :: t, h, 0, _, j, hj => by
    rw [List.flatMap_cons, Nat.zero_mul, Nat.zero_add, List.getElem?_append_left (by rw [h x (by simp)]; exact hj)]
    rfl
  | x :: t, h, k + 1, hk, j, hj => by
    rw [List.flatMap_cons, List.getElem?_append_right (by rw [h x (by simp), Nat.succ_mul]; omega), h x (by simp)]
    rw [show (k + 1) * m + j - m = k * m + j by rw [Nat.succ_mul]; omega]
    exact flat_at (fun y hy => h y (by simp [hy])) k (by simpa using hk) j hj
end Go.Proofs.YtllhlmdhnmdihaaDoor
