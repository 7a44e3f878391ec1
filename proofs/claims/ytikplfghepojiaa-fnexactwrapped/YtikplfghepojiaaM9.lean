/- Contracts of EndOf, KidsOf and TextIn of the specification. Rows of nodes taken from a tree, one by one (mathematics alone): branches, what is put in. A row of tokens of which every list owns its memory: marks in it, set and held. -/
import Derived.Test.YtikplfghepojiaaM8
import Derived.Test.YtikplfghepojiaaM3
import Derived.OwnWalk
namespace Go.Proofs.Ytikplfghepojiaa
open Go.RowKit
set_option linter.unusedVariables false
set_option linter.unusedSimpArgs false

theorem takeWhile_len {α : Type} (p : α → Bool) : ∀ (l : List α) (m : Nat), m ≤ l.length → (∀ k (h : k < l.length), k < m → p l[k] = true) → (∀ h : m < l.length, p l[m] = false) → (l.takeWhile p).length = m
  | [], m, hm, _, _ => by simp at hm; subst hm; rfl
  | x :: l, 0, _, _, h => by
    have := h (by simp)
    simp only [List.getElem_cons_zero] at this
    rw [List.takeWhile_cons, this]
    rfl
  | x :: l, m + 1, hm, h1, h2 => by
    have h0 := h1 0 (by simp) (by omega)
    simp only [List.getElem_cons_zero] at h0
    rw [List.takeWhile_cons, h0]
    simp only [if_true, List.length_cons]
    rw [takeWhile_len p l m (by simpa using hm) (fun k h hk => by have := h1 (k + 1) (by simpa using h) (by omega); simpa using this) (fun h => by have := h2 (by simpa using h); simpa using this)]

/-- Behind all that the node there has. -/
def endN (ts : List Tk) (k : Nat) : Nat := k + 1 + ((ts.drop (k + 1)).takeWhile fun t => decide ((k : Int) ≤ t.kind)).length

theorem endN_is {ts : List Tk} {k e : Nat} (hk : k < e) (he : e ≤ ts.length) (h : ∀ j, k < j → j < e → (k : Int) ≤ parI ts j) (hx : e = ts.length ∨ parI ts e < (k : Int)) : endN ts k = e := by
  unfold endN
  rw [takeWhile_len _ _ (e - (k + 1)) (by rw [List.length_drop]; omega) (fun j hj hlt => ?_) (fun hj => ?_)]
  · omega
  · rw [List.length_drop] at hj
    rw [List.getElem_drop]
    have := h (k + 1 + j) (by omega) (by omega)
    rw [parI_at (by omega)] at this
    exact decide_eq_true this
  · rw [List.length_drop] at hj
    rw [List.getElem_drop]
    have e2 : k + 1 + (e - (k + 1)) = e := by omega
    simp only [e2]
    rcases hx with hx | hx
    · omega
    · rw [parI_at (by omega)] at hx
      exact decide_eq_false (by omega)

theorem endN_le {ts : List Tk} {k : Nat} (h : k < ts.length) : k < endN ts k ∧ endN ts k ≤ ts.length := by
  unfold endN
  have := (List.takeWhile_sublist (fun t : Tk => decide ((k : Int) ≤ t.kind)) (l := ts.drop (k + 1))).length_le
  rw [List.length_drop] at this
  omega

set_option maxHeartbeats 2000000 in
theorem cEndS (a : Option Addr) (cap : Nat) (ts : List Tk) (k : Nat) (w : World) (hR : TkRow w a ts) (hk : k < ts.length) (hn : ts.length ≤ 1048576) :
    Calls Try.prog 43 #[.slice a ts.length cap, .int .i64 (k : Int)] w fun e w' => e = .returned (.int .i64 (endN ts k : Nat)) ∧ w' = w := by
  have HR := hid hR
  obtain ⟨V, hV⟩ : ∃ V, endN ts k = V := ⟨_, rfl⟩
  have HV := hid hV
  rw [hV]
  clear hR hV
  obtain ⟨n, hnn⟩ : ∃ n, ts.length = n := ⟨_, rfl⟩
  have HN := hid hnn
  rw [hnn] at hn hk ⊢
  clear hnn
  go_enter Try.func43, Try.ntmps43
  go_wp2
  go_loop [5] (fun v => ∃ e : Nat, v = .int .i64 (e : Int) ∧ k < e ∧ e ≤ n ∧ Hid (∀ j, k < j → j < e → (k : Int) ≤ parI ts j)) (fun v => n - (intOf v).toNat)
  case atStart => exact ⟨k + 1, by go_num, by omega, by omega, fun j h1 h2 => by omega⟩
  case round =>
    obtain ⟨e, rfl, h1, h2, HA⟩ := hrel
    by_cases hlt : e < n
    · have hes : e < ts.length := by rw [HN.out]; exact hlt
      have hin : (e : Int) < (n : Int) := by omega
      obtain ⟨b, o, rfl, c0, _⟩ := HR.out.kindAt e hes
      by_cases hp : (k : Int) ≤ parI ts e
      · have HA2 := hid (show ∀ j, k < j → j < e + 1 → (k : Int) ≤ parI ts j from fun j g1 g2 => by
          rcases Nat.lt_or_eq_of_le (Nat.le_of_lt_succ g2) with h' | rfl
          · exact HA.out j g1 h'
          · exact hp)
        generalize parI ts e = P at *
        go_wp2
        go_round
        case rel => exact ⟨e + 1, by go_num, by omega, by omega, HA2.out⟩
        case measure => simp [intOf]; omega
      · have HW := hid (show V = e by rw [← HV.out]; exact endN_is h1 (by rw [HN.out]; exact h2) HA.out (.inr (by omega)))
        have hp' : parI ts e < (k : Int) := by omega
        generalize parI ts e = P at *
        go_wp2
        go_ret
        exact ⟨by rw [HW.out]; rfl, rfl⟩
    · have hee : e = n := by omega
      have HW := hid (show V = e by rw [← HV.out]; exact endN_is h1 (by rw [HN.out]; exact h2) HA.out (.inl (by rw [HN.out]; exact hee)))
      subst hee
      go_wp2
      go_ret
      exact ⟨by rw [HW.out]; rfl, rfl⟩

/-- There is such a node, and it is a tree. -/
noncomputable def hasB (ts : List Tk) (x : Int) : Bool := treeB ts && decide (0 ≤ x ∧ x < ts.length)

theorem hasB_t {ts : List Tk} {x : Int} (h : hasB ts x = true) : TreeP ts ∧ ∃ k : Nat, x = k ∧ k < ts.length := by
  unfold hasB at h
  simp only [Bool.and_eq_true, decide_eq_true_eq] at h
  refine ⟨?_, x.toNat, by omega, by omega⟩
  by_cases q : TreeP ts
  · exact q
  · rw [treeB_f q] at h
    cases h.1

theorem hasB_eq {ts : List Tk} {x : Int} {n : Nat} (h : ts.length = n) : hasB ts x = (treeB ts && (decide (0 ≤ x) && decide (x < n))) := by
  unfold hasB
  rw [h, Bool.decide_and]

noncomputable def endI (ts : List Tk) (x : Int) : Int := if hasB ts x = true then (endN ts x.toNat : Int) else -1

set_option maxHeartbeats 2000000 in
theorem cHasS (a : Option Addr) (cap : Nat) (ts : List Tk) (x : Int) (w : World) (hR : TkRow w a ts) (hn : ts.length ≤ 1048576) (hz : TksSz 1048576 ts) :
    Calls Try.prog 52 #[.slice a ts.length cap, .int .i64 x] w fun e w' => e = .returned (.bool (hasB ts x)) ∧ Below w.heap.size w w' := by
  have C := hid (cTreeOkS a cap ts w hR hn hz)
  obtain ⟨n, hnn⟩ : ∃ n, ts.length = n := ⟨_, rfl⟩
  rw [hasB_eq hnn]
  rw [hnn] at C ⊢
  clear hR hz hn hnn
  generalize treeB ts = B at *
  cases B
  · rw [Bool.false_and]
    go_enter Try.func52, Try.ntmps52
    go_wp2_with fail
    refine C.out.mono ?_
    rintro e w1 ⟨rfl, hb1⟩
    have HB1 := hid hb1
    clear hb1
    go_wp2_with fail
    go_ret
    exact ⟨rfl, HB1.out⟩
  · rw [Bool.true_and]
    cases q1 : decide (0 ≤ x)
    · rw [Bool.false_and]
      go_enter Try.func52, Try.ntmps52
      go_wp2_with fail
      refine C.out.mono ?_
      rintro e w1 ⟨rfl, hb1⟩
      have HB1 := hid hb1
      clear hb1
      go_wp2_with fail
      go_ret
      exact ⟨rfl, HB1.out⟩
    · rw [Bool.true_and]
      go_enter Try.func52, Try.ntmps52
      go_wp2_with fail
      refine C.out.mono ?_
      rintro e w1 ⟨rfl, hb1⟩
      have HB1 := hid hb1
      clear hb1
      go_wp2_with fail
      go_ret
      exact ⟨rfl, HB1.out⟩

set_option maxHeartbeats 2000000 in
theorem cEndOfS (a : Option Addr) (cap : Nat) (ts : List Tk) (x : Int) (w : World) (hR : TkRow w a ts) (hn : ts.length ≤ 1048576) (hz : TksSz 1048576 ts) :
    Calls Try.prog 18 #[.slice a ts.length cap, .int .i64 x] w fun e w' => e = .returned (.int .i64 (endI ts x)) ∧ Below w.heap.size w w' := by
  have C := hid (cHasS a cap ts x w hR hn hz)
  have HR := hid hR
  cases q : hasB ts x
  · have e1 : endI ts x = -1 := by unfold endI; rw [q]; rfl
    rw [e1]
    rw [q] at C
    clear hz hR e1
    generalize ts.length = n at *
    go_enter Try.func18, Try.ntmps18
    go_wp2_with fail
    refine C.out.mono ?_
    rintro e w1 ⟨rfl, hb1⟩
    have HB1 := hid hb1
    clear hb1
    go_wp2_with fail
    go_ret
    exact ⟨rfl, HB1.out⟩
  · obtain ⟨_, k, rfl, hk⟩ := hasB_t q
    have e1 : endI ts (k : Int) = (endN ts k : Int) := by unfold endI; rw [q]; rfl
    have CE := hid (fun wx h => cEndS a cap ts k wx h hk hn)
    rw [e1]
    rw [q] at C
    clear hz hR e1 hk
    generalize endN ts k = E at *
    generalize ts.length = n at *
    go_enter Try.func18, Try.ntmps18
    go_wp2_with fail
    refine C.out.mono ?_
    rintro e w1 ⟨rfl, hb1⟩
    have HB1 := hid hb1
    clear hb1
    go_wp2_with fail
    refine (CE.out _ (HR.out.below HB1.out)).mono ?_
    rintro e w2 ⟨rfl, rfl⟩
    go_wp2_with fail
    go_ret
    exact ⟨rfl, HB1.out⟩

end Go.Proofs.Ytikplfghepojiaa

namespace Go.Proofs.Ytikplfghepojiaa
open Go.RowKit
set_option linter.unusedVariables false

/-- The node, with another parent. -/
def shK (k : Int) (t : Tk) : Tk := ⟨k, t.name, t.attrs, t.text⟩

/-- m nodes from k on, each by its place. -/
def segN (f : Nat → Tk → Int) (ts : List Tk) (k : Nat) : Nat → List Tk
  | 0 => []
  | m + 1 => segN f ts k m ++ (match ts[k + m]? with | some t => [shK (f (k + m) t) t] | none => [])

theorem segN_next {f : Nat → Tk → Int} {ts : List Tk} {k m : Nat} {t : Tk} (h : ts[k + m]? = some t) : segN f ts k (m + 1) = segN f ts k m ++ [shK (f (k + m) t) t] := by
  show segN f ts k m ++ _ = _
  rw [h]

theorem segN_len {f : Nat → Tk → Int} {ts : List Tk} {k : Nat} : ∀ m, k + m ≤ ts.length → (segN f ts k m).length = m
  | 0, _ => rfl
  | m + 1, h => by
    rw [segN_next (List.getElem?_eq_getElem (show k + m < ts.length by omega)), List.length_append, segN_len m (by omega)]
    rfl

theorem segN_get {f : Nat → Tk → Int} {ts : List Tk} {k : Nat} : ∀ m, k + m ≤ ts.length → ∀ j, j < m → ∀ t, ts[k + j]? = some t → (segN f ts k m)[j]? = some (shK (f (k + j) t) t)
  | 0, _, j, hj, _, _ => absurd hj (Nat.not_lt_zero _)
  | m + 1, h, j, hj, t, ht => by
    have hl : (segN f ts k m).length = m := segN_len m (by omega)
    rw [segN_next (List.getElem?_eq_getElem (show k + m < ts.length by omega))]
    by_cases e : j < m
    · rw [List.getElem?_append_left (by rw [hl]; exact e)]
      exact segN_get m (by omega) j e t ht
    · have e2 : j = m := by omega
      subst e2
      rw [List.getElem?_append_right (by rw [hl]; exact Nat.le_refl _), hl, Nat.sub_self]
      rw [List.getElem?_eq_getElem (show k + j < ts.length by omega)] at ht
      rw [Option.some.inj ht]
      rfl

/-- All as it was. -/
theorem segN_same {ts : List Tk} : ∀ m, m ≤ ts.length → segN (fun _ t => t.kind) ts 0 m = ts.take m
  | 0, _ => by rw [List.take_zero]; rfl
  | m + 1, h => by
    have e : ts[0 + m]? = some ts[m] := by rw [Nat.zero_add]; exact List.getElem?_eq_getElem (by omega)
    rw [segN_next e, segN_same m (by omega), List.take_succ_eq_append_getElem (show m < ts.length by omega)]
    rfl

theorem segN_all (ts : List Tk) : segN (fun _ t => t.kind) ts 0 ts.length = ts := by
  rw [segN_same _ (Nat.le_refl _), List.take_of_length_le (Nat.le_refl _)]

/-- Sizes stay. -/
theorem segN_sz {f : Nat → Tk → Int} {ts : List Tk} {k b : Nat} (h : TksSz b ts) : ∀ m, TksSz b (segN f ts k m)
  | 0 => fun t ht => absurd ht List.not_mem_nil
  | m + 1 => by
    cases e : ts[k + m]? with
    | none =>
      have e2 : segN f ts k (m + 1) = segN f ts k m := by
        show segN f ts k m ++ _ = _
        rw [e, List.append_nil]
      rw [e2]
      exact segN_sz h m
    | some t =>
      rw [segN_next e]
      intro u hu
      rcases List.mem_append.1 hu with h' | h'
      · exact segN_sz h m u h'
      · rw [List.mem_singleton] at h'
        subst h'
        exact h t (List.mem_of_getElem? e)

/-- Who is whose parent in a branch. -/
def brF (k : Nat) (i : Nat) (t : Tk) : Int := if i = k then -1 else t.kind - (k : Int)

/-- The branch there. -/
def branchL (ts : List Tk) (k : Nat) : List Tk := segN (brF k) ts k (endN ts k - k)

/-- A tree with a branch put in, of which that is the parent. -/
def putL (ts : List Tk) (place : Nat) (parent : Int) (br : List Tk) : List Tk :=
  (segN (fun _ t => t.kind) ts 0 place ++ segN (fun i t => if i = 0 then parent else t.kind + (place : Int)) br 0 br.length) ++ segN (fun _ t => if (place : Int) ≤ t.kind then t.kind + (br.length : Int) else t.kind) ts place (ts.length - place)

theorem branchL_len {ts : List Tk} {k : Nat} (hk : k < ts.length) : (branchL ts k).length = endN ts k - k := by
  have h := endN_le hk
  exact segN_len _ (by omega)

theorem putL_len {ts : List Tk} {place : Nat} {parent : Int} {br : List Tk} (h : place ≤ ts.length) : (putL ts place parent br).length = ts.length + br.length := by
  unfold putL
  rw [List.length_append, List.length_append, segN_len _ (by omega), segN_len _ (by omega), segN_len _ (by omega)]
  omega

/-- In a tree a parent is a place of it, or none. -/
theorem tree_kind {ts : List Tk} (hT : TreeP ts) {i : Nat} {t : Tk} (h : ts[i]? = some t) : -1 ≤ t.kind ∧ t.kind < 50 := by
  have hi : i < ts.length := by
    rcases Nat.lt_or_ge i ts.length with h' | h'
    · exact h'
    · rw [List.getElem?_eq_none h'] at h; cases h
  have e : t.kind = parI ts i := by unfold parI; rw [h]
  rcases (hT.2.2.2.2 i hi).2.1 with h0 | ⟨p, _, hp, hel⟩
  · subst h0
    rw [e, hT.2.2.1]
    omega
  · obtain ⟨hpl, _⟩ := hel
    have := hT.2.1
    rw [e, ← hp]
    omega

end Go.Proofs.Ytikplfghepojiaa

namespace Go.Proofs.Ytikplfghepojiaa
open Go.RowKit
set_option linter.unusedVariables false
set_option linter.unusedSimpArgs false

/-- Where a row of tokens and their attrs lie. -/
structure Shape where
  R : Nat
  o : Nat
  n : Nat
  len : Nat → Nat
  aa : Nat → Option Addr
  A : Nat → Nat
  O : Nat → Nat
  C : Nat → Nat

/-- From block B on; no two lists in one block. -/
structure Shape.Ok (s : Shape) (B : Nat) : Prop where
  row : B ≤ s.R
  at_ : ∀ j, j < s.n → 0 < s.len j → s.aa j = some ⟨s.A j, s.O j, none⟩ ∧ B ≤ s.A j ∧ ¬ s.A j = s.R
  apart : ∀ i j, i < s.n → j < s.n → ¬ i = j → 0 < s.len i → 0 < s.len j → ¬ s.A i = s.A j

/-- The blocks of the row and of its lists. -/
def Shape.Has (s : Shape) (b : Nat) : Prop := b = s.R ∨ ∃ j, j < s.n ∧ 0 < s.len j ∧ b = s.A j

theorem Shape.Ok.has {s : Shape} {B : Nat} (h : s.Ok B) {b : Nat} (hb : s.Has b) : B ≤ b := by
  rcases hb with rfl | ⟨j, hj, hl, rfl⟩
  · exact h.row
  · exact (h.at_ j hj hl).2.1

structure TkCells (cur : Array Value) (p : Nat) (t : Tk) (aa : Option Addr) (cap : Nat) : Prop where
  c0 : cur[p]? = some (.int .i64 t.kind)
  c1 : cur[p + 1]? = some (.string t.name)
  c2 : cur[p + 2]? = some (.slice aa t.attrs.length cap)
  c3 : cur[p + 3]? = some (.string t.text)

/-- The tokens f lie there. -/
structure Shape.Holds (s : Shape) (w : World) (f : Nat → Tk) : Prop where
  row : ∃ cur, w.heap[s.R]? = some (.cells cur 99 (0, 0)) ∧ ∀ j, j < s.n → TkCells cur (s.o + j * 4) (f j) (s.aa j) (s.C j)
  len : ∀ j, j < s.n → (f j).attrs.length = s.len j
  ats : ∀ j, j < s.n → 0 < s.len j → ∃ cu, w.heap[s.A j]? = some (.cells cu 81 (0, 0)) ∧ AtCells cu (s.O j) (f j).attrs

theorem Shape.Holds.keep {s : Shape} {w w' : World} {f : Nat → Tk} {p : Nat → Prop} (h : s.Holds w f) (k : KeepB p w w') (h1 : ¬ p s.R) (h2 : ∀ j, j < s.n → 0 < s.len j → ¬ p (s.A j)) : s.Holds w' f := by
  obtain ⟨cur, hc, hr⟩ := h.row
  refine ⟨⟨cur, (k.block _ (lt_of_heap hc) h1).trans hc, hr⟩, h.len, fun j hj hl => ?_⟩
  obtain ⟨cu, hcu, ha⟩ := h.ats j hj hl
  exact ⟨cu, (k.block _ (lt_of_heap hcu) (h2 j hj hl)).trans hcu, ha⟩
-- over type 99

theorem Shape.Holds.below {s : Shape} {w w' : World} {f : Nat → Tk} (h : s.Holds w f) (k : Below w.heap.size w w') : s.Holds w' f :=
  h.keep (KeepB.of_below (fun _ => False) k) (fun x => x) (fun _ _ _ x => x)
-- over type 99

theorem Shape.Holds.atRow {s : Shape} {w : World} {f : Nat → Tk} {B : Nat} (h : s.Holds w f) (ok : s.Ok B) (j : Nat) (hj : j < s.n) : AtRow w (s.aa j) (f j).attrs := by
  intro m hm
  have hl : 0 < s.len j := by rw [← h.len j hj]; omega
  obtain ⟨cu, hcu, ha⟩ := h.ats j hj hl
  obtain ⟨c1, c2⟩ := ha m hm
  exact ⟨s.A j, s.O j, (ok.at_ j hj hl).1, lt_of_heap hcu, by rw [Lib.cell_of_heap hcu]; exact c1, by rw [Lib.cell_of_heap hcu]; exact c2⟩
-- over type 99

theorem Shape.Holds.tkRow {s : Shape} {w : World} {f : Nat → Tk} {B : Nat} {ts : List Tk} (h : s.Holds w f) (ok : s.Ok B) (hn : ts.length = s.n) (hf : ∀ j (hj : j < ts.length), f j = ts[j]) : TkRow w (some ⟨s.R, s.o, none⟩) ts := by
  intro j hj
  obtain ⟨cur, hc, hr⟩ := h.row
  have hjn : j < s.n := by omega
  have t := hr j hjn
  have ha := h.atRow ok j hjn
  rw [hf j hj] at t ha
  exact ⟨s.R, s.o, s.aa j, s.C j, rfl, lt_of_heap hc, by rw [Lib.cell_of_heap hc]; exact t.c0, by rw [Lib.cell_of_heap hc]; exact t.c1, by rw [Lib.cell_of_heap hc]; exact t.c2, by rw [Lib.cell_of_heap hc]; exact t.c3, ha⟩
-- over type 99

/-- Attrs that bear the marks from k on. -/
def mkAts (k n : Nat) : List At := (List.range n).map fun j => ⟨markS (k + 2 * j), markS (k + 2 * j + 1)⟩

theorem mkAts_len (k n : Nat) : (mkAts k n).length = n := by simp [mkAts]

theorem mkAts_get (k n j : Nat) (h : j < (mkAts k n).length) : (mkAts k n)[j].name = markS (k + 2 * j) ∧ (mkAts k n)[j].value = markS (k + 2 * j + 1) := by
  simp [mkAts]

/-- A token that bears the marks from k on. -/
def mkTk (k n : Nat) : Tk := ⟨k, markS (k + 1), mkAts (k + 2) n, markS (k + 2 + 2 * n)⟩

/-- The first mark of token j. -/
def Shape.K (s : Shape) (k : Nat) : Nat → Nat
  | 0 => k
  | j + 1 => Shape.K s k j + (3 + 2 * s.len j)

theorem Shape.K_le (s : Shape) (k : Nat) : ∀ j m, j ≤ m → s.K k j ≤ s.K k m := by
  intro j m h
  induction m with
  | zero => have : j = 0 := by omega
            subst this; exact Nat.le_refl _
  | succ m ih =>
    rcases Nat.lt_or_eq_of_le h with h' | h'
    · have := ih (by omega)
      show s.K k j ≤ s.K k m + (3 + 2 * s.len m)
      omega
    · subst h'; exact Nat.le_refl _

theorem marksA_cells {cu : Array Value} {o n k : Nat} (h : MarksA cu o n k) : AtCells cu o (mkAts k n) := by
  intro m hm
  obtain ⟨h1, h2⟩ := mkAts_get k n m hm
  rw [mkAts_len] at hm
  rw [h1, h2]
  exact h m hm

end Go.Proofs.Ytikplfghepojiaa
