/- Contracts of the specification's l13Says, l13Refers. What the program asks of a seal's attrs and of its parent is what the document says (mathematics alone). A pile: what is open, in a row of its own; contracts of the pile of numbers. -/
import Derived.Test.YtnbpcgeojmikoaaGreatM16
import Derived.Test.YtnbpcgeojmikoaaGreatM17
import Derived.Test.YtnbpcgeojmikoaaGreatM8
import Derived.OwnWalk
import Derived.Deep.QuietTactic
import Derived.BigQuiet
namespace Go.Proofs.YtnbpcgeojmikoaaGreat
open Go.RowKit
set_option linter.unusedVariables false
set_option linter.unusedSimpArgs false

/-- What a seal refers to, its sum, its sign. -/
def refF (l : List At) : ByteArray := (valF l refS).getD ByteArray.empty
def sumF (l : List At) : ByteArray := (valF l sumS).getD ByteArray.empty
def sgnF (l : List At) : Int := (numOf ((valF l signS).getD ByteArray.empty).data.toList).1

theorem val_sz {n : Nat} {l : List At} (hz : AtSz n l) (s : ByteArray) : ((valF l s).getD ByteArray.empty).size ≤ n := by
  cases h : valF l s with
  | none => exact Nat.zero_le _
  | some v =>
    obtain ⟨x, hx, rfl⟩ := valF_mem h
    exact (hz _ hx).2

theorem ats_sz {ts : List Tk} (hz : TksSz 1048576 ts) {k : Nat} (hk : k < ts.length) : AtSz 1048576 (atsJ ts k) := by
  have e2 : atsJ ts k = ts[k].attrs := by unfold atsJ; rw [List.getElem?_eq_getElem hk]
  rw [e2]
  exact (hz _ (List.getElem_mem hk)).2.2.1

/-- Its parent has the Id that it refers to. -/
noncomputable def refersN (ts : List Tk) (k : Nat) : Bool := open Classical in decide (0 ≤ parI ts k) && decide (idAt ts (parI ts k).toNat = some (refF (atsJ ts k)))

theorem up_lt {ts : List Tk} (hT : TreeP ts) {k p : Nat} (hk : k < ts.length) (hp : parI ts k = (p : Int)) : p < k := by
  rcases Nat.eq_zero_or_pos k with h0 | h0
  · subst h0
    rw [hT.2.2.1] at hp
    omega
  · rcases (hT.2.2.2.2 k hk).2.1 with h' | ⟨q, hm, e, _⟩
    · omega
    · obtain ⟨j, rfl⟩ : ∃ j, k = j + 1 := ⟨k - 1, by omega⟩
      have := (linked_all j (fun m hm => (hT.2.2.2.2 m (by omega)).2.1)).2 q hm
      omega

end Go.Proofs.YtnbpcgeojmikoaaGreat

namespace Go.Proofs.YtnbpcgeojmikoaaGreat
open Go.RowKit
set_option linter.unusedVariables false
set_option linter.unusedSimpArgs false

/-- Its name is one of the three. -/
noncomputable def justN (x : At) : Bool := open Classical in decide (x.name = refS) || (decide (x.name = sumS) || decide (x.name = signS))

noncomputable def justL (l : List At) : Bool := (ownA l).all justN && decide ((ownA l).length = 3)

theorem valF_cons (y : At) (l : List At) (s : ByteArray) : valF (y :: l) s = if y.name = s then some y.value else valF l s := by
  unfold valF
  rw [List.find?_cons]
  by_cases h : y.name = s
  · rw [if_pos h, decide_eq_true h]
    rfl
  · rw [if_neg h, decide_eq_false h]

theorem valF_own {l : List At} (hd : (l.map (·.name)).Nodup) {x : At} (hx : x ∈ l) : valF l x.name = some x.value := by
  induction l with
  | nil => cases hx
  | cons y l ih =>
    rw [List.map_cons, List.nodup_cons] at hd
    rw [valF_cons]
    rcases List.mem_cons.1 hx with h | hm
    · rw [if_pos (by rw [h]), h]
    · rw [if_neg, ih hd.2 hm]
      intro e
      exact hd.1 (by rw [e]; exact List.mem_map_of_mem hm)

theorem three_of {a b c r s g : ByteArray} (ha : a = r ∨ a = s ∨ a = g) (hb : b = r ∨ b = s ∨ b = g) (hc : c = r ∨ c = s ∨ c = g) (h1 : ¬ a = b) (h2 : ¬ a = c) (h3 : ¬ b = c) : (a = s ∨ b = s ∨ c = s) ∧ (a = g ∨ b = g ∨ c = g) := by
  rcases ha with ha | ha | ha <;> rcases hb with hb | hb | hb <;> rcases hc with hc | hc | hc <;> first
    | exact absurd (ha.trans hb.symm) h1
    | exact absurd (ha.trans hc.symm) h2
    | exact absurd (hb.trans hc.symm) h3
    | exact ⟨Or.inl ha, Or.inr (Or.inl hb)⟩
    | exact ⟨Or.inl ha, Or.inr (Or.inr hc)⟩
    | exact ⟨Or.inr (Or.inl hb), Or.inl ha⟩
    | exact ⟨Or.inr (Or.inl hb), Or.inr (Or.inr hc)⟩
    | exact ⟨Or.inr (Or.inr hc), Or.inl ha⟩
    | exact ⟨Or.inr (Or.inr hc), Or.inr (Or.inl hb)⟩

theorem just_is {x : At} : justN x = true ↔ x.name = refS ∨ x.name = sumS ∨ x.name = signS := by
  unfold justN
  simp only [Bool.or_eq_true, decide_eq_true_eq]

theorem ownA_sub {l : List At} {x : At} (h : x ∈ ownA l) : x ∈ l := (List.mem_filter.1 h).1

theorem own_nodup {l : List At} (hd : (l.map (·.name)).Nodup) : ((ownA l).map (·.name)).Nodup := (List.Sublist.map _ List.filter_sublist).nodup hd

/-- Where the three stand, each of them does. -/
theorem just_has {l : List At} (hd : (l.map (·.name)).Nodup) (h : justL l = true) : (∃ x ∈ ownA l, x.name = sumS) ∧ ∃ x ∈ ownA l, x.name = signS := by
  unfold justL at h
  rw [Bool.and_eq_true, decide_eq_true_eq, List.all_eq_true] at h
  have hn := own_nodup hd
  obtain ⟨h1, h2⟩ := h
  generalize ownA l = o at *
  match o, h2 with
  | [a, b, c], _ =>
    simp only [List.map_cons, List.map_nil, List.nodup_cons, List.mem_cons, List.not_mem_nil, or_false, not_or] at hn
    obtain ⟨hs, hg⟩ := three_of (just_is.1 (h1 a (by simp))) (just_is.1 (h1 b (by simp))) (just_is.1 (h1 c (by simp))) hn.1.1 hn.1.2 hn.2.1
    refine ⟨?_, ?_⟩
    · rcases hs with e | e | e
      · exact ⟨a, by simp, e⟩
      · exact ⟨b, by simp, e⟩
      · exact ⟨c, by simp, e⟩
    · rcases hg with e | e | e
      · exact ⟨a, by simp, e⟩
      · exact ⟨b, by simp, e⟩
      · exact ⟨c, by simp, e⟩

/-- What the program asks, in its order. -/
noncomputable def sealJ (l : List At) : Bool := justL l && (tenB ((valF l sumS).getD ByteArray.empty) && tenB ((valF l signS).getD ByteArray.empty))

theorem refS_sum : ¬ refS = sumS := by decide
theorem refS_sign : ¬ refS = signS := by decide
theorem sumS_sign : ¬ sumS = signS := by decide

theorem seal_just {l : List At} (hd : (l.map (·.name)).Nodup) : sealL l = sealJ l := by
  rw [Bool.eq_iff_iff]
  constructor
  · intro h
    unfold sealL at h
    rw [Bool.and_eq_true, List.all_eq_true] at h
    have hj : justL l = true := by
      unfold justL
      rw [Bool.and_eq_true, List.all_eq_true]
      refine ⟨fun x hx => ?_, h.2⟩
      have hs := h.1 x hx
      unfold sealAt at hs
      rw [just_is]
      simp only [Bool.or_eq_true, Bool.and_eq_true, decide_eq_true_eq] at hs
      rcases hs with e | ⟨e | e, _⟩
      · exact Or.inl e
      · exact Or.inr (Or.inl e)
      · exact Or.inr (Or.inr e)
    obtain ⟨⟨x, hx, ex⟩, ⟨y, hy, ey⟩⟩ := just_has hd hj
    have vx := valF_own hd (ownA_sub hx)
    have vy := valF_own hd (ownA_sub hy)
    have sx := h.1 x hx
    have sy := h.1 y hy
    unfold sealAt at sx sy
    rw [ex] at vx sx
    rw [ey] at vy sy
    simp only [Bool.or_eq_true, Bool.and_eq_true, decide_eq_true_eq] at sx sy
    unfold sealJ
    rw [hj, vx, vy, Bool.true_and, Bool.and_eq_true]
    refine ⟨?_, ?_⟩
    · rcases sx with e | ⟨_, e⟩
      · exact absurd e.symm refS_sum
      · exact e
    · rcases sy with e | ⟨_, e⟩
      · exact absurd e.symm refS_sign
      · exact e
  · intro h
    unfold sealJ at h
    rw [Bool.and_eq_true, Bool.and_eq_true] at h
    obtain ⟨hj, h1, h2⟩ := h
    unfold justL at hj
    rw [Bool.and_eq_true, List.all_eq_true] at hj
    unfold sealL
    rw [Bool.and_eq_true, List.all_eq_true]
    refine ⟨fun x hx => ?_, hj.2⟩
    have vx := valF_own hd (ownA_sub hx)
    unfold sealAt
    simp only [Bool.or_eq_true, Bool.and_eq_true, decide_eq_true_eq]
    rcases just_is.1 (hj.1 x hx) with e | e | e
    · exact Or.inl e
    · rw [e] at vx
      rw [vx] at h1
      exact Or.inr ⟨Or.inl e, h1⟩
    · rw [e] at vx
      rw [vx] at h2
      exact Or.inr ⟨Or.inr e, h2⟩

theorem names_nd {ts : List Tk} (hT : TreeP ts) (k : Nat) : ((atsJ ts k).map (·.name)).Nodup := by
  unfold atsJ
  cases e : ts[k]? with
  | none => exact List.nodup_nil
  | some t =>
    show (t.attrs.map (·.name)).Nodup
    obtain ⟨hk, et⟩ := List.getElem?_eq_some_iff.1 e
    obtain ⟨_, hb⟩ := (hT.2.2.2.2 k hk).1
    rw [et] at hb
    unfold nodeB at hb
    split at hb
    · rw [Bool.and_eq_true, decide_eq_true_eq] at hb
      rw [List.eq_nil_of_length_eq_zero hb.1]
      exact List.nodup_nil
    · rw [Bool.and_eq_true, Bool.and_eq_true] at hb
      have ho : AttrsOk t.attrs := by
        by_cases q : AttrsOk t.attrs
        · exact q
        · rw [attrsB_f q] at hb
          cases hb.2.1
      unfold AttrsOk AtsOk at ho
      have : t.attrs.Pairwise fun a b => ¬ a.name = b.name := List.pairwise_iff_getElem.2 fun i j hi hj hij => ho.2.2 j i hj hij hj
      exact List.pairwise_map.2 this

/-- The parent has the Id that is told, which is not empty. -/
theorem refers_is {ts : List Tk} (hI : idsB ts = true) (hT : TreeP ts) {k : Nat} (hk : k < ts.length) : refersN ts k = (!decide ((refF (atsJ ts k)).size = 0) && decide (idI ts (parI ts k) = refF (atsJ ts k))) := by
  unfold refersN idI
  have hl : parI ts k < ts.length := by
    by_cases h0 : 0 ≤ parI ts k
    · have := up_lt hT hk (p := (parI ts k).toNat) (by omega)
      omega
    · omega
  have hP : IdsP ts ts.length := by
    have h1 := hI
    unfold idsB at h1
    rw [Bool.and_eq_true] at h1
    exact @of_decide_eq_true _ (Classical.propDecidable _) h1.1
  rw [Bool.eq_iff_iff]
  simp only [Bool.and_eq_true, decide_eq_true_eq, Bool.not_eq_true', decide_eq_false_iff_not]
  constructor
  · rintro ⟨h0, h1⟩
    have ho := hP.1 _ (mem_idsTo.2 ⟨(parI ts k).toNat, by omega, h1⟩)
    rw [if_pos ⟨hI, h0, hl⟩, h1]
    refine ⟨fun e => ?_, rfl⟩
    unfold idOk at ho
    simp [e] at ho
  · rintro ⟨h0, h1⟩
    by_cases q : 0 ≤ parI ts k
    · rw [if_pos ⟨hI, q, hl⟩] at h1
      refine ⟨q, ?_⟩
      cases e : idAt ts (parI ts k).toNat with
      | none =>
        rw [e] at h1
        rw [← h1] at h0
        exact absurd rfl h0
      | some v =>
        rw [e] at h1
        rw [← h1]
        rfl
    · rw [if_neg (fun h => q h.2.1)] at h1
      rw [← h1] at h0
      exact absurd rfl h0

theorem no_kids {ts : List Tk} (hT : TreeP ts) {k : Nat} (hk : k < ts.length) : decide ((kidsN ts k).length = 0) = decide (endN ts k = k + 1) := by
  have he := endN_le hk
  have key : (kidsN ts k).length = 0 ↔ endN ts k = k + 1 := by
    constructor
    · intro h
      by_cases q : endN ts k = k + 1
      · exact q
      · have hp := first_kid hT hk (by omega)
        have hm : k + 1 ∈ kidsN ts k := by
          unfold kidsN kidsTo
          exact List.mem_filter.2 ⟨List.mem_range.2 (by omega), by rw [decide_eq_true (Nat.lt_succ_self k), decide_eq_true hp]; rfl⟩
        rw [List.length_eq_zero_iff] at h
        rw [h] at hm
        exact absurd hm List.not_mem_nil
    · intro h
      rw [List.length_eq_zero_iff, List.eq_nil_iff_forall_not_mem]
      intro i hi
      have h1 := kidsN_lt hi
      unfold kidsN kidsTo at hi
      have h2 := (List.mem_filter.1 hi).2
      simp only [Bool.and_eq_true, decide_eq_true_eq] at h2
      exact no_kid hT hk (by omega) h1 h2.2
  by_cases q : endN ts k = k + 1
  · rw [decide_eq_true q, decide_eq_true (key.2 q)]
  · rw [decide_eq_false q, decide_eq_false (fun h => q (key.1 h))]

/-- A seal stands there. -/
noncomputable def sealX (ts : List Tk) (x : Int) : Bool := decide (0 ≤ x ∧ x < ts.length) && sealN ts x.toNat

theorem sealX_is {ts : List Tk} (hT : TreeP ts) (x : Int) : sealX ts x = (knownI ts x sealS sealM && (decide ((kidsI ts x).length = 0) && sealJ (atsJ ts x.toNat))) := by
  have ht : treeB ts = true := treeB_t hT
  unfold sealX knownI elemB kidsI hasB
  rw [ht]
  by_cases hx : 0 ≤ x ∧ x < ts.length
  · have hk : x.toNat < ts.length := by omega
    rw [decide_eq_true hx]
    simp only [Bool.true_and, if_true]
    rw [no_kids hT hk]
    unfold sealN
    rw [seal_just (names_nd hT _)]
    simp only [Bool.and_assoc]
  · rw [decide_eq_false hx]
    simp only [Bool.and_false, Bool.false_and]

end Go.Proofs.YtnbpcgeojmikoaaGreat

namespace Go.Proofs.YtnbpcgeojmikoaaGreat
open Go.RowKit
set_option linter.unusedVariables false
set_option linter.unusedSimpArgs false

/-- A pile's slice lies in the o-th cell of block g; what it holds lies in a row of its own. -/
structure PileAt (E : TypeId) (s : Nat) (w : World) (B g o : Nat) (cur : Array Value) (T : TypeId) (v : Value) (n : Nat) (cs : List Value) : Prop where
  ge : B ≤ g
  blk : w.heap[g]? = some (.cells cur T (0, 0))
  at_ : cur[o]? = some v
  row : w.ownsRow B E s v n cs
  ne : T ≠ E

theorem PileAt.lt {E s w B g o cur T v n cs} (h : PileAt E s w B g o cur T v n cs) : g < w.heap.size := lt_of_heap h.blk

theorem PileAt.cell {E s w B g o cur T v n cs} (h : PileAt E s w B g o cur T v n cs) : w.cell? ⟨g, o, none⟩ = some v := by
  rw [Lib.cell_of_heap h.blk]
  exact h.at_

theorem PileAt.own_ne {E s w B g o cur T v n cs} (h : PileAt E s w B g o cur T v n cs) : v.ownBlock ≠ some g := by
  intro e
  rcases h.row.2 with ⟨rfl, _⟩ | ⟨b, cap, c, rfl, _, hh, _⟩
  · cases e
  · have : b = g := Option.some.inj e
    subst this
    rw [h.blk] at hh
    injection hh with hh
    injection hh with _ h2 _
    exact h.ne h2

theorem PileAt.below {E s w w' B g o cur T v n cs} (h : PileAt E s w B g o cur T v n cs) (hb : Below w.heap.size w w') : PileAt E s w' B g o cur T v n cs :=
  ⟨h.ge, (hb.block g h.lt).trans h.blk, h.at_, ownsRow_below h.row hb, h.ne⟩

theorem own_less {w : World} {B : Nat} {E : TypeId} {s b n m cap : Nat} {xs : List Value} (h : w.ownsRow B E s (.slice (some ⟨b, 0, none⟩) n cap) n xs) (hm : m ≤ n) : w.ownsRow B E s (.slice (some ⟨b, 0, none⟩) m cap) m (xs.take (m * s)) := by
  rcases h.2 with ⟨e, _⟩ | ⟨g, c, cur, e, h1, h2, h3, h4, h5, h6⟩
  · cases e
  · injection e with e1 e2 e3
    injection e1 with e1
    injection e1 with e1 _ _
    subst e1 e3
    have hms : m * s ≤ n * s := Nat.mul_le_mul_right _ hm
    refine ⟨by rw [List.length_take, h.1]; omega, .inr ⟨b, cap, cur, rfl, h1, h2, by omega, h4, h5, ?_⟩⟩
    rw [← h6, List.take_take]
    congr 1
    omega

/-- What is set in a block that the row does not lie in. -/
theorem own_set {w : World} {B : Nat} {E : TypeId} {s n : Nat} {v : Value} {xs : List Value} (h : w.ownsRow B E s v n xs) {g : Nat} (hg : v.ownBlock ≠ some g) (o : Nat) (u : Value) : (w.setCell ⟨g, o, none⟩ u).ownsRow B E s v n xs :=
  h.kept (Lib.grownBy_setCell w g o u) (.inr hg)

/-- The pile's slice set anew. -/
theorem PileAt.mk_set {E : TypeId} {s : Nat} {w : World} {B g o : Nat} {cur : Array Value} {T : TypeId} {v : Value} (hg : B ≤ g) (hb : w.heap[g]? = some (.cells cur T (0, 0))) (ha : cur[o]? = some v) (hT : T ≠ E) {u : Value} {m : Nat} {ds : List Value} (hu : w.ownsRow B E s u m ds) (hn : u.ownBlock ≠ some g) : PileAt E s (w.setCell ⟨g, o, none⟩ u) B g o (cur.setIfInBounds o u) T u m ds := by
  refine ⟨hg, heap_setCell_same w g o cur T u hb, ?_, own_set hu hn o u, hT⟩
  have : o < cur.size := (Array.getElem?_eq_some_iff.1 ha).1
  simp [this]

theorem PileAt.set {E s w B g o cur T v n cs} (h : PileAt E s w B g o cur T v n cs) {u : Value} {m : Nat} {ds : List Value} (hu : w.ownsRow B E s u m ds) (hg : u.ownBlock ≠ some g) : PileAt E s (w.setCell ⟨g, o, none⟩ u) B g o (cur.setIfInBounds o u) T u m ds :=
  PileAt.mk_set h.ge h.blk h.at_ h.ne hu hg

theorem PileAt.drew {E s w B g o cur T v n cs} (h : PileAt E s w B g o cur T v n cs) : PileAt E s w.drew B g o cur T v n cs := ⟨h.ge, h.blk, h.at_, h.row.drew, h.ne⟩

theorem KeepB.drew {p : Nat → Prop} {w w' : World} (h : KeepB p w w') : KeepB p w w'.drew := ⟨h.os, h.tape, h.output, h.size, h.block⟩

theorem PileAt.keep {E s w w' B g o cur T v n cs x} (h : PileAt E s w B g o cur T v n cs) (hk : KeepB (fun k => k = x) w w') (h1 : g ≠ x) (h2 : v.ownBlock ≠ some x) : PileAt E s w' B g o cur T v n cs :=
  ⟨h.ge, (hk.block g h.lt h1).trans h.blk, h.at_, h.row.kept (row := some x) ⟨hk.os, hk.tape, hk.output, hk.size, fun k hk1 hk2 => hk.block k hk1 (fun e => hk2 (by rw [e]))⟩ (.inr h2), h.ne⟩

def lenV : Value → Nat
  | .slice _ n _ => n
  | _ => 0

theorem own_len {w : World} {B : Nat} {E : TypeId} {s n : Nat} {v : Value} {xs : List Value} (h : w.ownsRow B E s v n xs) : ∃ a c, v = .slice a n c := by
  rcases h.2 with ⟨rfl, rfl⟩ | ⟨g, cap, cur, rfl, _⟩
  · exact ⟨none, 0, rfl⟩
  · exact ⟨_, _, rfl⟩

theorem own_pos {w : World} {B : Nat} {E : TypeId} {s n : Nat} {v : Value} {xs : List Value} (h : w.ownsRow B E s v n xs) (hn : 0 < n) : ∃ b c, v = .slice (some ⟨b, 0, none⟩) n c ∧ b < w.heap.size ∧ B ≤ b ∧ n ≤ c ∧ ∀ j, j < n * s → w.cell? ⟨b, j, none⟩ = xs[j]? := by
  rcases h.2 with ⟨rfl, rfl⟩ | ⟨g, cap, cur, rfl, hB, hh, hc, _, hs, ht⟩
  · omega
  · refine ⟨g, cap, rfl, lt_of_heap hh, hB, hc, fun j hj => ?_⟩
    rw [Lib.cell_of_heap hh, ← ht, List.getElem?_take, if_pos hj, Array.getElem?_toList]

/-- Numbers, the top first. -/
abbrev PileI (w : World) (B g o : Nat) (cur : Array Value) (T : TypeId) (v : Value) (L : List Nat) : Prop := PileAt 2 1 w B g o cur T v L.length (intC L.reverse)

theorem rev_last (x : Nat) (L : List Nat) : (intC (x :: L).reverse)[L.length]? = some (.int .i64 (x : Int)) := by
  rw [List.reverse_cons, intC_app, List.getElem?_append_right (by rw [intC_len, List.length_reverse]; exact Nat.le_refl _)]
  simp [intC]

theorem rev_take (x : Nat) (L : List Nat) : (intC (x :: L).reverse).take (L.length * 1) = intC L.reverse := by
  rw [List.reverse_cons, intC_app, List.take_left' (by rw [intC_len, List.length_reverse, Nat.mul_one])]

theorem PileAt.less {w : World} {B g o b c n : Nat} {cur : Array Value} {T : TypeId} {x : Nat} {L : List Nat} (h : PileI w B g o cur T (.slice (some ⟨b, 0, none⟩) (x :: L).length c) (x :: L)) (hn : L.length = n) :
    PileI (w.setCell ⟨g, o, none⟩ (.slice (some ⟨b, 0, none⟩) n c)) B g o (cur.setIfInBounds o (.slice (some ⟨b, 0, none⟩) n c)) T (.slice (some ⟨b, 0, none⟩) n c) L := by
  subst hn
  have h1 := own_less (m := L.length) h.row (by rw [List.length_cons]; omega)
  rw [rev_take] at h1
  exact h.set h1 h.own_ne

set_option maxHeartbeats 1000000 in
theorem cPiSize (B g o : Nat) (cur : Array Value) (T : TypeId) (v : Value) (L : List Nat) (w : World) (h : PileI w B g o cur T v L) :
    Calls Tryz.prog 57 #[.pointer (some ⟨g, o, none⟩)] w fun e w' => e = .returned (.int .i64 (L.length : Nat)) ∧ w' = w := by
  have c0 := h.cell
  obtain ⟨a, c, rfl⟩ := own_len h.row
  clear h
  generalize L.length = n at *
  go_enter Tryz.func57, Tryz.ntmps57
  go_wp2
  go_ret
  exact ⟨rfl, rfl⟩

set_option maxHeartbeats 1000000 in
theorem cPiTop0 (B g o : Nat) (cur : Array Value) (T : TypeId) (v : Value) (w : World) (h : PileI w B g o cur T v []) :
    Calls Tryz.prog 79 #[.pointer (some ⟨g, o, none⟩)] w fun e w' => e = .returned (.tuple #[.int .i64 0, .bool false]) ∧ Below w.heap.size w w' := by
  have c0 := h.cell
  obtain ⟨a, c, rfl⟩ := own_len h.row
  clear h
  go_enter Tryz.func79, Tryz.ntmps79
  go_wp2
  go_ret2
  exact ⟨rfl, Below.refl _ _⟩

set_option maxHeartbeats 1000000 in
theorem cPiTop (B g o : Nat) (cur : Array Value) (T : TypeId) (v : Value) (x : Nat) (L : List Nat) (w : World) (h : PileI w B g o cur T v (x :: L)) (hn : L.length ≤ 1048576) :
    Calls Tryz.prog 79 #[.pointer (some ⟨g, o, none⟩)] w fun e w' => e = .returned (.tuple #[.int .i64 (x : Int), .bool true]) ∧ Below w.heap.size w w' := by
  have c0 := h.cell
  obtain ⟨b, c, rfl, hb, _, hc, hcs⟩ := own_pos h.row (Nat.succ_pos _)
  have c1 := hcs L.length (by rw [List.length_cons]; omega)
  rw [rev_last] at c1
  clear h hcs
  rw [List.length_cons] at c0 hc
  obtain ⟨n, hnn⟩ : ∃ n, L.length = n := ⟨_, rfl⟩
  rw [hnn] at c0 c1 hn hc
  clear hnn
  have hq : ((n + 1 : Nat) : Int) = (n : Int) + 1 := by omega
  have hd : (((n : Int) + 1) == 0) = false := by simp; omega
  go_enter Tryz.func79, Tryz.ntmps79
  go_wp2_with fail
  go_quiet (fail)
  go_wp2_with fail
  go_ret2
  exact ⟨rfl, below_drewN (Below.refl _ _) _⟩

end Go.Proofs.YtnbpcgeojmikoaaGreat
