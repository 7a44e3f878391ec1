/- The shape of a row of nodes: of a copy among the laws' arguments, and of one that grew. What the exact laws of branches ask of what is answered: a tree, or nothing; few nodes, of few attrs. A pile: what is open, in a row of its own; contracts of the pile of numbers. -/
import Derived.Test.YtikplfghepojiaaM4
import Derived.Test.YtikplfghepojiaaM10
import Derived.Test.YtikplfghepojiaaM16
import Derived.Test.YtikplfghepojiaaM15
import Derived.Test.YtikplfghepojiaaM14
import Derived.Test.YtikplfghepojiaaM13
import Derived.Deep.QuietTactic
import Derived.BigQuiet
namespace Go.Proofs.Ytikplfghepojiaa.Nd
open Go.RowKit
set_option linter.unusedVariables false
set_option linter.unusedSimpArgs false

def atT (ts : List Tk) (j : Nat) : Tk := match ts[j]? with | some t => t | none => ⟨0, ⟨#[]⟩, [], ⟨#[]⟩⟩

theorem atT_at {ts : List Tk} {j : Nat} (h : j < ts.length) : atT ts j = ts[j] := by unfold atT; rw [List.getElem?_eq_getElem h]

def shL (g : Nat) (G : Nat → Nat) (ts : List Tk) : Shape where
  R := g
  o := 0
  n := ts.length
  len := fun j => (atT ts j).attrs.length
  aa := fun j => some ⟨G j, 0, none⟩
  A := G
  O := fun _ => 0
  C := fun j => (atT ts j).attrs.length

theorem Laid.shape {ts : List Tk} {g : Nat} {G : Nat → Nat} {cur : Array Value} {w : World} (h : Laid ts g ts.length G cur w) (hh : w.heap[g]? = some (.cells cur 34 (0, 0))) : (shL g G ts).Ok g ∧ HoldsN (shL g G ts) w (atT ts) := by
  refine ⟨⟨Nat.le_refl _, fun j hj hl => ?_, fun i j hi hj hne _ _ e => ?_⟩, ⟨⟨cur, hh, fun j hj => ?_⟩, fun j hj => rfl, fun j hj hl => ?_⟩⟩
  · have := (h.row j hj hj).1
    exact ⟨rfl, by show g ≤ G j; omega, by show ¬ G j = g; omega⟩
  · have e : G i = G j := e
    rcases Nat.lt_or_gt_of_ne hne with h' | h'
    · have := h.later i j h' hj
      omega
    · have := h.later j i h' hi
      omega
  · obtain ⟨k0, k1, k2, k3⟩ := h.cells j hj hj
    have e := atT_at (ts := ts) hj
    rw [show (shL g G ts).o + j * 4 = j * 4 from Nat.zero_add _]
    exact ⟨by rw [e]; exact k0, by rw [e]; exact k1, by rw [show (shL g G ts).C j = ts[j].attrs.length from by show (atT ts j).attrs.length = _; rw [e], e]; exact k2, by rw [e]; exact k3⟩
  · obtain ⟨_, cu, h1, h2⟩ := h.row j hj hj
    refine ⟨cu, h1, ?_⟩
    rw [atT_at hj]
    exact h2

theorem shL_K (g : Nat) (G : Nat → Nat) (ts : List Tk) (k : Nat) : ∀ m, m ≤ ts.length → (shL g G ts).K k m = k + 3 * m + 2 * sumA (ts.take m)
  | 0, _ => rfl
  | m + 1, h => by
    show (shL g G ts).K k m + (3 + 2 * (atT ts m).attrs.length) = _
    rw [shL_K g G ts k m (by omega), take_snocN (show m < ts.length by omega), sumA_snoc, atT_at (show m < ts.length by omega)]
    omega

def shR (g : Nat) (es : List E) : Shape where
  R := g
  o := 0
  n := es.length
  len := fun j => match es[j]? with | some e => e.t.attrs.length | none => 0
  aa := fun j => match es[j]? with | some e => e.a | none => none
  A := fun j => match es[j]? with | some ⟨_, some ad, _⟩ => ad.block | _ => 0
  O := fun j => match es[j]? with | some ⟨_, some ad, _⟩ => ad.off | _ => 0
  C := fun j => match es[j]? with | some e => e.cap | none => 0

def eAt (es : List E) (j : Nat) : Tk := match es[j]? with | some e => e.t | none => ⟨0, ⟨#[]⟩, [], ⟨#[]⟩⟩

theorem eAt_map {es : List E} {ts : List Tk} (h : es.map (·.t) = ts) (j : Nat) (hj : j < ts.length) : eAt es j = ts[j] := by
  have hl : es.length = ts.length := by rw [← h, List.length_map]
  unfold eAt
  rw [List.getElem?_eq_getElem (by omega)]
  subst h
  simp

theorem shR_at (g : Nat) (es : List E) (j : Nat) (hj : j < es.length) : (shR g es).len j = es[j].t.attrs.length ∧ (shR g es).aa j = es[j].a ∧ (shR g es).C j = es[j].cap ∧ eAt es j = es[j].t
    ∧ ∀ b o, es[j].a = some ⟨b, o, none⟩ → (shR g es).A j = b ∧ (shR g es).O j = o := by
  have he := List.getElem?_eq_getElem hj
  refine ⟨?_, ?_, ?_, ?_, fun b o hb => ?_⟩
  · show (match es[j]? with | some e => e.t.attrs.length | none => 0) = _
    rw [he]
  · show (match es[j]? with | some e => e.a | none => none) = _
    rw [he]
  · show (match es[j]? with | some e => e.cap | none => 0) = _
    rw [he]
  · unfold eAt
    rw [he]
  · obtain ⟨x, hx⟩ : ∃ x, es[j] = x := ⟨_, rfl⟩
    rw [hx] at he hb
    obtain ⟨t, a, c⟩ := x
    simp only at hb
    subst hb
    exact ⟨by show (match es[j]? with | some ⟨_, some ad, _⟩ => ad.block | _ => 0) = _; rw [he], by show (match es[j]? with | some ⟨_, some ad, _⟩ => ad.off | _ => 0) = _; rw [he]⟩

theorem Row.shape {w : World} {B : Nat} {v : Value} {es : List E} (h : Row w B v es) (hne : ¬ es = []) :
    ∃ (g : Nat) (cap : Nat), v = .slice (some ⟨g, 0, none⟩) es.length cap ∧ (shR g es).Ok B ∧ HoldsN (shR g es) w (eAt es) := by
  rcases h.own.2 with ⟨_, h0⟩ | ⟨g, cap, cur, rfl, hg, hh, hn, hc, hs, ht⟩
  · exact absurd (List.eq_nil_of_length_eq_zero h0) hne
  · refine ⟨g, cap, rfl, ⟨hg, fun j hj hl => ?_, fun i j hi hj hne hl hl' => ?_⟩, ⟨⟨cur, hh, fun j hj => ?_⟩, fun j hj => ?_, fun j hj hl => ?_⟩⟩
    · obtain ⟨s1, s2, s3, s4, s5⟩ := shR_at g es j hj
      rw [s1] at hl
      obtain ⟨b, o, cu, e, hB, _⟩ := (h.ats _ (List.getElem_mem hj)).1 hl
      obtain ⟨s6, s7⟩ := s5 b o e
      rw [s2, s6, s7]
      exact ⟨e, hB, fun x => (h.ats _ (List.getElem_mem hj)).2 b o hl e (by rw [x]; rfl)⟩
    · obtain ⟨s1, s2, s3, s4, s5⟩ := shR_at g es i hi
      obtain ⟨t1, t2, t3, t4, t5⟩ := shR_at g es j hj
      rw [s1] at hl
      rw [t1] at hl'
      obtain ⟨b, o, _, e, _⟩ := (h.ats _ (List.getElem_mem hi)).1 hl
      obtain ⟨b', o', _, e', _⟩ := (h.ats _ (List.getElem_mem hj)).1 hl'
      rw [(s5 b o e).1, (t5 b' o' e').1]
      have hi : i < es.length := hi
      have hj : j < es.length := hj
      rcases Nat.lt_or_gt_of_ne hne with h' | h'
      · exact List.pairwise_iff_getElem.1 h.apart i j hi hj h' hl hl' b o b' o' e e'
      · exact fun x => List.pairwise_iff_getElem.1 h.apart j i hj hi h' hl' hl b' o' b o e' e x.symm
    · obtain ⟨s1, s2, s3, s4, s5⟩ := shR_at g es j hj
      obtain ⟨k0, k1, k2, k3⟩ := cs_get es j hj
      have hx : ∀ k u, (cs es)[k]? = some u → cur[0 + k]? = some u := by
        intro k u hk
        rw [Nat.zero_add, ← Array.getElem?_toList]
        rw [← ht, List.getElem?_take] at hk
        split at hk
        · exact hk
        · cases hk
      rw [s2, s3, s4]
      exact ⟨hx _ _ k0, hx _ _ k1, hx _ _ k2, hx _ _ k3⟩
    · obtain ⟨s1, s2, s3, s4, s5⟩ := shR_at g es j hj
      rw [s4, s1]
    · obtain ⟨s1, s2, s3, s4, s5⟩ := shR_at g es j hj
      rw [s1] at hl
      obtain ⟨b, o, cu, e, _, hhb, hcl⟩ := (h.ats _ (List.getElem_mem hj)).1 hl
      obtain ⟨s6, s7⟩ := s5 b o e
      rw [s6, s7, s4]
      exact ⟨cu, hhb, hcl⟩

theorem shR_K (g : Nat) (es : List E) (ts : List Tk) (hm : es.map (·.t) = ts) (k : Nat) : ∀ m, m ≤ ts.length → (shR g es).K k m = k + 3 * m + 2 * sumA (ts.take m)
  | 0, _ => rfl
  | m + 1, h => by
    have hl : es.length = ts.length := by rw [← hm, List.length_map]
    show (shR g es).K k m + (3 + 2 * (shR g es).len m) = _
    have e1 : es[m].t = ts[m] := by subst hm; simp
    rw [shR_K g es ts hm k m (by omega), take_snocN (show m < ts.length by omega), sumA_snoc, (shR_at g es m (by omega)).1, e1]
    omega

theorem Row.keep {w w' : World} {B : Nat} {v : Value} {es : List E} {p : Nat → Prop} (h : Row w B v es) (k : KeepB p w w') (hp : ∀ b, p b → b < B) : Row w' B v es := by
  have key : ∀ b o, B ≤ b → w.heap[b]? = some o → w'.heap[b]? = some o := fun b o hb hh => (k.block b (lt_of_heap hh) (fun x => by have := hp b x; omega)).trans hh
  refine ⟨⟨h.own.1, ?_⟩, fun e he => ⟨fun hl => ?_, (h.ats e he).2⟩, h.apart⟩
  · rcases h.own.2 with h' | ⟨g, cap, cur, h1, h2, h3, h4⟩
    · exact .inl h'
    · exact .inr ⟨g, cap, cur, h1, h2, key g _ h2 h3, h4⟩
  · obtain ⟨g, o, cu, e1, e2, e3, e4⟩ := (h.ats e he).1 hl
    exact ⟨g, o, cu, e1, e2, key g _ e2 e3, e4⟩

theorem cMarkNone (a : Option Addr) (cap k : Nat) (w : World) (hk : k ≤ 100000000) :
    Calls Try.prog 29 #[.slice a 0 cap, .int .i64 k] w fun e w' => e = .returned (.int .i64 k) ∧ w' = w := by
  go_enter Try.func29, Try.ntmps29
  go_wp2
  go_loopw [1, 5] (fun x y wr => x = .int .i64 k ∧ y = .int .i64 0 ∧ wr = w) (fun _ _ _ => 0)
  case atStart => exact ⟨rfl, rfl, rfl⟩
  case round =>
    obtain ⟨rfl, rfl, rfl⟩ := hrel
    go_wp2
    go_ret
    exact ⟨rfl, rfl⟩

theorem cHeldNone (a : Option Addr) (cap k : Nat) (w : World) (hk : k ≤ 100000000) :
    Calls Try.prog 30 #[.slice a 0 cap, .int .i64 k] w fun e w' => e = .returned (.int .i64 k) ∧ w' = w := by
  go_enter Try.func30, Try.ntmps30
  go_wp2
  go_loopw [1, 5] (fun x y wr => x = .int .i64 k ∧ y = .int .i64 0 ∧ wr = w) (fun _ _ _ => 0)
  case atStart => exact ⟨rfl, rfl, rfl⟩
  case round =>
    obtain ⟨rfl, rfl, rfl⟩ := hrel
    go_wp2
    go_ret
    exact ⟨rfl, rfl⟩

end Go.Proofs.Ytikplfghepojiaa.Nd

namespace Go.Proofs.Ytikplfghepojiaa
open Go.RowKit
set_option linter.unusedVariables false

theorem Nd.Row.rdG {w : World} {B c : Nat} {a : Option Addr} {es : List Nd.E} {L : List Tk} (h : Nd.Row w B (.slice a es.length c) es) (hm : es.map (·.t) = L) : es.length = L.length ∧ TkRow w a L := by
  have hl : es.length = L.length := by rw [← hm, List.length_map]
  obtain ⟨a2, c2, e, ht⟩ := h.tkRow
  obtain ⟨rfl, rfl⟩ : a = a2 ∧ c = c2 := by cases e; exact ⟨rfl, rfl⟩
  rw [hm] at ht
  exact ⟨hl, ht⟩

/-- The blocks of a copy: from its own on, and there. -/
theorem Nd.Laid.hasG {ts : List Tk} {g : Nat} {G : Nat → Nat} {cur : Array Value} {w : World} (h : Nd.Laid ts g ts.length G cur w) (hh : w.heap[g]? = some (.cells cur 34 (0, 0))) : ∀ b, (Nd.shL g G ts).Has b → g ≤ b ∧ b < w.heap.size := by
  rintro b (rfl | ⟨j, hj, _, rfl⟩)
  · exact ⟨Nat.le_refl _, lt_of_heap hh⟩
  · obtain ⟨h1, cu, h2, _⟩ := h.row j hj hj
    have h3 := lt_of_heap h2
    exact ⟨Nat.le_of_lt h1, h3⟩

theorem sumG {L : List Tk} (h : ∀ t ∈ L, t.attrs.length ≤ 6) : Nd.sumA L ≤ 6 * L.length := by
  unfold Nd.sumA
  induction L with
  | nil => simp
  | cons t L ih =>
    have := ih (fun x hx => h x (List.mem_cons_of_mem _ hx))
    have h2 := h t (List.mem_cons_self ..)
    simp only [List.map_cons, List.sum_cons, List.length_cons]
    omega

theorem treeG {ts : List Tk} (h : treeB ts = true) : TreeP ts := by unfold treeB at h; simpa using h

/-- A tree, or nothing. -/
def AnsT (R : List Tk) : Prop := R = [] ∨ TreeP R

theorem AnsT.len {R : List Tk} (h : AnsT R) : R.length ≤ 50 := by
  rcases h with h | h
  · rw [h]; exact Nat.zero_le _
  · exact h.2.1

theorem AnsT.six {R : List Tk} (h : AnsT R) : ∀ t ∈ R, t.attrs.length ≤ 6 := by
  rcases h with h | h
  · rw [h]; exact fun t ht => absurd ht List.not_mem_nil
  · intro t ht
    obtain ⟨k, hk, rfl⟩ := List.getElem_of_mem ht
    obtain ⟨⟨_, hb⟩, _⟩ := h.2.2.2.2 k hk
    by_cases e : R[k].name.size = 0
    · rw [nodeB_tx e] at hb
      simp only [Bool.and_eq_true, decide_eq_true_eq] at hb
      omega
    · rw [nodeB_el e] at hb
      simp only [Bool.and_eq_true] at hb
      have h2 := hb.2.1
      unfold attrsB at h2
      have h3 : AttrsOk R[k].attrs := by simpa using h2
      exact h3.1

theorem ans_branch (ts : List Tk) (x : Int) : AnsT (branchI ts x) := by
  unfold branchI
  split
  · rename_i h
    obtain ⟨hT, k, rfl, hk⟩ := elemB_t h
    refine .inr (branch_tree hT hk ⟨hk, ?_⟩)
    unfold elemB at h
    rw [Bool.and_eq_true] at h
    have h2 := h.2
    rw [show (k : Int).toNat = k from rfl, nameI_at hk] at h2
    simpa using h2
  · exact .inl rfl

theorem sz_branch {ts : List Tk} {x : Int} (hz : TksSz 1048576 ts) : TksSz 1048576 (branchI ts x) := by
  unfold branchI
  split
  · exact segN_sz hz _
  · exact fun t ht => absurd ht List.not_mem_nil

theorem ans_prune (ts : List Tk) (x : Int) : AnsT (pruneT ts x) := by
  unfold pruneT
  split
  · rename_i h
    split
    · rename_i h2
      unfold pruneB at h2
      simp only [Bool.and_eq_true] at h2
      exact .inr (treeG h2.2.2)
    · exact .inr (treeG h)
  · exact .inl rfl

theorem sz_prune {ts : List Tk} {x : Int} (hz : TksSz 1048576 ts) : TksSz 1048576 (pruneT ts x) := by
  unfold pruneT
  split
  · rename_i h
    split
    · exact cutL_sz (treeG h) hz
    · exact hz
  · exact fun t ht => absurd ht List.not_mem_nil

theorem ans_graft (ts br : List Tk) (x : Int) : AnsT (graftL ts br x) := by
  unfold graftL
  split
  · rename_i h
    split
    · rename_i h2
      unfold graftB at h2
      simp only [Bool.and_eq_true] at h2
      exact .inr (treeG h2.2.2)
    · exact .inr (treeG h)
  · exact .inl rfl

theorem sz_graft {ts br : List Tk} {x : Int} (hz : TksSz 1048576 ts) (hz2 : TksSz 1048576 br) : TksSz 1048576 (graftL ts br x) := by
  unfold graftL
  split
  · split
    · exact put_sz hz hz2
    · exact hz
  · exact fun t ht => absurd ht List.not_mem_nil

theorem ans_wrap (ts : List Tk) (x : Int) (name : ByteArray) : AnsT (wrapT ts x name) := by
  unfold wrapT
  split
  · rename_i h
    split
    · rename_i h2
      unfold wrapB at h2
      simp only [Bool.and_eq_true] at h2
      exact .inr (treeG h2.2.2.2)
    · exact .inr (treeG h)
  · exact .inl rfl

theorem sz_wrap {ts : List Tk} {x : Int} {name : ByteArray} (hz : TksSz 1048576 ts) (hn : name.size ≤ 1048576) : TksSz 1048576 (wrapT ts x name) := by
  unfold wrapT
  split
  · split
    · rename_i h2
      unfold wrapB at h2
      simp only [Bool.and_eq_true] at h2
      obtain ⟨_, k, rfl, hk⟩ := elemB_t h2.2.1
      exact wrapL_sz hk hz hn
    · exact hz
  · exact fun t ht => absurd ht List.not_mem_nil

end Go.Proofs.Ytikplfghepojiaa

namespace Go.Proofs.Ytikplfghepojiaa
open Go.RowKit
set_option linter.unusedVariables false
set_option linter.unusedSimpArgs false

/-- A pile's slice lies in the o-th cell of block g; what it holds lies in a row of its own. -/
structure PileAt (E : TypeId) (s : Nat) (w : World) (B g o : Nat) (cur : Array Value) (T : TypeId) (v : Value) (n : Nat) (cs : List Value) : Prop where
  ge : B ≤ g
  blk : w.heap[g]? = some (.cells cur T (0, 0))
  at_ : cur[o]? = some v
  row : w.ownsRow B E s v n cs
  ne : T ≠ E

theorem PileAt.lt {E s w B g o cur T v n cs} (h : PileAt E s w B g o cur T v n cs) : g < w.heap.size := lt_of_heap h.blk

theorem PileAt.cell {E s w B g o cur T v n cs} (h : PileAt E s w B g o cur T v n cs) : w.cell? ⟨g, o, none⟩ = some v := by
  rw [Lib.cell_of_heap h.blk]
  exact h.at_

theorem PileAt.own_ne {E s w B g o cur T v n cs} (h : PileAt E s w B g o cur T v n cs) : v.ownBlock ≠ some g := by
  intro e
  rcases h.row.2 with ⟨rfl, _⟩ | ⟨b, cap, c, rfl, _, hh, _⟩
  · cases e
  · have : b = g := Option.some.inj e
    subst this
    rw [h.blk] at hh
    injection hh with hh
    injection hh with _ h2 _
    exact h.ne h2

theorem PileAt.below {E s w w' B g o cur T v n cs} (h : PileAt E s w B g o cur T v n cs) (hb : Below w.heap.size w w') : PileAt E s w' B g o cur T v n cs :=
  ⟨h.ge, (hb.block g h.lt).trans h.blk, h.at_, ownsRow_below h.row hb, h.ne⟩

theorem own_less {w : World} {B : Nat} {E : TypeId} {s b n m cap : Nat} {xs : List Value} (h : w.ownsRow B E s (.slice (some ⟨b, 0, none⟩) n cap) n xs) (hm : m ≤ n) : w.ownsRow B E s (.slice (some ⟨b, 0, none⟩) m cap) m (xs.take (m * s)) := by
  rcases h.2 with ⟨e, _⟩ | ⟨g, c, cur, e, h1, h2, h3, h4, h5, h6⟩
  · cases e
  · injection e with e1 e2 e3
    injection e1 with e1
    injection e1 with e1 _ _
    subst e1 e3
    have hms : m * s ≤ n * s := Nat.mul_le_mul_right _ hm
    refine ⟨by rw [List.length_take, h.1]; omega, .inr ⟨b, cap, cur, rfl, h1, h2, by omega, h4, h5, ?_⟩⟩
    rw [← h6, List.take_take]
    congr 1
    omega

/-- What is set in a block that the row does not lie in. -/
theorem own_set {w : World} {B : Nat} {E : TypeId} {s n : Nat} {v : Value} {xs : List Value} (h : w.ownsRow B E s v n xs) {g : Nat} (hg : v.ownBlock ≠ some g) (o : Nat) (u : Value) : (w.setCell ⟨g, o, none⟩ u).ownsRow B E s v n xs :=
  h.kept (Lib.grownBy_setCell w g o u) (.inr hg)

/-- The pile's slice set anew. -/
theorem PileAt.mk_set {E : TypeId} {s : Nat} {w : World} {B g o : Nat} {cur : Array Value} {T : TypeId} {v : Value} (hg : B ≤ g) (hb : w.heap[g]? = some (.cells cur T (0, 0))) (ha : cur[o]? = some v) (hT : T ≠ E) {u : Value} {m : Nat} {ds : List Value} (hu : w.ownsRow B E s u m ds) (hn : u.ownBlock ≠ some g) : PileAt E s (w.setCell ⟨g, o, none⟩ u) B g o (cur.setIfInBounds o u) T u m ds := by
  refine ⟨hg, heap_setCell_same w g o cur T u hb, ?_, own_set hu hn o u, hT⟩
  have : o < cur.size := (Array.getElem?_eq_some_iff.1 ha).1
  simp [this]

theorem PileAt.set {E s w B g o cur T v n cs} (h : PileAt E s w B g o cur T v n cs) {u : Value} {m : Nat} {ds : List Value} (hu : w.ownsRow B E s u m ds) (hg : u.ownBlock ≠ some g) : PileAt E s (w.setCell ⟨g, o, none⟩ u) B g o (cur.setIfInBounds o u) T u m ds :=
  PileAt.mk_set h.ge h.blk h.at_ h.ne hu hg

theorem PileAt.drew {E s w B g o cur T v n cs} (h : PileAt E s w B g o cur T v n cs) : PileAt E s w.drew B g o cur T v n cs := ⟨h.ge, h.blk, h.at_, h.row.drew, h.ne⟩

theorem KeepB.drew {p : Nat → Prop} {w w' : World} (h : KeepB p w w') : KeepB p w w'.drew := ⟨h.os, h.tape, h.output, h.size, h.block⟩

theorem PileAt.keep {E s w w' B g o cur T v n cs x} (h : PileAt E s w B g o cur T v n cs) (hk : KeepB (fun k => k = x) w w') (h1 : g ≠ x) (h2 : v.ownBlock ≠ some x) : PileAt E s w' B g o cur T v n cs :=
  ⟨h.ge, (hk.block g h.lt h1).trans h.blk, h.at_, h.row.kept (row := some x) ⟨hk.os, hk.tape, hk.output, hk.size, fun k hk1 hk2 => hk.block k hk1 (fun e => hk2 (by rw [e]))⟩ (.inr h2), h.ne⟩

def lenV : Value → Nat
  | .slice _ n _ => n
  | _ => 0

theorem own_len {w : World} {B : Nat} {E : TypeId} {s n : Nat} {v : Value} {xs : List Value} (h : w.ownsRow B E s v n xs) : ∃ a c, v = .slice a n c := by
  rcases h.2 with ⟨rfl, rfl⟩ | ⟨g, cap, cur, rfl, _⟩
  · exact ⟨none, 0, rfl⟩
  · exact ⟨_, _, rfl⟩

theorem own_pos {w : World} {B : Nat} {E : TypeId} {s n : Nat} {v : Value} {xs : List Value} (h : w.ownsRow B E s v n xs) (hn : 0 < n) : ∃ b c, v = .slice (some ⟨b, 0, none⟩) n c ∧ b < w.heap.size ∧ B ≤ b ∧ n ≤ c ∧ ∀ j, j < n * s → w.cell? ⟨b, j, none⟩ = xs[j]? := by
  rcases h.2 with ⟨rfl, rfl⟩ | ⟨g, cap, cur, rfl, hB, hh, hc, _, hs, ht⟩
  · omega
  · refine ⟨g, cap, rfl, lt_of_heap hh, hB, hc, fun j hj => ?_⟩
    rw [Lib.cell_of_heap hh, ← ht, List.getElem?_take, if_pos hj, Array.getElem?_toList]

/-- Numbers, the top first. -/
abbrev PileI (w : World) (B g o : Nat) (cur : Array Value) (T : TypeId) (v : Value) (L : List Nat) : Prop := PileAt 2 1 w B g o cur T v L.length (intC L.reverse)

theorem rev_last (x : Nat) (L : List Nat) : (intC (x :: L).reverse)[L.length]? = some (.int .i64 (x : Int)) := by
  rw [List.reverse_cons, intC_app, List.getElem?_append_right (by rw [intC_len, List.length_reverse]; exact Nat.le_refl _)]
  simp [intC]

theorem rev_take (x : Nat) (L : List Nat) : (intC (x :: L).reverse).take (L.length * 1) = intC L.reverse := by
  rw [List.reverse_cons, intC_app, List.take_left' (by rw [intC_len, List.length_reverse, Nat.mul_one])]

theorem PileAt.less {w : World} {B g o b c n : Nat} {cur : Array Value} {T : TypeId} {x : Nat} {L : List Nat} (h : PileI w B g o cur T (.slice (some ⟨b, 0, none⟩) (x :: L).length c) (x :: L)) (hn : L.length = n) :
    PileI (w.setCell ⟨g, o, none⟩ (.slice (some ⟨b, 0, none⟩) n c)) B g o (cur.setIfInBounds o (.slice (some ⟨b, 0, none⟩) n c)) T (.slice (some ⟨b, 0, none⟩) n c) L := by
  subst hn
  have h1 := own_less (m := L.length) h.row (by rw [List.length_cons]; omega)
  rw [rev_take] at h1
  exact h.set h1 h.own_ne

set_option maxHeartbeats 1000000 in
theorem cPiSize (B g o : Nat) (cur : Array Value) (T : TypeId) (v : Value) (L : List Nat) (w : World) (h : PileI w B g o cur T v L) :
    Calls Try.prog 87 #[.pointer (some ⟨g, o, none⟩)] w fun e w' => e = .returned (.int .i64 (L.length : Nat)) ∧ w' = w := by
  have c0 := h.cell
  obtain ⟨a, c, rfl⟩ := own_len h.row
  clear h
  generalize L.length = n at *
  go_enter Try.func87, Try.ntmps87
  go_wp2
  go_ret
  exact ⟨rfl, rfl⟩

set_option maxHeartbeats 1000000 in
theorem cPiTop0 (B g o : Nat) (cur : Array Value) (T : TypeId) (v : Value) (w : World) (h : PileI w B g o cur T v []) :
    Calls Try.prog 100 #[.pointer (some ⟨g, o, none⟩)] w fun e w' => e = .returned (.tuple #[.int .i64 0, .bool false]) ∧ Below w.heap.size w w' := by
  have c0 := h.cell
  obtain ⟨a, c, rfl⟩ := own_len h.row
  clear h
  go_enter Try.func100, Try.ntmps100
  go_wp2
  go_ret2
  exact ⟨rfl, Below.refl _ _⟩

set_option maxHeartbeats 1000000 in
theorem cPiTop (B g o : Nat) (cur : Array Value) (T : TypeId) (v : Value) (x : Nat) (L : List Nat) (w : World) (h : PileI w B g o cur T v (x :: L)) (hn : L.length ≤ 1048576) :
    Calls Try.prog 100 #[.pointer (some ⟨g, o, none⟩)] w fun e w' => e = .returned (.tuple #[.int .i64 (x : Int), .bool true]) ∧ Below w.heap.size w w' := by
  have c0 := h.cell
  obtain ⟨b, c, rfl, hb, _, hc, hcs⟩ := own_pos h.row (Nat.succ_pos _)
  have c1 := hcs L.length (by rw [List.length_cons]; omega)
  rw [rev_last] at c1
  clear h hcs
  rw [List.length_cons] at c0 hc
  obtain ⟨n, hnn⟩ : ∃ n, L.length = n := ⟨_, rfl⟩
  rw [hnn] at c0 c1 hn hc
  clear hnn
  have hq : ((n + 1 : Nat) : Int) = (n : Int) + 1 := by omega
  have hd : (((n : Int) + 1) == 0) = false := by simp; omega
  go_enter Try.func100, Try.ntmps100
  go_wp2_with fail
  go_quiet (fail)
  go_wp2_with fail
  go_ret2
  exact ⟨rfl, below_drewN (Below.refl _ _) _⟩

end Go.Proofs.Ytikplfghepojiaa
