/- The shape of a row of nodes: of a copy among the laws' arguments, and of one that grew. What the exact laws of branches ask of what is answered: a tree, or nothing; few nodes, of few attrs. Edits: laid, opened, sized, copied, compared, marked. -/
import Derived.Test.YtkejmifkjgpdjaaM4
import Derived.Test.YtkejmifkjgpdjaaM10
import Derived.Test.YtkejmifkjgpdjaaM16
import Derived.Test.YtkejmifkjgpdjaaM15
import Derived.Test.YtkejmifkjgpdjaaM14
import Derived.Test.YtkejmifkjgpdjaaM3
import Derived.Test.YtkejmifkjgpdjaaM2
import Derived.Lib.SmallJoins
import Derived.Deep.SlicePairs
import Derived.ProofKit
import Derived.OpenShut
namespace Go.Proofs.Ytkejmifkjgpdjaa.Nd
open Go.RowKit
set_option linter.unusedVariables false
set_option linter.unusedSimpArgs false

def atT (ts : List Tk) (j : Nat) : Tk := match ts[j]? with | some t => t | none => ⟨0, ⟨#[]⟩, [], ⟨#[]⟩⟩

theorem atT_at {ts : List Tk} {j : Nat} (h : j < ts.length) : atT ts j = ts[j] := by unfold atT; rw [List.getElem?_eq_getElem h]

def shL (g : Nat) (G : Nat → Nat) (ts : List Tk) : Shape where
  R := g
  o := 0
  n := ts.length
  len := fun j => (atT ts j).attrs.length
  aa := fun j => some ⟨G j, 0, none⟩
  A := G
  O := fun _ => 0
  C := fun j => (atT ts j).attrs.length

theorem Laid.shape {ts : List Tk} {g : Nat} {G : Nat → Nat} {cur : Array Value} {w : World} (h : Laid ts g ts.length G cur w) (hh : w.heap[g]? = some (.cells cur 50 (0, 0))) : (shL g G ts).Ok g ∧ HoldsN (shL g G ts) w (atT ts) := by
  refine ⟨⟨Nat.le_refl _, fun j hj hl => ?_, fun i j hi hj hne _ _ e => ?_⟩, ⟨⟨cur, hh, fun j hj => ?_⟩, fun j hj => rfl, fun j hj hl => ?_⟩⟩
  · have := (h.row j hj hj).1
    exact ⟨rfl, by show g ≤ G j; omega, by show ¬ G j = g; omega⟩
  · have e : G i = G j := e
    rcases Nat.lt_or_gt_of_ne hne with h' | h'
    · have := h.later i j h' hj
      omega
    · have := h.later j i h' hi
      omega
  · obtain ⟨k0, k1, k2, k3⟩ := h.cells j hj hj
    have e := atT_at (ts := ts) hj
    rw [show (shL g G ts).o + j * 4 = j * 4 from Nat.zero_add _]
    exact ⟨by rw [e]; exact k0, by rw [e]; exact k1, by rw [show (shL g G ts).C j = ts[j].attrs.length from by show (atT ts j).attrs.length = _; rw [e], e]; exact k2, by rw [e]; exact k3⟩
  · obtain ⟨_, cu, h1, h2⟩ := h.row j hj hj
    refine ⟨cu, h1, ?_⟩
    rw [atT_at hj]
    exact h2

theorem shL_K (g : Nat) (G : Nat → Nat) (ts : List Tk) (k : Nat) : ∀ m, m ≤ ts.length → (shL g G ts).K k m = k + 3 * m + 2 * sumA (ts.take m)
  | 0, _ => rfl
  | m + 1, h => by
    show (shL g G ts).K k m + (3 + 2 * (atT ts m).attrs.length) = _
    rw [shL_K g G ts k m (by omega), take_snocN (show m < ts.length by omega), sumA_snoc, atT_at (show m < ts.length by omega)]
    omega

def shR (g : Nat) (es : List E) : Shape where
  R := g
  o := 0
  n := es.length
  len := fun j => match es[j]? with | some e => e.t.attrs.length | none => 0
  aa := fun j => match es[j]? with | some e => e.a | none => none
  A := fun j => match es[j]? with | some ⟨_, some ad, _⟩ => ad.block | _ => 0
  O := fun j => match es[j]? with | some ⟨_, some ad, _⟩ => ad.off | _ => 0
  C := fun j => match es[j]? with | some e => e.cap | none => 0

def eAt (es : List E) (j : Nat) : Tk := match es[j]? with | some e => e.t | none => ⟨0, ⟨#[]⟩, [], ⟨#[]⟩⟩

theorem eAt_map {es : List E} {ts : List Tk} (h : es.map (·.t) = ts) (j : Nat) (hj : j < ts.length) : eAt es j = ts[j] := by
  have hl : es.length = ts.length := by rw [← h, List.length_map]
  unfold eAt
  rw [List.getElem?_eq_getElem (by omega)]
  subst h
  simp

theorem shR_at (g : Nat) (es : List E) (j : Nat) (hj : j < es.length) : (shR g es).len j = es[j].t.attrs.length ∧ (shR g es).aa j = es[j].a ∧ (shR g es).C j = es[j].cap ∧ eAt es j = es[j].t
    ∧ ∀ b o, es[j].a = some ⟨b, o, none⟩ → (shR g es).A j = b ∧ (shR g es).O j = o := by
  have he := List.getElem?_eq_getElem hj
  refine ⟨?_, ?_, ?_, ?_, fun b o hb => ?_⟩
  · show (match es[j]? with | some e => e.t.attrs.length | none => 0) = _
    rw [he]
  · show (match es[j]? with | some e => e.a | none => none) = _
    rw [he]
  · show (match es[j]? with | some e => e.cap | none => 0) = _
    rw [he]
  · unfold eAt
    rw [he]
  · obtain ⟨x, hx⟩ : ∃ x, es[j] = x := ⟨_, rfl⟩
    rw [hx] at he hb
    obtain ⟨t, a, c⟩ := x
    simp only at hb
    subst hb
    exact ⟨by show (match es[j]? with | some ⟨_, some ad, _⟩ => ad.block | _ => 0) = _; rw [he], by show (match es[j]? with | some ⟨_, some ad, _⟩ => ad.off | _ => 0) = _; rw [he]⟩

theorem Row.shape {w : World} {B : Nat} {v : Value} {es : List E} (h : Row w B v es) (hne : ¬ es = []) :
    ∃ (g : Nat) (cap : Nat), v = .slice (some ⟨g, 0, none⟩) es.length cap ∧ (shR g es).Ok B ∧ HoldsN (shR g es) w (eAt es) := by
  rcases h.own.2 with ⟨_, h0⟩ | ⟨g, cap, cur, rfl, hg, hh, hn, hc, hs, ht⟩
  · exact absurd (List.eq_nil_of_length_eq_zero h0) hne
  · refine ⟨g, cap, rfl, ⟨hg, fun j hj hl => ?_, fun i j hi hj hne hl hl' => ?_⟩, ⟨⟨cur, hh, fun j hj => ?_⟩, fun j hj => ?_, fun j hj hl => ?_⟩⟩
    · obtain ⟨s1, s2, s3, s4, s5⟩ := shR_at g es j hj
      rw [s1] at hl
      obtain ⟨b, o, cu, e, hB, _⟩ := (h.ats _ (List.getElem_mem hj)).1 hl
      obtain ⟨s6, s7⟩ := s5 b o e
      rw [s2, s6, s7]
      exact ⟨e, hB, fun x => (h.ats _ (List.getElem_mem hj)).2 b o hl e (by rw [x]; rfl)⟩
    · obtain ⟨s1, s2, s3, s4, s5⟩ := shR_at g es i hi
      obtain ⟨t1, t2, t3, t4, t5⟩ := shR_at g es j hj
      rw [s1] at hl
      rw [t1] at hl'
      obtain ⟨b, o, _, e, _⟩ := (h.ats _ (List.getElem_mem hi)).1 hl
      obtain ⟨b', o', _, e', _⟩ := (h.ats _ (List.getElem_mem hj)).1 hl'
      rw [(s5 b o e).1, (t5 b' o' e').1]
      have hi : i < es.length := hi
      have hj : j < es.length := hj
      rcases Nat.lt_or_gt_of_ne hne with h' | h'
      · exact List.pairwise_iff_getElem.1 h.apart i j hi hj h' hl hl' b o b' o' e e'
      · exact fun x => List.pairwise_iff_getElem.1 h.apart j i hj hi h' hl' hl b' o' b o e' e x.symm
    · obtain ⟨s1, s2, s3, s4, s5⟩ := shR_at g es j hj
      obtain ⟨k0, k1, k2, k3⟩ := cs_get es j hj
      have hx : ∀ k u, (cs es)[k]? = some u → cur[0 + k]? = some u := by
        intro k u hk
        rw [Nat.zero_add, ← Array.getElem?_toList]
        rw [← ht, List.getElem?_take] at hk
        split at hk
        · exact hk
        · cases hk
      rw [s2, s3, s4]
      exact ⟨hx _ _ k0, hx _ _ k1, hx _ _ k2, hx _ _ k3⟩
    · obtain ⟨s1, s2, s3, s4, s5⟩ := shR_at g es j hj
      rw [s4, s1]
    · obtain ⟨s1, s2, s3, s4, s5⟩ := shR_at g es j hj
      rw [s1] at hl
      obtain ⟨b, o, cu, e, _, hhb, hcl⟩ := (h.ats _ (List.getElem_mem hj)).1 hl
      obtain ⟨s6, s7⟩ := s5 b o e
      rw [s6, s7, s4]
      exact ⟨cu, hhb, hcl⟩

theorem shR_K (g : Nat) (es : List E) (ts : List Tk) (hm : es.map (·.t) = ts) (k : Nat) : ∀ m, m ≤ ts.length → (shR g es).K k m = k + 3 * m + 2 * sumA (ts.take m)
  | 0, _ => rfl
  | m + 1, h => by
    have hl : es.length = ts.length := by rw [← hm, List.length_map]
    show (shR g es).K k m + (3 + 2 * (shR g es).len m) = _
    have e1 : es[m].t = ts[m] := by subst hm; simp
    rw [shR_K g es ts hm k m (by omega), take_snocN (show m < ts.length by omega), sumA_snoc, (shR_at g es m (by omega)).1, e1]
    omega

theorem Row.keep {w w' : World} {B : Nat} {v : Value} {es : List E} {p : Nat → Prop} (h : Row w B v es) (k : KeepB p w w') (hp : ∀ b, p b → b < B) : Row w' B v es := by
  have key : ∀ b o, B ≤ b → w.heap[b]? = some o → w'.heap[b]? = some o := fun b o hb hh => (k.block b (lt_of_heap hh) (fun x => by have := hp b x; omega)).trans hh
  refine ⟨⟨h.own.1, ?_⟩, fun e he => ⟨fun hl => ?_, (h.ats e he).2⟩, h.apart⟩
  · rcases h.own.2 with h' | ⟨g, cap, cur, h1, h2, h3, h4⟩
    · exact .inl h'
    · exact .inr ⟨g, cap, cur, h1, h2, key g _ h2 h3, h4⟩
  · obtain ⟨g, o, cu, e1, e2, e3, e4⟩ := (h.ats e he).1 hl
    exact ⟨g, o, cu, e1, e2, key g _ e2 e3, e4⟩

theorem cMarkNone (a : Option Addr) (cap k : Nat) (w : World) (hk : k ≤ 100000000) :
    Calls Try.prog 12 #[.slice a 0 cap, .int .i64 k] w fun e w' => e = .returned (.int .i64 k) ∧ w' = w := by
  go_enter Try.func12, Try.ntmps12
  go_wp2
  go_loopw [1, 5] (fun x y wr => x = .int .i64 k ∧ y = .int .i64 0 ∧ wr = w) (fun _ _ _ => 0)
  case atStart => exact ⟨rfl, rfl, rfl⟩
  case round =>
    obtain ⟨rfl, rfl, rfl⟩ := hrel
    go_wp2
    go_ret
    exact ⟨rfl, rfl⟩

theorem cHeldNone (a : Option Addr) (cap k : Nat) (w : World) (hk : k ≤ 100000000) :
    Calls Try.prog 14 #[.slice a 0 cap, .int .i64 k] w fun e w' => e = .returned (.int .i64 k) ∧ w' = w := by
  go_enter Try.func14, Try.ntmps14
  go_wp2
  go_loopw [1, 5] (fun x y wr => x = .int .i64 k ∧ y = .int .i64 0 ∧ wr = w) (fun _ _ _ => 0)
  case atStart => exact ⟨rfl, rfl, rfl⟩
  case round =>
    obtain ⟨rfl, rfl, rfl⟩ := hrel
    go_wp2
    go_ret
    exact ⟨rfl, rfl⟩

end Go.Proofs.Ytkejmifkjgpdjaa.Nd

namespace Go.Proofs.Ytkejmifkjgpdjaa
open Go.RowKit
set_option linter.unusedVariables false

theorem Nd.Row.rdG {w : World} {B c : Nat} {a : Option Addr} {es : List Nd.E} {L : List Tk} (h : Nd.Row w B (.slice a es.length c) es) (hm : es.map (·.t) = L) : es.length = L.length ∧ TkRow w a L := by
  have hl : es.length = L.length := by rw [← hm, List.length_map]
  obtain ⟨a2, c2, e, ht⟩ := h.tkRow
  obtain ⟨rfl, rfl⟩ : a = a2 ∧ c = c2 := by cases e; exact ⟨rfl, rfl⟩
  rw [hm] at ht
  exact ⟨hl, ht⟩

/-- The blocks of a copy: from its own on, and there. -/
theorem Nd.Laid.hasG {ts : List Tk} {g : Nat} {G : Nat → Nat} {cur : Array Value} {w : World} (h : Nd.Laid ts g ts.length G cur w) (hh : w.heap[g]? = some (.cells cur 50 (0, 0))) : ∀ b, (Nd.shL g G ts).Has b → g ≤ b ∧ b < w.heap.size := by
  rintro b (rfl | ⟨j, hj, _, rfl⟩)
  · exact ⟨Nat.le_refl _, lt_of_heap hh⟩
  · obtain ⟨h1, cu, h2, _⟩ := h.row j hj hj
    have h3 := lt_of_heap h2
    exact ⟨Nat.le_of_lt h1, h3⟩

theorem sumG {L : List Tk} (h : ∀ t ∈ L, t.attrs.length ≤ 6) : Nd.sumA L ≤ 6 * L.length := by
  unfold Nd.sumA
  induction L with
  | nil => simp
  | cons t L ih =>
    have := ih (fun x hx => h x (List.mem_cons_of_mem _ hx))
    have h2 := h t (List.mem_cons_self ..)
    simp only [List.map_cons, List.sum_cons, List.length_cons]
    omega

theorem treeG {ts : List Tk} (h : treeB ts = true) : TreeP ts := by unfold treeB at h; simpa using h

/-- A tree, or nothing. -/
def AnsT (R : List Tk) : Prop := R = [] ∨ TreeP R

theorem AnsT.len {R : List Tk} (h : AnsT R) : R.length ≤ 50 := by
  rcases h with h | h
  · rw [h]; exact Nat.zero_le _
  · exact h.2.1

theorem AnsT.six {R : List Tk} (h : AnsT R) : ∀ t ∈ R, t.attrs.length ≤ 6 := by
  rcases h with h | h
  · rw [h]; exact fun t ht => absurd ht List.not_mem_nil
  · intro t ht
    obtain ⟨k, hk, rfl⟩ := List.getElem_of_mem ht
    obtain ⟨⟨_, hb⟩, _⟩ := h.2.2.2.2 k hk
    by_cases e : R[k].name.size = 0
    · rw [nodeB_tx e] at hb
      simp only [Bool.and_eq_true, decide_eq_true_eq] at hb
      omega
    · rw [nodeB_el e] at hb
      simp only [Bool.and_eq_true] at hb
      have h2 := hb.2.1
      unfold attrsB at h2
      have h3 : AttrsOk R[k].attrs := by simpa using h2
      exact h3.1

theorem ans_branch (ts : List Tk) (x : Int) : AnsT (branchI ts x) := by
  unfold branchI
  split
  · rename_i h
    obtain ⟨hT, k, rfl, hk⟩ := elemB_t h
    refine .inr (branch_tree hT hk ⟨hk, ?_⟩)
    unfold elemB at h
    rw [Bool.and_eq_true] at h
    have h2 := h.2
    rw [show (k : Int).toNat = k from rfl, nameI_at hk] at h2
    simpa using h2
  · exact .inl rfl

theorem sz_branch {ts : List Tk} {x : Int} (hz : TksSz 1048576 ts) : TksSz 1048576 (branchI ts x) := by
  unfold branchI
  split
  · exact segN_sz hz _
  · exact fun t ht => absurd ht List.not_mem_nil

theorem ans_prune (ts : List Tk) (x : Int) : AnsT (pruneT ts x) := by
  unfold pruneT
  split
  · rename_i h
    split
    · rename_i h2
      unfold pruneB at h2
      simp only [Bool.and_eq_true] at h2
      exact .inr (treeG h2.2.2)
    · exact .inr (treeG h)
  · exact .inl rfl

theorem sz_prune {ts : List Tk} {x : Int} (hz : TksSz 1048576 ts) : TksSz 1048576 (pruneT ts x) := by
  unfold pruneT
  split
  · rename_i h
    split
    · exact cutL_sz (treeG h) hz
    · exact hz
  · exact fun t ht => absurd ht List.not_mem_nil

theorem ans_graft (ts br : List Tk) (x : Int) : AnsT (graftL ts br x) := by
  unfold graftL
  split
  · rename_i h
    split
    · rename_i h2
      unfold graftB at h2
      simp only [Bool.and_eq_true] at h2
      exact .inr (treeG h2.2.2)
    · exact .inr (treeG h)
  · exact .inl rfl

theorem sz_graft {ts br : List Tk} {x : Int} (hz : TksSz 1048576 ts) (hz2 : TksSz 1048576 br) : TksSz 1048576 (graftL ts br x) := by
  unfold graftL
  split
  · split
    · exact put_sz hz hz2
    · exact hz
  · exact fun t ht => absurd ht List.not_mem_nil

theorem ans_wrap (ts : List Tk) (x : Int) (name : ByteArray) : AnsT (wrapT ts x name) := by
  unfold wrapT
  split
  · rename_i h
    split
    · rename_i h2
      unfold wrapB at h2
      simp only [Bool.and_eq_true] at h2
      exact .inr (treeG h2.2.2.2)
    · exact .inr (treeG h)
  · exact .inl rfl

theorem sz_wrap {ts : List Tk} {x : Int} {name : ByteArray} (hz : TksSz 1048576 ts) (hn : name.size ≤ 1048576) : TksSz 1048576 (wrapT ts x name) := by
  unfold wrapT
  split
  · split
    · rename_i h2
      unfold wrapB at h2
      simp only [Bool.and_eq_true] at h2
      obtain ⟨_, k, rfl, hk⟩ := elemB_t h2.2.1
      exact wrapL_sz hk hz hn
    · exact hz
  · exact fun t ht => absurd ht List.not_mem_nil

end Go.Proofs.Ytkejmifkjgpdjaa

namespace Go.Proofs.Ytkejmifkjgpdjaa
open Go.RowKit
open Go.ChangeShapes Go.WideShapes Go.ChangeAt
set_option linter.unusedVariables false
set_option linter.unusedSimpArgs false

/-- An edit. -/
structure Ed where
  kind : Int
  pos : Int
  frm : Int
  name : ByteArray

/-- An edit as a value. -/
def edV (e : Ed) : Value := .agg #[.int .i64 e.kind, .int .i64 e.pos, .int .i64 e.frm, .string e.name]

/-- Edits that can be read. -/
def EdRow (w : World) (a : Option Addr) (l : List Ed) : Prop :=
  ∀ j (h : j < l.length), ∃ b o, a = some ⟨b, o, none⟩ ∧ b < w.heap.size ∧ w.cell? ⟨b, o + j * 4, none⟩ = some (.int .i64 l[j].kind) ∧ w.cell? ⟨b, o + j * 4 + 1, none⟩ = some (.int .i64 l[j].pos) ∧ w.cell? ⟨b, o + j * 4 + 2, none⟩ = some (.int .i64 l[j].frm) ∧ w.cell? ⟨b, o + j * 4 + 3, none⟩ = some (.string l[j].name)

theorem EdRow.below {w w' : World} {a : Option Addr} {l : List Ed} (h : EdRow w a l) (hb : Below w.heap.size w w') : EdRow w' a l := by
  intro j hj
  obtain ⟨b, o, ha, hlt, c0, c1, c2, c3⟩ := h j hj
  exact ⟨b, o, ha, Nat.lt_of_lt_of_le hlt hb.size, (hb.cell (p := ⟨b, o + j * 4, none⟩) hlt).trans c0, (hb.cell (p := ⟨b, o + j * 4 + 1, none⟩) hlt).trans c1, (hb.cell (p := ⟨b, o + j * 4 + 2, none⟩) hlt).trans c2, (hb.cell (p := ⟨b, o + j * 4 + 3, none⟩) hlt).trans c3⟩

/-- Cells that hold edits. -/
def EdCells (cu : Array Value) (o : Nat) (l : List Ed) : Prop := ∀ m (h : m < l.length), cu[o + m * 4]? = some (.int .i64 l[m].kind) ∧ cu[o + m * 4 + 1]? = some (.int .i64 l[m].pos) ∧ cu[o + m * 4 + 2]? = some (.int .i64 l[m].frm) ∧ cu[o + m * 4 + 3]? = some (.string l[m].name)

theorem EdCells.row {w : World} {g o : Nat} {cu : Array Value} {T : TypeId} {l : List Ed} (h : EdCells cu o l) (hh : w.heap[g]? = some (.cells cu T (0, 0))) : EdRow w (some ⟨g, o, none⟩) l := fun j hj =>
  ⟨g, o, rfl, lt_of_heap hh, by rw [Lib.cell_of_heap hh]; exact (h j hj).1, by rw [Lib.cell_of_heap hh]; exact (h j hj).2.1, by rw [Lib.cell_of_heap hh]; exact (h j hj).2.2.1, by rw [Lib.cell_of_heap hh]; exact (h j hj).2.2.2⟩

/-- Names of at most so many bytes. -/
def EdSz (n : Nat) (l : List Ed) : Prop := ∀ x ∈ l, x.name.size ≤ n

theorem EdSz.mono {n m : Nat} {l : List Ed} (h : EdSz n l) (hm : n ≤ m) : EdSz m l := fun x hx => Nat.le_trans (h x hx) hm

theorem v_blk_below {w w1 : World} {B : Nat} {o : Obj} (h : w.heap[B]? = some o) (k : Below w.heap.size w w1) : w1.heap[B]? = some o := (k.block B (lt_of_heap h)).trans h

theorem v_gr_trans {w w1 w2 : World} {row : Option Nat} (h : w.grownBy w1 row) (k : w1.grownBy w2 row) : w.grownBy w2 row :=
  ⟨k.os.trans h.os, k.tape.trans h.tape, k.output.trans h.output, Nat.le_trans h.size k.size, fun i hi hr => (k.block i (Nat.lt_of_lt_of_le hi h.size) hr).trans (h.block i hi hr)⟩

theorem v_gr_below {w w1 w2 : World} {row : Option Nat} (h : w.grownBy w1 row) (k : Below w1.heap.size w1 w2) : w.grownBy w2 row :=
  ⟨k.os.trans h.os, k.tape.trans h.tape, k.output.trans h.output, Nat.le_trans h.size k.size, fun i hi hr => (k.block i (Nat.lt_of_lt_of_le hi h.size)).trans (h.block i hi hr)⟩

theorem v_gr_set {w w1 : World} {b : Nat} (h : w.grownBy w1 (some b)) (j : Nat) (v : Value) : w.grownBy (w1.setCell ⟨b, j, none⟩ v) (some b) := v_gr_trans h (Lib.grownBy_setCell w1 b j v)

/-- A store into a row of cells. -/
theorem v_heap_set {w : World} {g i : Nat} {cur : Array Value} {T : TypeId} (h : w.heap[g]? = some (.cells cur T (0, 0))) (v : Value) :
    (w.setCell ⟨g, i, none⟩ v).heap[g]? = some (.cells (cur.setIfInBounds i v) T (0, 0)) := by
  simp [World.setCell, Array.getElem?_modify, h]

theorem v_cell_there {w : World} {g i : Nat} {cur : Array Value} {T : TypeId} (h : w.heap[g]? = some (.cells cur T (0, 0))) (hi : i < cur.size) : ∃ v, w.cell? ⟨g, i, none⟩ = some v := by
  rw [Lib.cell_of_heap h]
  exact ⟨cur[i], Array.getElem?_eq_getElem hi⟩

set_option maxRecDepth 100000 in
theorem edits_of {H : Type} {enc : TypeId × Value → H} {W : World} {fuel : Nat} {v : Value} {x : DataW H × List MemPlace}
    (h : DataW.trod enc Try.prog W 0 (fun _ => true) true fuel 23 [v] = some x) (hlt : ∀ y ∈ x.2, y.block < W.heap.size) :
    ∃ (a : Option Addr) (cap : Nat) (l : List Ed), v = .slice a l.length cap ∧ l.length ≤ maxLen ∧ EdRow W a l ∧ EdSz maxLen l := by
  rcases Deep.open_slice Try.underlying23 h with ⟨hcs, hx⟩ | ⟨a, len, cap, m, n, D, Pl, hcs, _, hl, hm, hmm, hx, hall⟩
  · simp only [List.cons.injEq, and_true] at hcs
    subst hcs
    exact ⟨none, 0, [], rfl, by simp, fun j h => by simp at h, fun s h => by simp at h⟩
  · simp only [List.cons.injEq, and_true] at hcs
    subst hcs
    simp only [if_true] at hmm
    subst hmm
    have ce : Try.prog.cellsOf 43 = 4 := by kernel_rfl
    have cI : Try.prog.cellsOf 2 = 1 := by kernel_rfl
    have cS : Try.prog.cellsOf 9 = 1 := by kernel_rfl
    have each : ∀ i, i < m → ∃ q : Ed, W.cell? (a.add (i * 4)) = some (.int .i64 q.kind) ∧ W.cell? (a.add (i * 4 + 1)) = some (.int .i64 q.pos) ∧ W.cell? (a.add (i * 4 + 2)) = some (.int .i64 q.frm) ∧ W.cell? (a.add (i * 4 + 3)) = some (.string q.name)
        ∧ q.name.size ≤ maxLen := by
      intro i hi
      obtain ⟨cs', h1, h2⟩ := hall i hi
      rw [ce] at h1
      obtain ⟨_, hlen, hcell⟩ := World.cells?_some h1
      obtain ⟨xs, k, hk, hxy, _, hxl, hf⟩ := DataW.trod_struct Try.underlying43 h2
      match xs, hxl, cs', hlen with
      | [y0, y1, y2, y3], _, [v0, v1, v2, v3], _ =>
        have g0 := hf 0 _ rfl
        have g1 := hf 1 _ rfl
        have g2 := hf 2 _ rfl
        have g3 := hf 3 _ rfl
        simp [cI, cS] at g0 g1 g2 g3
        have e0 := hcell 0 (by omega)
        have e1 := hcell 1 (by omega)
        have e2 := hcell 2 (by omega)
        have e3 := hcell 3 (by omega)
        rw [Deep.add_add] at e0 e1 e2 e3
        obtain ⟨kn, hkn, _, wn⟩ := DataW.trod_int Try.underlying2 g0
        obtain ⟨ke, hke, _, we⟩ := DataW.trod_int Try.underlying2 g1
        obtain ⟨kd, hkd, _, wd⟩ := DataW.trod_int Try.underlying2 g2
        obtain ⟨s, hs, _, ws⟩ := DataW.trod_string Try.underlying9 g3
        simp only [List.cons.injEq, and_true] at hs hkn hke hkd
        subst hs hkn hke hkd
        exact ⟨⟨kn, ke, kd, s⟩, by simpa using e0, by simpa using e1, by simpa using e2, by simpa using e3, ws⟩
    haveI : Inhabited Ed := ⟨⟨0, 0, 0, ⟨#[]⟩⟩⟩
    obtain ⟨q, hq⟩ := Deep.choose_lt each
    refine ⟨some a, m, (List.range len).map fun i => q i, by simp, by simp; omega, fun j hj => ?_, fun y hy => ?_⟩
    · simp only [List.length_map, List.length_range] at hj
      obtain ⟨b, off, spot⟩ := a
      obtain ⟨c0, c1, c2, c3, _⟩ := hq j (by omega)
      have hspot : spot = none := by simpa [Addr.add] using World.cell?_spot (hq 0 (by omega)).1
      subst hspot
      rw [add_plain] at c0 c1 c2 c3
      refine ⟨b, off, rfl, hlt (.cell b off) (by rw [hx, ce]; exact List.mem_append_left _ (MemPlace.mem_row.2 ⟨0, by omega, by simp⟩)), ?_, ?_, ?_, ?_⟩
      · rw [c0]; simp
      · rw [← Nat.add_assoc] at c1; rw [c1]; simp
      · rw [← Nat.add_assoc] at c2; rw [c2]; simp
      · rw [← Nat.add_assoc] at c3; rw [c3]; simp
    · obtain ⟨i, hi, rfl⟩ := List.mem_map.1 hy
      exact (hq i (by have := List.mem_range.1 hi; omega)).2.2.2.2

theorem edits_arg {H : Type} {enc : TypeId × Value → H} {W : World} {v : Value} {d : DataW H} {p : List MemPlace}
    (h : DataW.Trod enc Try.prog W 0 (fun _ => true) true 23 v d p) (hv : ∃ a len cap, v = .slice a len cap) (hlt : ∀ y ∈ p, y.block < W.heap.size) :
    ∃ (a : Option Addr) (cap : Nat) (l : List Ed), v = .slice a l.length cap ∧ l.length ≤ maxLen ∧ EdRow W a l ∧ EdSz maxLen l := by
  obtain ⟨fuel, hf⟩ := h
  obtain ⟨a, len, cap, rfl⟩ := hv
  exact edits_of (x := (d, p)) (by simpa [Value.cells] using hf) hlt

set_option maxHeartbeats 1000000 in
theorem cSzEdit (k p f : Int) (x : ByteArray) (L : Nat) (w : World) (hL : L ≤ 1048576) (hx : x.size ≤ maxLen) :
    Calls Try.prog 16 #[.agg #[.int .i64 k, .int .i64 p, .int .i64 f, .string x], .int .i64 L] w fun e w' => ∃ r : Int, e = .returned (.int .i64 r) ∧ (r = -1 ∨ 0 ≤ r ∧ r = L - x.size) ∧ Below w.heap.size w w' := by
  unfold maxLen at hx
  by_cases h1 : (L : Int) - x.size < 0
  · go_enter Try.func16, Try.ntmps16
    go_wp2
    go_ret
    exact ⟨-1, rfl, .inl rfl, (Below.refl _ _).alloc (Nat.le_refl _) _⟩
  · go_enter Try.func16, Try.ntmps16
    go_wp2
    go_ret
    exact ⟨(L : Int) - x.size, rfl, .inr ⟨by omega, rfl⟩, (Below.refl _ _).alloc (Nat.le_refl _) _⟩

set_option maxHeartbeats 2000000 in
theorem cSzEditS (a : Option Addr) (cap : Nat) (l : List Ed) (L : Nat) (w : World) (hR : EdRow w a l) (hz : EdSz maxLen l) (hn : l.length ≤ maxLen) (hL : L ≤ 1048576) :
    Calls Try.prog 5 #[.slice a l.length cap, .int .i64 L] w fun e w' => ∃ r : Int, e = .returned (.int .i64 r) ∧ (r = -1 ∨ 0 ≤ r ∧ r ≤ L ∧ l.length ≤ L ∧ EdSz L l) ∧ Below w.heap.size w w' := by
  have HR := hid hR
  have HZ := hid hz
  clear hR hz
  unfold maxLen at hn
  obtain ⟨n, hnn⟩ : ∃ n, l.length = n := ⟨_, rfl⟩
  have HN := hid hnn
  rw [hnn] at hn ⊢
  clear hnn
  by_cases h1 : (L : Int) - n < 0
  · go_enter Try.func5, Try.ntmps5
    go_wp2
    go_ret
    exact ⟨-1, rfl, .inl rfl, Below.refl _ _⟩
  · go_enter Try.func5, Try.ntmps5
    go_wp2
    go_loopw [1, 5] (fun v k wr => ∃ (i M : Nat), k = .int .i64 (i : Int) ∧ i ≤ n ∧ v = .int .i64 (M : Int) ∧ M + n ≤ L ∧ Hid (EdSz L (l.take i)) ∧ Hid (Below w.heap.size w wr)) (fun _ k _ => n - (intOf k).toNat)
    case atStart => exact ⟨0, L - n, rfl, Nat.zero_le _, by go_num, by omega, fun s hs => by simp at hs, Below.refl _ _⟩
    case round =>
      obtain ⟨i, M, rfl, hi, rfl, hM, HA, HB⟩ := hrel
      by_cases hlt : i < n
      · have his : i < l.length := by rw [HN.out]; exact hlt
        obtain ⟨b, o, rfl, hb, c0, c1, c2, c3⟩ := HR.out.below HB.out i his
        have hin : (i : Int) < (n : Int) := by omega
        have HT := hid (take_snocN his)
        have z1 := HZ.out _ (List.getElem_mem his)
        have C := fun w => cSzEdit l[i].kind l[i].pos l[i].frm l[i].name M w (by omega) z1
        have HE : Hid (∀ (x : ByteArray), l[i].name = x → x.size ≤ L → EdSz L (l.take (i + 1))) := by
          intro x hx h1
          rw [HT.out]
          intro s hs
          rcases List.mem_append.1 hs with h | h
          · exact HA.out s h
          · rw [List.mem_singleton] at h
            subst h
            rw [hx]
            exact h1
        obtain ⟨x, hx⟩ : ∃ x, l[i].name = x := ⟨_, rfl⟩
        have HX := hid hx
        rw [hx] at c3 C
        generalize l[i].kind = kn at *
        generalize l[i].pos = ke at *
        generalize l[i].frm = kd at *
        clear hx z1
        go_wp2_with fail
        refine (C _).mono ?_
        rintro e w2 ⟨r, rfl, hr, hb2⟩
        have HB2 := hid (bb HB.out hb2)
        clear hb2 C
        rcases hr with rfl | ⟨h0, hr⟩
        · go_wp2_with fail
          go_ret
          exact ⟨-1, rfl, .inl rfl, HB2.out⟩
        · obtain ⟨R, rfl⟩ : ∃ R : Nat, r = R := ⟨r.toNat, by omega⟩
          go_wp2_with fail
          go_roundw
          case rel => exact ⟨i + 1, R, by go_num, by omega, by first | rfl | rw [← hr], by omega, HE.out x HX.out (by omega), HB2.out⟩
          case measure => simp [intOf]; omega
      · have hie : i = n := by omega
        subst hie
        have h2 := HA.out
        rw [List.take_of_length_le (by rw [HN.out]; exact Nat.le_refl _)] at h2
        have H2 := hid h2
        clear h2
        go_wp2_with fail
        go_ret
        exact ⟨M, rfl, .inr ⟨by omega, by omega, by omega, H2.out⟩, HB.out⟩


set_option maxHeartbeats 2000000 in
theorem cToEdit (k p f : Int) (x : ByteArray) (w : World) :
    Calls Try.prog 21 #[.agg #[.int .i64 k, .int .i64 p, .int .i64 f, .string x]] w fun r w' => r = .returned (.agg #[.int .i64 k, .int .i64 p, .int .i64 f, .string x]) ∧ Below w.heap.size w w' := by
  obtain ⟨b1, b2, b3⟩ := heap3 w (.cells #[.int .i64 k, .int .i64 p, .int .i64 f, .string x] 43) (.cells #[.int .i64 0, .int .i64 0, .int .i64 0, .string ⟨#[]⟩] 46) (.cells #[.int .i64 0, .int .i64 0, .int .i64 0, .string ⟨#[]⟩] 46)
  obtain ⟨⟨x0, x1, x2, x3⟩, _⟩ := box4 b1
  obtain ⟨⟨y0, y1, y2, y3⟩, yf0, yf1, yf2, yf3⟩ := box4 b2
  obtain ⟨⟨z0, z1, z2, z3⟩, zf0, zf1, zf2, zf3⟩ := box4 b3
  clear b1 b2 b3
  go_enter Try.func21, Try.ntmps21
  go_wp2_with fail
  refine bodyPost_ret (v := .agg #[.int .i64 k, .int .i64 p, .int .i64 f, .string x]) (by simp [results, Try.results21, go_sem, y0, y1, y2, y3, z0, z1, z2, z3]) rfl ⟨rfl, ?_⟩
  exact (((Below.refl w.heap.size w).alloc (Nat.le_refl _) _).alloc (by simp) _).alloc (by simp; omega) _

theorem infoEd : (Try.prog.info? 46).map (fun i => (i.zero, i.size, i.bytes)) = some (some (.agg #[.int .i64 0, .int .i64 0, .int .i64 0, .string ⟨#[]⟩]), 4, 40) := by kernel_rfl

theorem makeEd (w : World) (n : Nat) (hn : n ≤ 1048576) : ∃ v w', (Instr.makeSlice 30 (.int .i64 (n : Int)) (.int .i64 (n : Int))).run Try.prog w = .ok v w' ∧ v = .slice (some ⟨w.heap.size, 0, none⟩) n n ∧ (∃ cur : Array Value, w'.heap[w.heap.size]? = some (.cells cur 46 (0, 0)) ∧ cur.size = n * 4) ∧ w.grownBy w' none := by
  obtain ⟨i0, hi, hz0, hz1, hz2⟩ := info_parts infoEd
  obtain ⟨w', hrun, r1, r2⟩ := run_make_full (P := Try.prog) w w.heap.size 30 46 i0 _ 4 Try.underlying30 hi hz0 hz1 .i64 .i64 n (by rw [hz2]; omega) (by unfold maxLen; omega) (Nat.le_refl _)
  refine ⟨_, w', hrun, rfl, ?_, r2⟩
  rcases r1.2 with ⟨h, _⟩ | ⟨g, cap', cur, h, hgb, hh, _, _, hsz, _⟩
  · cases h
  · cases h
    exact ⟨cur, hh, by omega⟩

/-- Four cells of a row written. -/
def put4e (cu : Array Value) (i : Nat) (k p f : Int) (x : ByteArray) : Array Value := (((cu.setIfInBounds (i * 4) (.int .i64 k)).setIfInBounds (i * 4 + 1) (.int .i64 p)).setIfInBounds (i * 4 + 2) (.int .i64 f)).setIfInBounds (i * 4 + 3) (.string x)

theorem put4e_size (cu : Array Value) (i : Nat) (k p f : Int) (x : ByteArray) : (put4e cu i k p f x).size = cu.size := by simp [put4e]

theorem put4e_cells {cu : Array Value} {l : List Ed} {i n : Nat} (hs : cu.size = n * 4) (hi : i < n) (h : i < l.length)
    (HA : ∀ j (h : j < l.length), j < i → cu[j * 4]? = some (.int .i64 l[j].kind) ∧ cu[j * 4 + 1]? = some (.int .i64 l[j].pos) ∧ cu[j * 4 + 2]? = some (.int .i64 l[j].frm) ∧ cu[j * 4 + 3]? = some (.string l[j].name)) :
    ∀ j (h : j < l.length), j < i + 1 → (put4e cu i l[i].kind l[i].pos l[i].frm l[i].name)[j * 4]? = some (.int .i64 l[j].kind) ∧ (put4e cu i l[i].kind l[i].pos l[i].frm l[i].name)[j * 4 + 1]? = some (.int .i64 l[j].pos) ∧ (put4e cu i l[i].kind l[i].pos l[i].frm l[i].name)[j * 4 + 2]? = some (.int .i64 l[j].frm) ∧ (put4e cu i l[i].kind l[i].pos l[i].frm l[i].name)[j * 4 + 3]? = some (.string l[j].name) := by
  intro j hj hji
  unfold put4e
  by_cases e : i = j
  · subst e
    simp only [Array.getElem?_setIfInBounds, Array.size_setIfInBounds, hs]
    refine ⟨?_, ?_, ?_, ?_⟩
    · rw [if_neg (by omega), if_neg (by omega), if_neg (by omega), if_pos trivial, if_pos (by omega)]
    · rw [if_neg (by omega), if_neg (by omega), if_pos trivial, if_pos (by omega)]
    · rw [if_neg (by omega), if_pos trivial, if_pos (by omega)]
    · rw [if_pos trivial, if_pos (by omega)]
  · have := HA j hj (by omega)
    simp only [Array.getElem?_setIfInBounds]
    refine ⟨?_, ?_, ?_, ?_⟩
    · rw [if_neg (by omega), if_neg (by omega), if_neg (by omega), if_neg (by omega)]; exact this.1
    · rw [if_neg (by omega), if_neg (by omega), if_neg (by omega), if_neg (by omega)]; exact this.2.1
    · rw [if_neg (by omega), if_neg (by omega), if_neg (by omega), if_neg (by omega)]; exact this.2.2.1
    · rw [if_neg (by omega), if_neg (by omega), if_neg (by omega), if_neg (by omega)]; exact this.2.2.2

set_option maxHeartbeats 4000000 in
set_option maxRecDepth 8000 in
theorem cToEditS (a : Option Addr) (cap : Nat) (l : List Ed) (w : World) (hR : EdRow w a l) (hn : l.length ≤ 1048576) :
    Calls Try.prog 8 #[.slice a l.length cap] w fun e w' => ∃ g cu, w.heap.size ≤ g ∧ e = .returned (.slice (some ⟨g, 0, none⟩) l.length l.length) ∧ w'.heap[g]? = some (.cells cu 46 (0, 0)) ∧ EdCells cu 0 l ∧ Below w.heap.size w w' := by
  have HR := hid hR
  clear hR
  obtain ⟨n, hnn⟩ : ∃ n, l.length = n := ⟨_, rfl⟩
  have HN := hid hnn
  rw [hnn] at hn ⊢
  clear hnn
  go_enter Try.func8, Try.ntmps8
  go_wp2_with fail
  refine upon_ex (makeEd w n hn) ?_
  rintro _ w1 ⟨rfl, ⟨cur, hcur, hcs⟩, hg⟩
  have HB := hid ((Below.refl w.heap.size w).grown hg (Nat.le_refl _) (by simp))
  have HC := hid hcur
  clear hcur hg
  go_wp2_with fail
  go_loopw [4] (fun k wr => ∃ (i : Nat) (cur : Array Value), k = .int .i64 (i : Int) ∧ i ≤ n ∧ Hid (wr.heap[w.heap.size]? = some (.cells cur 46 (0, 0))) ∧ cur.size = n * 4 ∧ Hid (∀ j (h : j < l.length), j < i → cur[j * 4]? = some (.int .i64 l[j].kind) ∧ cur[j * 4 + 1]? = some (.int .i64 l[j].pos) ∧ cur[j * 4 + 2]? = some (.int .i64 l[j].frm) ∧ cur[j * 4 + 3]? = some (.string l[j].name)) ∧ Hid (Below w.heap.size w wr)) (fun k _ => n - (intOf k).toNat)
  case atStart => exact ⟨0, cur, rfl, Nat.zero_le _, HC.out, hcs, fun j _ h => by omega, HB.out⟩
  case round =>
    clear HC HB hcs cur
    obtain ⟨i, cur, rfl, hi, HH, hcs, HA, HB⟩ := hrel
    have hsz : w.heap.size < wr.heap.size := lt_of_heap HH.out
    by_cases hlt : i < n
    · have his : i < l.length := by rw [HN.out]; exact hlt
      obtain ⟨b, o, rfl, hb, c0, c1, c2, c3⟩ := HR.out.below HB.out i his
      have hin : (i : Int) < (n : Int) := by omega
      have HA2 := hid (put4e_cells hcs hlt his HA.out)
      generalize hdn : l[i].kind = kn at *
      generalize hde : l[i].pos = ke at *
      generalize hdd : l[i].frm = kd at *
      generalize hdx : l[i].name = x at *
      clear hdx hdn hde hdd
      have C := fun w => cToEdit kn ke kd x w
      go_wp2_with fail
      refine (C _).mono ?_
      rintro e w2 ⟨rfl, hb2⟩
      have HB2 := hid (HB.out.trans (hb2.mono HB.out.size))
      have HH2 := hid ((hb2.block _ (lt_of_heap HH.out)).trans HH.out)
      have kk : ∀ q, q < 4 → ∃ v, w2.cell? ⟨w.heap.size, i * 4 + q, none⟩ = some v := fun q hq => by
        rw [Lib.cell_of_heap HH2.out]
        exact ⟨cur[i * 4 + q]'(by omega), Array.getElem?_eq_getElem (by omega)⟩
      obtain ⟨o0, k0⟩ := kk 0 (by decide)
      obtain ⟨o1, k1⟩ := kk 1 (by decide)
      obtain ⟨o2, k2⟩ := kk 2 (by decide)
      obtain ⟨o3, k3⟩ := kk 3 (by decide)
      rw [Nat.add_zero] at k0
      have f0 : w2.frozen? ⟨w.heap.size, i * 4, none⟩ = false := Lib.frozen_of_heap HH2.out _
      have f1 : w2.frozen? ⟨w.heap.size, i * 4 + 1, none⟩ = false := Lib.frozen_of_heap HH2.out _
      have f2 : w2.frozen? ⟨w.heap.size, i * 4 + 2, none⟩ = false := Lib.frozen_of_heap HH2.out _
      have f3 : w2.frozen? ⟨w.heap.size, i * 4 + 3, none⟩ = false := Lib.frozen_of_heap HH2.out _
      have HS2 := hid (show ((((w2.setCell ⟨w.heap.size, i * 4, none⟩ (.int .i64 kn)).setCell ⟨w.heap.size, i * 4 + 1, none⟩ (.int .i64 ke)).setCell ⟨w.heap.size, i * 4 + 2, none⟩ (.int .i64 kd)).setCell ⟨w.heap.size, i * 4 + 3, none⟩ (.string x)).heap[w.heap.size]? = some (.cells (put4e cur i kn ke kd x) 46 (0, 0)) from v_heap_set (v_heap_set (v_heap_set (v_heap_set HH2.out _) _) _) _)
      have HB3 := hid ((((HB2.out.setCell (p := ⟨w.heap.size, i * 4, none⟩) (Nat.le_refl _) (.int .i64 kn)).setCell (p := ⟨w.heap.size, i * 4 + 1, none⟩) (Nat.le_refl _) (.int .i64 ke)).setCell (p := ⟨w.heap.size, i * 4 + 2, none⟩) (Nat.le_refl _) (.int .i64 kd)).setCell (p := ⟨w.heap.size, i * 4 + 3, none⟩) (Nat.le_refl _) (.string x))
      have HC2 := hid (show (put4e cur i kn ke kd x).size = n * 4 by rw [put4e_size, hcs])
      clear hb2 C c0 c1 c2 c3 kk
      go_wp2_with fail
      go_roundw
      case rel => exact ⟨i + 1, _, by go_num, by omega, HS2.out, HC2.out, HA2.out, HB3.out⟩
      case measure => simp [intOf]; omega
    · have hie : i = n := by omega
      subst hie
      go_wp2_with fail
      go_ret
      exact ⟨w.heap.size, cur, Nat.le_refl _, rfl, HH.out, fun j hj => by rw [Nat.zero_add]; exact HA.out j hj (by rw [← HN.out]; exact hj), HB.out⟩


theorem cEqEdit (k p f : Int) (x : ByteArray) (w : World) :
    Calls Try.prog 26 #[.agg #[.int .i64 k, .int .i64 p, .int .i64 f, .string x], .agg #[.int .i64 k, .int .i64 p, .int .i64 f, .string x]] w fun r w' => r = .returned (.bool true) ∧ Below w.heap.size w w' := by
  go_enter Try.func26, Try.ntmps26
  go_wp2
  go_ret
  exact ⟨rfl, ((Below.refl w.heap.size w).alloc (Nat.le_refl _) _).alloc (by simp) _⟩

set_option maxHeartbeats 2000000 in
theorem cEqEditS (a c : Option Addr) (cap cap2 : Nat) (l : List Ed) (w : World) (hR : EdRow w a l) (hT : EdRow w c l) (hn : l.length ≤ 1048576) :
    Calls Try.prog 11 #[.slice a l.length cap, .slice c l.length cap2] w fun e w' => e = .returned (.bool true) ∧ Below w.heap.size w w' := by
  have HR := hid hR
  have HT := hid hT
  clear hR hT
  obtain ⟨n, hnn⟩ : ∃ n, l.length = n := ⟨_, rfl⟩
  have HN := hid hnn
  rw [hnn] at hn ⊢
  clear hnn
  go_enter Try.func11, Try.ntmps11
  go_wp2
  go_loopw [5] (fun k wr => ∃ i : Nat, k = .int .i64 (i : Int) ∧ i ≤ n ∧ Hid (Below w.heap.size w wr)) (fun k _ => n - (intOf k).toNat)
  case atStart => exact ⟨0, rfl, Nat.zero_le _, Below.refl _ _⟩
  case round =>
    obtain ⟨i, rfl, hi, HB⟩ := hrel
    by_cases hlt : i < n
    · have his : i < l.length := by rw [HN.out]; exact hlt
      have hin : (i : Int) < (n : Int) := by omega
      obtain ⟨b, o, rfl, hb, c0, c1, c2, c3⟩ := HR.out.below HB.out i his
      obtain ⟨b2, o2, rfl, hb', k0, k1, k2, k3⟩ := HT.out.below HB.out i his
      have C := fun w => cEqEdit l[i].kind l[i].pos l[i].frm l[i].name w
      generalize l[i].name = x at *
      generalize l[i].kind = kn at *
      generalize l[i].pos = ke at *
      generalize l[i].frm = kd at *
      have HNB := hid (bw_any wr)
      obtain ⟨d0, d1, d2, d3⟩ := quad_bw hb c0 c1 c2 c3
      obtain ⟨j0, j1, j2, j3⟩ := quad_bw hb' k0 k1 k2 k3
      clear c0 c1 c2 c3 k0 k1 k2 k3
      go_wp2_with fail
      haveI := HNB.out
      refine wp_region_below (by kernel_rfl) (by kernel_rfl) (Below.refl wr.heap.size wr) ?_
      repeat (go_big_quiet_step ((go_at_call 26; exact calls_bw _ (C _))))
      refine wpQuiet_nil ?_
      intro wq hw'
      obtain ⟨⟨wz, hwq⟩, hw''⟩ := hw'
      subst hw''
      have HB2 := hid (bb HB.out hwq)
      clear C d0 d1 d2 d3 j0 j1 j2 j3
      go_wp2_with fail
      go_roundw
      case rel => exact ⟨i + 1, by go_num, by omega, HB2.out⟩
      case measure => simp [intOf]; omega
    · have hie : i = n := by omega
      subst hie
      go_wp2_with fail
      go_ret
      exact ⟨rfl, HB.out⟩


/-- The first n edits from o on bear the marks from k on. -/
def MarksE (cur : Array Value) (o n k : Nat) : Prop := ∀ j, j < n → cur[o + j * 4]? = some (.int .i64 ((k + 4 * j : Nat) : Int)) ∧ cur[o + j * 4 + 1]? = some (.int .i64 ((k + 4 * j + 1 : Nat) : Int)) ∧ cur[o + j * 4 + 2]? = some (.int .i64 ((k + 4 * j + 2 : Nat) : Int)) ∧ cur[o + j * 4 + 3]? = some (.string (markS (k + 4 * j + 3)))

theorem marksE_step {cur : Array Value} {o n i k N : Nat} (hs : cur.size = N) (hi : i < n) (hN : o + n * 4 ≤ N) (HM : MarksE cur o i k) :
    MarksE ((((cur.setIfInBounds (o + i * 4) (.int .i64 ((k + 4 * i : Nat) : Int))).setIfInBounds (o + i * 4 + 1) (.int .i64 ((k + 4 * i + 1 : Nat) : Int))).setIfInBounds (o + i * 4 + 2) (.int .i64 ((k + 4 * i + 2 : Nat) : Int))).setIfInBounds (o + i * 4 + 3) (.string (markS (k + 4 * i + 3)))) o (i + 1) k := by
  intro j hj
  by_cases e : j = i
  · subst e
    simp only [Array.getElem?_setIfInBounds, Array.size_setIfInBounds, hs]
    refine ⟨?_, ?_, ?_, ?_⟩
    · rw [if_neg (by omega), if_neg (by omega), if_neg (by omega), if_pos trivial, if_pos (by omega)]
    · rw [if_neg (by omega), if_neg (by omega), if_pos trivial, if_pos (by omega)]
    · rw [if_neg (by omega), if_pos trivial, if_pos (by omega)]
    · rw [if_pos trivial, if_pos (by omega)]
  · have := HM j (by omega)
    simp only [Array.getElem?_setIfInBounds]
    refine ⟨?_, ?_, ?_, ?_⟩
    · rw [if_neg (by omega), if_neg (by omega), if_neg (by omega), if_neg (by omega)]; exact this.1
    · rw [if_neg (by omega), if_neg (by omega), if_neg (by omega), if_neg (by omega)]; exact this.2.1
    · rw [if_neg (by omega), if_neg (by omega), if_neg (by omega), if_neg (by omega)]; exact this.2.2.1
    · rw [if_neg (by omega), if_neg (by omega), if_neg (by omega), if_neg (by omega)]; exact this.2.2.2

set_option maxRecDepth 8000 in
set_option maxHeartbeats 4000000 in
theorem cMarkEditS (g o cap n k : Nat) (cur0 : Array Value) (w : World) (hg : w.heap[g]? = some (.cells cur0 46 (0, 0))) (ho : o + n * 4 ≤ cur0.size) (hk : k + 4 * n ≤ 100000000) :
    Calls Try.prog 13 #[.slice (some ⟨g, o, none⟩) n cap, .int .i64 k] w fun e w' => e = .returned (.int .i64 ((k + 4 * n : Nat) : Int)) ∧ (∃ cur, w'.heap[g]? = some (.cells cur 46 (0, 0)) ∧ cur.size = cur0.size ∧ MarksE cur o n k) ∧ w.grownBy w' (some g) := by
  have HG := hid hg
  clear hg
  go_enter Try.func13, Try.ntmps13
  go_wp2
  go_loopw [1, 5] (fun x y wr => ∃ (i : Nat) (cur : Array Value), x = .int .i64 ((k + 4 * i : Nat) : Int) ∧ y = .int .i64 (i : Int) ∧ i ≤ n ∧ Hid (wr.heap[g]? = some (.cells cur 46 (0, 0))) ∧ cur.size = cur0.size ∧ Hid (MarksE cur o i k) ∧ Hid (w.grownBy wr (some g))) (fun _ y _ => n - (intOf y).toNat)
  case atStart => exact ⟨0, cur0, rfl, rfl, Nat.zero_le _, HG.out, rfl, fun j h => by omega, World.grownBy.refl _ _⟩
  case round =>
    clear HG
    obtain ⟨i, cur, rfl, rfl, hi, HH, hcs, HM, HW⟩ := hrel
    by_cases hlt : i < n
    · have hin : (i : Int) < (n : Int) := by omega
      have C1 := fun w => cMarkText (k + 4 * i + 3) (by omega) w
      have HM5 := hid (marksE_step hcs hlt ho HM.out)
      obtain ⟨X, hX⟩ : ∃ X, markS (k + 4 * i + 3) = X := ⟨_, rfl⟩
      rw [hX] at C1 HM5
      obtain ⟨K, hK⟩ : ∃ K, k + 4 * i = K := ⟨_, rfl⟩
      have HE := hid (show K + 4 = k + 4 * (i + 1) by omega)
      rw [hK] at C1 HM5 ⊢
      have hKb : K ≤ 100000000 := by omega
      have hcz : o + i * 4 + 4 ≤ cur.size := by omega
      have HCZ := hid hcz
      clear hX hK hcz
      have eK1 : ((K + 1 : Nat) : Int) = (K : Int) + 1 := by omega
      have eK2 : ((K + 2 : Nat) : Int) = (K : Int) + 1 + 1 := by omega
      have eK3 : ((K + 3 : Nat) : Int) = (K : Int) + 1 + 1 + 1 := by omega
      rw [eK1, eK2] at HM5
      have C1 := hid (fun wx => show Calls Try.prog 27 #[.int .i64 ((K : Int) + 1 + 1 + 1)] wx fun e w' => e = .returned (.string X) ∧ Below wx.heap.size wx w' by rw [← eK3]; exact C1 wx)
      clear eK1 eK2 eK3
      have s1 : IntKind.i64.wrap ((K : Int) + 1) = (K : Int) + 1 := IntWalk.i64_in _ (by omega)
      have s2 : IntKind.i64.wrap ((K : Int) + 1 + 1) = (K : Int) + 1 + 1 := IntWalk.i64_in _ (by omega)
      have s3 : IntKind.i64.wrap ((K : Int) + 1 + 1 + 1) = (K : Int) + 1 + 1 + 1 := IntWalk.i64_in _ (by omega)
      obtain ⟨o1, k1⟩ := v_cell_there HH.out (i := o + i * 4) (by have := HCZ.out; omega)
      have f1 : wr.frozen? ⟨g, o + i * 4, none⟩ = false := Lib.frozen_of_heap HH.out _
      have H3 := hid (v_heap_set (i := o + i * 4) HH.out (.int .i64 (K : Int)))
      have HW3 := hid (v_gr_set HW.out (o + i * 4) (.int .i64 (K : Int)))
      obtain ⟨w3, hw3⟩ : ∃ w3, wr.setCell ⟨g, o + i * 4, none⟩ (.int .i64 (K : Int)) = w3 := ⟨_, rfl⟩
      rw [hw3] at H3 HW3
      obtain ⟨o2, k2⟩ := v_cell_there H3.out (i := o + i * 4 + 1) (by simp; have := HCZ.out; omega)
      have f2 : w3.frozen? ⟨g, o + i * 4 + 1, none⟩ = false := Lib.frozen_of_heap H3.out _
      have H4 := hid (v_heap_set (i := o + i * 4 + 1) H3.out (.int .i64 ((K : Int) + 1)))
      have HW4 := hid (v_gr_set HW3.out (o + i * 4 + 1) (.int .i64 ((K : Int) + 1)))
      obtain ⟨w4, hw4⟩ : ∃ w4, w3.setCell ⟨g, o + i * 4 + 1, none⟩ (.int .i64 ((K : Int) + 1)) = w4 := ⟨_, rfl⟩
      rw [hw4] at H4 HW4
      obtain ⟨o3, k3⟩ := v_cell_there H4.out (i := o + i * 4 + 2) (by simp; have := HCZ.out; omega)
      have f3 : w4.frozen? ⟨g, o + i * 4 + 2, none⟩ = false := Lib.frozen_of_heap H4.out _
      have H5 := hid (v_heap_set (i := o + i * 4 + 2) H4.out (.int .i64 ((K : Int) + 1 + 1)))
      have HW5 := hid (v_gr_set HW4.out (o + i * 4 + 2) (.int .i64 ((K : Int) + 1 + 1)))
      obtain ⟨w5, hw5⟩ : ∃ w5, w4.setCell ⟨g, o + i * 4 + 2, none⟩ (.int .i64 ((K : Int) + 1 + 1)) = w5 := ⟨_, rfl⟩
      rw [hw5] at H5 HW5
      go_wp2_with fail
      refine (C1.out _).mono ?_
      rintro e w6 ⟨rfl, hb6⟩
      have HW6 := hid (v_gr_below HW5.out hb6)
      have H6 := hid (v_blk_below H5.out hb6)
      clear hb6 C1
      obtain ⟨o4, k4⟩ := v_cell_there H6.out (i := o + i * 4 + 3) (by simp; have := HCZ.out; omega)
      have f4 : w6.frozen? ⟨g, o + i * 4 + 3, none⟩ = false := Lib.frozen_of_heap H6.out _
      have H7 := hid (v_heap_set (i := o + i * 4 + 3) H6.out (.string X))
      have HW7 := hid (v_gr_set HW6.out (o + i * 4 + 3) (.string X))
      have s4 : IntKind.i64.wrap ((K : Int) + 1 + 1 + 1 + 1) = (K : Int) + 1 + 1 + 1 + 1 := IntWalk.i64_in _ (by omega)
      go_wp2_with fail
      go_roundw
      case rel => exact ⟨i + 1, _, by rw [← HE.out]; go_num, by go_num, by omega, H7.out, by simp [hcs], HM5.out, HW7.out⟩
      case measure => simp [intOf]; omega
    · have hie : i = n := by omega
      subst hie
      go_wp2_with fail
      go_ret
      exact ⟨rfl, ⟨cur, HH.out, hcs, HM.out⟩, HW.out⟩

theorem cMarkEdit0 (a : Option Addr) (cap k : Nat) (w : World) :
    Calls Try.prog 13 #[.slice a 0 cap, .int .i64 k] w fun e w' => e = .returned (.int .i64 k) ∧ w' = w := by
  go_enter Try.func13, Try.ntmps13
  go_wp2
  go_loop [1, 5] (fun x j => x = .int .i64 (k : Int) ∧ j = .int .i64 0) (fun _ _ => 0)
  case atStart => exact ⟨rfl, rfl⟩
  case round =>
    obtain ⟨rfl, rfl⟩ := hrel
    go_wp2
    go_ret
    exact ⟨rfl, rfl⟩

end Go.Proofs.Ytkejmifkjgpdjaa
