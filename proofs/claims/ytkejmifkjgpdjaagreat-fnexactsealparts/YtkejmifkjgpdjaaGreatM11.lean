/- The shape of a row of nodes: of a copy among the laws' arguments, and of one that grew. Rows of numbers, as the exact law of KidsOf compares and marks them. A row of nodes among the arguments, opened. -/
import Derived.Test.YtkejmifkjgpdjaaGreatM9
import Derived.Test.YtkejmifkjgpdjaaGreatM10
import Derived.Test.YtkejmifkjgpdjaaGreatM8
import Derived.Test.YtkejmifkjgpdjaaGreatM3
import Derived.Test.YtkejmifkjgpdjaaGreatM2
import Derived.ProofKit
import Derived.OpenShut
namespace Go.Proofs.YtkejmifkjgpdjaaGreat.Nd
open Go.RowKit
set_option linter.unusedVariables false
set_option linter.unusedSimpArgs false

def atT (ts : List Tk) (j : Nat) : Tk := match ts[j]? with | some t => t | none => ⟨0, ⟨#[]⟩, [], ⟨#[]⟩⟩

theorem atT_at {ts : List Tk} {j : Nat} (h : j < ts.length) : atT ts j = ts[j] := by unfold atT; rw [List.getElem?_eq_getElem h]

def shL (g : Nat) (G : Nat → Nat) (ts : List Tk) : Shape where
  R := g
  o := 0
  n := ts.length
  len := fun j => (atT ts j).attrs.length
  aa := fun j => some ⟨G j, 0, none⟩
  A := G
  O := fun _ => 0
  C := fun j => (atT ts j).attrs.length

theorem Laid.shape {ts : List Tk} {g : Nat} {G : Nat → Nat} {cur : Array Value} {w : World} (h : Laid ts g ts.length G cur w) (hh : w.heap[g]? = some (.cells cur 44 (0, 0))) : (shL g G ts).Ok g ∧ HoldsN (shL g G ts) w (atT ts) := by
  refine ⟨⟨Nat.le_refl _, fun j hj hl => ?_, fun i j hi hj hne _ _ e => ?_⟩, ⟨⟨cur, hh, fun j hj => ?_⟩, fun j hj => rfl, fun j hj hl => ?_⟩⟩
  · have := (h.row j hj hj).1
    exact ⟨rfl, by show g ≤ G j; omega, by show ¬ G j = g; omega⟩
  · have e : G i = G j := e
    rcases Nat.lt_or_gt_of_ne hne with h' | h'
    · have := h.later i j h' hj
      omega
    · have := h.later j i h' hi
      omega
  · obtain ⟨k0, k1, k2, k3⟩ := h.cells j hj hj
    have e := atT_at (ts := ts) hj
    rw [show (shL g G ts).o + j * 4 = j * 4 from Nat.zero_add _]
    exact ⟨by rw [e]; exact k0, by rw [e]; exact k1, by rw [show (shL g G ts).C j = ts[j].attrs.length from by show (atT ts j).attrs.length = _; rw [e], e]; exact k2, by rw [e]; exact k3⟩
  · obtain ⟨_, cu, h1, h2⟩ := h.row j hj hj
    refine ⟨cu, h1, ?_⟩
    rw [atT_at hj]
    exact h2

theorem shL_K (g : Nat) (G : Nat → Nat) (ts : List Tk) (k : Nat) : ∀ m, m ≤ ts.length → (shL g G ts).K k m = k + 3 * m + 2 * sumA (ts.take m)
  | 0, _ => rfl
  | m + 1, h => by
    show (shL g G ts).K k m + (3 + 2 * (atT ts m).attrs.length) = _
    rw [shL_K g G ts k m (by omega), take_snocN (show m < ts.length by omega), sumA_snoc, atT_at (show m < ts.length by omega)]
    omega

def shR (g : Nat) (es : List E) : Shape where
  R := g
  o := 0
  n := es.length
  len := fun j => match es[j]? with | some e => e.t.attrs.length | none => 0
  aa := fun j => match es[j]? with | some e => e.a | none => none
  A := fun j => match es[j]? with | some ⟨_, some ad, _⟩ => ad.block | _ => 0
  O := fun j => match es[j]? with | some ⟨_, some ad, _⟩ => ad.off | _ => 0
  C := fun j => match es[j]? with | some e => e.cap | none => 0

def eAt (es : List E) (j : Nat) : Tk := match es[j]? with | some e => e.t | none => ⟨0, ⟨#[]⟩, [], ⟨#[]⟩⟩

theorem eAt_map {es : List E} {ts : List Tk} (h : es.map (·.t) = ts) (j : Nat) (hj : j < ts.length) : eAt es j = ts[j] := by
  have hl : es.length = ts.length := by rw [← h, List.length_map]
  unfold eAt
  rw [List.getElem?_eq_getElem (by omega)]
  subst h
  simp

theorem shR_at (g : Nat) (es : List E) (j : Nat) (hj : j < es.length) : (shR g es).len j = es[j].t.attrs.length ∧ (shR g es).aa j = es[j].a ∧ (shR g es).C j = es[j].cap ∧ eAt es j = es[j].t
    ∧ ∀ b o, es[j].a = some ⟨b, o, none⟩ → (shR g es).A j = b ∧ (shR g es).O j = o := by
  have he := List.getElem?_eq_getElem hj
  refine ⟨?_, ?_, ?_, ?_, fun b o hb => ?_⟩
  · show (match es[j]? with | some e => e.t.attrs.length | none => 0) = _
    rw [he]
  · show (match es[j]? with | some e => e.a | none => none) = _
    rw [he]
  · show (match es[j]? with | some e => e.cap | none => 0) = _
    rw [he]
  · unfold eAt
    rw [he]
  · obtain ⟨x, hx⟩ : ∃ x, es[j] = x := ⟨_, rfl⟩
    rw [hx] at he hb
    obtain ⟨t, a, c⟩ := x
    simp only at hb
    subst hb
    exact ⟨by show (match es[j]? with | some ⟨_, some ad, _⟩ => ad.block | _ => 0) = _; rw [he], by show (match es[j]? with | some ⟨_, some ad, _⟩ => ad.off | _ => 0) = _; rw [he]⟩

theorem Row.shape {w : World} {B : Nat} {v : Value} {es : List E} (h : Row w B v es) (hne : ¬ es = []) :
    ∃ (g : Nat) (cap : Nat), v = .slice (some ⟨g, 0, none⟩) es.length cap ∧ (shR g es).Ok B ∧ HoldsN (shR g es) w (eAt es) := by
  rcases h.own.2 with ⟨_, h0⟩ | ⟨g, cap, cur, rfl, hg, hh, hn, hc, hs, ht⟩
  · exact absurd (List.eq_nil_of_length_eq_zero h0) hne
  · refine ⟨g, cap, rfl, ⟨hg, fun j hj hl => ?_, fun i j hi hj hne hl hl' => ?_⟩, ⟨⟨cur, hh, fun j hj => ?_⟩, fun j hj => ?_, fun j hj hl => ?_⟩⟩
    · obtain ⟨s1, s2, s3, s4, s5⟩ := shR_at g es j hj
      rw [s1] at hl
      obtain ⟨b, o, cu, e, hB, _⟩ := (h.ats _ (List.getElem_mem hj)).1 hl
      obtain ⟨s6, s7⟩ := s5 b o e
      rw [s2, s6, s7]
      exact ⟨e, hB, fun x => (h.ats _ (List.getElem_mem hj)).2 b o hl e (by rw [x]; rfl)⟩
    · obtain ⟨s1, s2, s3, s4, s5⟩ := shR_at g es i hi
      obtain ⟨t1, t2, t3, t4, t5⟩ := shR_at g es j hj
      rw [s1] at hl
      rw [t1] at hl'
      obtain ⟨b, o, _, e, _⟩ := (h.ats _ (List.getElem_mem hi)).1 hl
      obtain ⟨b', o', _, e', _⟩ := (h.ats _ (List.getElem_mem hj)).1 hl'
      rw [(s5 b o e).1, (t5 b' o' e').1]
      have hi : i < es.length := hi
      have hj : j < es.length := hj
      rcases Nat.lt_or_gt_of_ne hne with h' | h'
      · exact List.pairwise_iff_getElem.1 h.apart i j hi hj h' hl hl' b o b' o' e e'
      · exact fun x => List.pairwise_iff_getElem.1 h.apart j i hj hi h' hl' hl b' o' b o e' e x.symm
    · obtain ⟨s1, s2, s3, s4, s5⟩ := shR_at g es j hj
      obtain ⟨k0, k1, k2, k3⟩ := cs_get es j hj
      have hx : ∀ k u, (cs es)[k]? = some u → cur[0 + k]? = some u := by
        intro k u hk
        rw [Nat.zero_add, ← Array.getElem?_toList]
        rw [← ht, List.getElem?_take] at hk
        split at hk
        · exact hk
        · cases hk
      rw [s2, s3, s4]
      exact ⟨hx _ _ k0, hx _ _ k1, hx _ _ k2, hx _ _ k3⟩
    · obtain ⟨s1, s2, s3, s4, s5⟩ := shR_at g es j hj
      rw [s4, s1]
    · obtain ⟨s1, s2, s3, s4, s5⟩ := shR_at g es j hj
      rw [s1] at hl
      obtain ⟨b, o, cu, e, _, hhb, hcl⟩ := (h.ats _ (List.getElem_mem hj)).1 hl
      obtain ⟨s6, s7⟩ := s5 b o e
      rw [s6, s7, s4]
      exact ⟨cu, hhb, hcl⟩

theorem shR_K (g : Nat) (es : List E) (ts : List Tk) (hm : es.map (·.t) = ts) (k : Nat) : ∀ m, m ≤ ts.length → (shR g es).K k m = k + 3 * m + 2 * sumA (ts.take m)
  | 0, _ => rfl
  | m + 1, h => by
    have hl : es.length = ts.length := by rw [← hm, List.length_map]
    show (shR g es).K k m + (3 + 2 * (shR g es).len m) = _
    have e1 : es[m].t = ts[m] := by subst hm; simp
    rw [shR_K g es ts hm k m (by omega), take_snocN (show m < ts.length by omega), sumA_snoc, (shR_at g es m (by omega)).1, e1]
    omega

theorem Row.keep {w w' : World} {B : Nat} {v : Value} {es : List E} {p : Nat → Prop} (h : Row w B v es) (k : KeepB p w w') (hp : ∀ b, p b → b < B) : Row w' B v es := by
  have key : ∀ b o, B ≤ b → w.heap[b]? = some o → w'.heap[b]? = some o := fun b o hb hh => (k.block b (lt_of_heap hh) (fun x => by have := hp b x; omega)).trans hh
  refine ⟨⟨h.own.1, ?_⟩, fun e he => ⟨fun hl => ?_, (h.ats e he).2⟩, h.apart⟩
  · rcases h.own.2 with h' | ⟨g, cap, cur, h1, h2, h3, h4⟩
    · exact .inl h'
    · exact .inr ⟨g, cap, cur, h1, h2, key g _ h2 h3, h4⟩
  · obtain ⟨g, o, cu, e1, e2, e3, e4⟩ := (h.ats e he).1 hl
    exact ⟨g, o, cu, e1, e2, key g _ e2 e3, e4⟩

theorem cMarkNone (a : Option Addr) (cap k : Nat) (w : World) (hk : k ≤ 100000000) :
    Calls Tryz.prog 10 #[.slice a 0 cap, .int .i64 k] w fun e w' => e = .returned (.int .i64 k) ∧ w' = w := by
  go_enter Tryz.func10, Tryz.ntmps10
  go_wp2
  go_loopw [1, 5] (fun x y wr => x = .int .i64 k ∧ y = .int .i64 0 ∧ wr = w) (fun _ _ _ => 0)
  case atStart => exact ⟨rfl, rfl, rfl⟩
  case round =>
    obtain ⟨rfl, rfl, rfl⟩ := hrel
    go_wp2
    go_ret
    exact ⟨rfl, rfl⟩

end Go.Proofs.YtkejmifkjgpdjaaGreat.Nd

namespace Go.Proofs.YtkejmifkjgpdjaaGreat
open Go.RowKit
set_option linter.unusedVariables false
set_option linter.unusedSimpArgs false

/-- Numbers in a row from a on. -/
def IntRow (w : World) (a : Option Addr) (l : List Nat) : Prop := ∀ j (h : j < l.length), ∃ b o, a = some ⟨b, o, none⟩ ∧ b < w.heap.size ∧ w.cell? ⟨b, o + j, none⟩ = some (.int .i64 (l[j] : Int))

theorem IntRow.below {w w' : World} {a : Option Addr} {l : List Nat} (h : IntRow w a l) (hb : Below w.heap.size w w') : IntRow w' a l := by
  intro j hj
  obtain ⟨b, o, ha, hlt, c⟩ := h j hj
  exact ⟨b, o, ha, Nat.lt_of_lt_of_le hlt hb.size, (hb.cell (p := ⟨b, o + j, none⟩) hlt).trans c⟩

/-- A row of numbers of our own. -/
theorem own64 {w : World} {B : Nat} {v : Value} {l : List Nat} (h : w.ownsRow B 2 1 v l.length (intC l)) : ∃ a cap, v = .slice a l.length cap ∧ IntRow w a l := by
  rcases h.2 with ⟨rfl, h0⟩ | ⟨g, cap, cur, rfl, hg, hh, hn, hc, hs, ht⟩
  · have : l = [] := List.eq_nil_of_length_eq_zero h0
    subst this
    exact ⟨none, 0, rfl, fun j hj => absurd hj (Nat.not_lt_zero _)⟩
  · refine ⟨_, _, rfl, fun j hj => ⟨g, 0, rfl, lt_of_heap hh, ?_⟩⟩
    obtain ⟨g', cap', e, _, c⟩ := (row64 ⟨h.1, .inr ⟨g, cap, cur, rfl, hg, hh, hn, hc, hs, ht⟩⟩).2 j hj
    cases e
    rw [Nat.zero_add]
    exact c

theorem own64_rd {w : World} {B n c : Nat} {a : Option Addr} {l : List Nat} (h : w.ownsRow B 2 1 (.slice a n c) n (intC l)) (hn : l.length = n) : IntRow w a l := by
  subst hn
  obtain ⟨a', c', e, hr⟩ := own64 h
  cases e
  exact hr

theorem row64_keep {w w' : World} {B n : Nat} {v : Value} {xs : List Value} {p : Nat → Prop} {e : TypeId} (h : w.ownsRow B e 1 v n xs) (k : KeepB p w w') (hp : ∀ b, p b → b < B) : w'.ownsRow B e 1 v n xs := by
  refine ⟨h.1, ?_⟩
  rcases h.2 with h' | ⟨g, cap, cur, h1, h2, h3, h4⟩
  · exact .inl h'
  · exact .inr ⟨g, cap, cur, h1, h2, (k.block g (lt_of_heap h3) (fun x => by have := hp g x; omega)).trans h3, h4⟩

/-- The marks from k on. -/
def MarksI (cur : Array Value) (n k : Nat) : Prop := ∀ j, j < n → cur[j]? = some (.int .i64 ((k + j : Nat) : Int))

/-- The marks from 1 on. -/
def mkI (n : Nat) : List Nat := (List.range n).map fun j => 1 + j

theorem mkI_len (n : Nat) : (mkI n).length = n := by simp [mkI]

theorem mkI_at (n j : Nat) (h : j < (mkI n).length) : (mkI n)[j] = 1 + j := by simp [mkI]

theorem MarksI.row {w : World} {g n : Nat} {cur : Array Value} {T : TypeId} (h : MarksI cur n 1) (hh : w.heap[g]? = some (.cells cur T (0, 0))) : IntRow w (some ⟨g, 0, none⟩) (mkI n) := by
  intro j hj
  refine ⟨g, 0, rfl, lt_of_heap hh, ?_⟩
  rw [Lib.cell_of_heap hh, mkI_at n j hj, Nat.zero_add]
  rw [mkI_len] at hj
  exact h j hj

theorem kidsI_len (ts : List Tk) (x : Int) : (kidsI ts x).length ≤ ts.length := by
  unfold kidsI
  split
  · exact kidsTo_len ts _ _
  · exact Nat.zero_le _

/-- The blocks of a copy: from its own on, and there. -/
theorem Nd.Laid.hasI {ts : List Tk} {g : Nat} {G : Nat → Nat} {cur : Array Value} {w : World} (h : Nd.Laid ts g ts.length G cur w) (hh : w.heap[g]? = some (.cells cur 44 (0, 0))) : ∀ b, (Nd.shL g G ts).Has b → g ≤ b ∧ b < w.heap.size := by
  rintro b (rfl | ⟨j, hj, _, rfl⟩)
  · exact ⟨Nat.le_refl _, lt_of_heap hh⟩
  · obtain ⟨h1, cu, h2, _⟩ := h.row j hj hj
    have h3 := lt_of_heap h2
    exact ⟨by show g ≤ G j; omega, by show G j < w.heap.size; omega⟩

end Go.Proofs.YtkejmifkjgpdjaaGreat

namespace Go.Proofs.YtkejmifkjgpdjaaGreat.Nd
open Go.ChangeShapes Go.WideShapes Go.ChangeAt Go.RowKit
set_option linter.unusedVariables false

set_option maxRecDepth 100000 in
theorem rows_of {H : Type} {enc : TypeId × Value → H} {W : World} {fuel : Nat} {v : Value} {x : DataW H × List MemPlace}
    (h : DataW.trod enc Tryz.prog W 0 (fun _ => true) true fuel 22 [v] = some x) (hlt : ∀ y ∈ x.2, y.block < W.heap.size) :
    ∃ (a : Option Addr) (cap : Nat) (ts : List Tk), v = .slice a ts.length cap ∧ ts.length ≤ maxLen ∧ TkRow W a ts ∧ TksSz maxLen ts ∧ ∀ t ∈ ts, (Lit.int .i64 t.kind).wf = true := by
  rcases Deep.open_slice Tryz.underlying22 h with ⟨hcs, hx⟩ | ⟨a, len, cap, m, n, D, Pl, hcs, _, hl, hm, hmm, hx, hall⟩
  · simp only [List.cons.injEq, and_true] at hcs
    subst hcs
    exact ⟨none, 0, [], rfl, by simp, fun j h => by simp at h, fun s h => by simp at h, fun s h => by simp at h⟩
  · simp only [List.cons.injEq, and_true] at hcs
    subst hcs
    simp only [if_true] at hmm
    subst hmm
    have ce : Tryz.prog.cellsOf 36 = 4 := by kernel_rfl
    have cA : Tryz.prog.cellsOf 34 = 1 := by kernel_rfl
    have cI : Tryz.prog.cellsOf 2 = 1 := by kernel_rfl
    have cS : Tryz.prog.cellsOf 9 = 1 := by kernel_rfl
    have each : ∀ i, i < m → ∃ q : Tk × Option Addr × Nat, W.cell? (a.add (i * 4)) = some (.int .i64 q.1.kind) ∧ W.cell? (a.add (i * 4 + 1)) = some (.string q.1.name) ∧ W.cell? (a.add (i * 4 + 2)) = some (.slice q.2.1 q.1.attrs.length q.2.2) ∧ W.cell? (a.add (i * 4 + 3)) = some (.string q.1.text)
        ∧ AtRow W q.2.1 q.1.attrs ∧ TkSz maxLen q.1 ∧ (Lit.int .i64 q.1.kind).wf = true := by
      intro i hi
      obtain ⟨cs', h1, h2⟩ := hall i hi
      rw [ce] at h1
      obtain ⟨_, hlen, hcell⟩ := World.cells?_some h1
      obtain ⟨xs, k, hk, hxy, _, hxl, hf⟩ := DataW.trod_struct Tryz.underlying36 h2
      have hpl : ∀ y ∈ Pl i, y.block < W.heap.size := fun y hy => hlt y (by rw [hx]; exact List.mem_append_right _ (List.mem_flatMap.2 ⟨i, List.mem_range.2 hi, hy⟩))
      match xs, hxl, cs', hlen with
      | [y0, y1, y2, y3], _, [v0, v1, v2, v3], _ =>
        have g0 := hf 0 _ rfl
        have g1 := hf 1 _ rfl
        have g2 := hf 2 _ rfl
        have g3 := hf 3 _ rfl
        simp [cA, cI, cS] at g0 g1 g2 g3
        have e0 := hcell 0 (by omega)
        have e1 := hcell 1 (by omega)
        have e2 := hcell 2 (by omega)
        have e3 := hcell 3 (by omega)
        rw [Deep.add_add] at e0 e1 e2 e3
        simp only [Prod.mk.injEq] at hxy
        obtain ⟨k0, hk0, _, wk⟩ := DataW.trod_int Tryz.underlying2 g0
        obtain ⟨s, hs, _, ws⟩ := DataW.trod_string Tryz.underlying9 g1
        obtain ⟨u, hu, _, wu⟩ := DataW.trod_string Tryz.underlying9 g3
        obtain ⟨aa, ca, l, rfl, wn, wr, wz⟩ := attrs_of g2 (fun y hy => hpl y (by rw [hxy.2]; simp [hy]))
        simp only [List.cons.injEq, and_true] at hk0 hs hu
        subst hk0 hs hu
        exact ⟨(⟨k0, s, l, u⟩, aa, ca), by simpa using e0, by simpa using e1, by simpa using e2, by simpa using e3, wr, ⟨ws, wn, wz, wu⟩, wk⟩
    haveI : Inhabited (Tk × Option Addr × Nat) := ⟨(⟨0, ⟨#[]⟩, [], ⟨#[]⟩⟩, none, 0)⟩
    obtain ⟨q, hq⟩ := Deep.choose_lt each
    refine ⟨some a, m, (List.range len).map fun i => (q i).1, by simp, by simp; omega, fun j hj => ?_, fun y hy => ?_, fun y hy => ?_⟩
    · simp only [List.length_map, List.length_range] at hj
      obtain ⟨b, off, spot⟩ := a
      obtain ⟨c0, c1, c2, c3, cr, _⟩ := hq j (by omega)
      have hspot : spot = none := by simpa [Addr.add] using World.cell?_spot (hq 0 (by omega)).1
      subst hspot
      rw [add_plain] at c0 c1 c2 c3
      refine ⟨b, off, (q j).2.1, (q j).2.2, rfl, hlt (.cell b off) (by rw [hx, ce]; exact List.mem_append_left _ (MemPlace.mem_row.2 ⟨0, by omega, by simp⟩)), ?_, ?_, ?_, ?_, ?_⟩
      · rw [c0]; simp
      · rw [← Nat.add_assoc] at c1; rw [c1]; simp
      · rw [← Nat.add_assoc] at c2; rw [c2]; simp
      · rw [← Nat.add_assoc] at c3; rw [c3]; simp
      · simpa using cr
    · obtain ⟨i, hi, rfl⟩ := List.mem_map.1 hy
      exact (hq i (by have := List.mem_range.1 hi; omega)).2.2.2.2.2.1
    · obtain ⟨i, hi, rfl⟩ := List.mem_map.1 hy
      exact (hq i (by have := List.mem_range.1 hi; omega)).2.2.2.2.2.2

theorem rows_arg {H : Type} {enc : TypeId × Value → H} {W : World} {v : Value} {d : DataW H} {p : List MemPlace}
    (h : DataW.Trod enc Tryz.prog W 0 (fun _ => true) true 22 v d p) (hv : ∃ a len cap, v = .slice a len cap) (hlt : ∀ y ∈ p, y.block < W.heap.size) :
    ∃ (a : Option Addr) (cap : Nat) (ts : List Tk), v = .slice a ts.length cap ∧ ts.length ≤ maxLen ∧ TkRow W a ts ∧ TksSz maxLen ts ∧ ∀ t ∈ ts, (Lit.int .i64 t.kind).wf = true := by
  obtain ⟨fuel, hf⟩ := h
  obtain ⟨a, len, cap, rfl⟩ := hv
  exact rows_of (x := (d, p)) (by simpa [Value.cells] using hf) hlt

end Go.Proofs.YtkejmifkjgpdjaaGreat.Nd
