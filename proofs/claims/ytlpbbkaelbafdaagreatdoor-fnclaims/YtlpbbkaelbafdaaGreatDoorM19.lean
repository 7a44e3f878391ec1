/-  -/
import Derived.Test.YtlpbbkaelbafdaaGreatDoorM3
import Derived.Test.YtlpbbkaelbafdaaGreatDoorM9
import Derived.Test.YtlpbbkaelbafdaaGreatDoorM10
set_option linter.unusedVariables false
set_option linter.unusedSimpArgs false
namespace Go.Proofs.YtlpbbkaelbafdaaGreatDoor.Nd
open Go.RowKit

def sumA (ts : List Tk) : Nat := (ts.map fun t => t.attrs.length).sum

theorem sumA_snoc (ts : List Tk) (t : Tk) : sumA (ts ++ [t]) = sumA ts + t.attrs.length := by simp [sumA]

theorem infoTk : (Tryz.prog.info? 42).map (fun i => (i.zero, i.size, i.bytes)) = some (some (.agg #[.int .i64 0, .string ⟨#[]⟩, .slice none 0 0, .string ⟨#[]⟩]), 4, 64) := by kernel_rfl

theorem makeTk (w : World) (n : Nat) (hn : n <= 1048576) : ∃ v w', (Instr.makeSlice 28 (.int .i64 (n : Int)) (.int .i64 (n : Int))).run Tryz.prog w = .ok v w' /\ v = .slice (some ⟨w.heap.size, 0, none⟩) n n /\ (∃ cur : Array Value, w'.heap[w.heap.size]? = some (.cells cur 42 (0, 0)) /\ cur.size = n * 4) /\ w.grownBy w' none := by
 obtain ⟨i0, hi, hz0, hz1, hz2⟩ := info_parts infoTk
 obtain ⟨w', hrun, r1, r2⟩ := run_make_full (P := Tryz.prog) w w.heap.size 28 42 i0 _ 4 Tryz.underlying28 hi hz0 hz1 .i64 .i64 n (by rw [hz2]; omega) (by unfold maxLen; omega) (Nat.le_refl _)
 refine ⟨_, w', hrun, rfl, ?_, r2⟩
 rcases r1.2 with ⟨h, _⟩ | ⟨g, cap', cur, h, hgb, hh, _, _, hsz, _⟩
 ·cases h
 ·cases h
  exact ⟨cur, hh, by omega⟩

structure Laid (ts : List Tk) (g i : Nat) (G : Nat -> Nat) (cur : Array Value) (wr : World) : Prop where
 cells : ∀ j (h : j < ts.length), j < i -> cur[j * 4]? = some (.int .i64 ts[j].kind) /\ cur[j * 4 + 1]? = some (.string ts[j].name) /\ cur[j * 4 + 2]? = some (.slice (some ⟨G j, 0, none⟩) ts[j].attrs.length ts[j].attrs.length) /\ cur[j * 4 + 3]? = some (.string ts[j].text)
 row : ∀ j (h : j < ts.length), j < i -> g < G j /\ ∃ cu, wr.heap[G j]? = some (.cells cu 40 (0, 0)) /\ AtCells cu 0 ts[j].attrs
 later : ∀ j k, j < k -> k < i -> G j < G k

theorem Laid.start (ts : List Tk) (g : Nat) (cur : Array Value) (wr : World) : Laid ts g 0 (fun _ => 0) cur wr := ⟨fun j _ h => by omega, fun j _ h => by omega, fun j k _ h => by omega⟩

theorem Laid.below {ts : List Tk} {g i : Nat} {G : Nat -> Nat} {cur : Array Value} {wr w' : World} (h : Laid ts g i G cur wr) (hb : Below wr.heap.size wr w') : Laid ts g i G cur w' :=
 ⟨h.cells, fun j hj hi => ⟨(h.row j hj hi).1, by
  obtain ⟨_, cu, hh, hc⟩ := h.row j hj hi
  exact ⟨cu, (hb.block _ (lt_of_heap hh)).trans hh, hc⟩⟩, h.later⟩

theorem Laid.set {ts : List Tk} {g i : Nat} {G : Nat -> Nat} {cur : Array Value} {wr : World} (h : Laid ts g i G cur wr) (o : Nat) (v : Value) : Laid ts g i G cur (wr.setCell ⟨g, o, none⟩ v) :=
 ⟨h.cells, fun j hj hi => ⟨(h.row j hj hi).1, by
  obtain ⟨hg, cu, hh, hc⟩ := h.row j hj hi
  exact ⟨cu, (Below.heap_setCell wr _ v _ (by simp; omega)).trans hh, hc⟩⟩, h.later⟩

abbrev put4 (cur : Array Value) (i : Nat) (x y z u : Value) : Array Value := (((cur.setIfInBounds (i * 4) x).setIfInBounds (i * 4 + 1) y).setIfInBounds (i * 4 + 2) z).setIfInBounds (i * 4 + 3) u

theorem put4_same {cur : Array Value} {i n : Nat} {x y z u : Value} (hs : cur.size = n * 4) (hi : i < n) : (put4 cur i x y z u)[i * 4]? = some x /\ (put4 cur i x y z u)[i * 4 + 1]? = some y /\ (put4 cur i x y z u)[i * 4 + 2]? = some z /\ (put4 cur i x y z u)[i * 4 + 3]? = some u := by
 refine ⟨?_, ?_, ?_, ?_⟩ <;> simp [put4, Array.getElem?_setIfInBounds, hs] <;> omega

theorem put4_other {cur : Array Value} {i j : Nat} {x y z u : Value} (h : ¬ i = j) (r : Nat) (hr : r < 4) : (put4 cur i x y z u)[j * 4 + r]? = cur[j * 4 + r]? := by
 simp only [put4, Array.getElem?_setIfInBounds]
 rw [if_neg (by omega), if_neg (by omega), if_neg (by omega), if_neg (by omega)]

theorem Laid.next {ts : List Tk} {g i n : Nat} {G : Nat -> Nat} {cur : Array Value} {wr : World} (h : Laid ts g i G cur wr) (hi : i < ts.length) (hn : i < n) (hs : cur.size = n * 4) {gi : Nat} {cu : Array Value} (h1 : g < gi) (hl : ∀ j, j < i -> G j < gi) (h2 : wr.heap[gi]? = some (.cells cu 40 (0, 0))) (hr : AtCells cu 0 ts[i].attrs) :
  Laid ts g (i + 1) (fun j => if j = i then gi else G j) (put4 cur i (.int .i64 ts[i].kind) (.string ts[i].name) (.slice (some ⟨gi, 0, none⟩) ts[i].attrs.length ts[i].attrs.length) (.string ts[i].text)) wr := by
 refine ⟨fun j hj hlt => ?_, fun j hj hlt => ?_, fun j k hjk hk => ?_⟩
 ·by_cases e : j = i
  ·subst e
   rw [if_pos rfl]
   exact put4_same hs hn
  ·rw [if_neg e]
   have := h.cells j hj (by omega)
   have ne : ¬ i = j := fun x => e x.symm
   exact ⟨(put4_other ne 0 (by omega)).trans this.1, (put4_other ne 1 (by omega)).trans this.2.1, (put4_other ne 2 (by omega)).trans this.2.2.1, (put4_other ne 3 (by omega)).trans this.2.2.2⟩
 ·by_cases e : j = i
  ·subst e
   simp only [if_true]
   exact ⟨h1, cu, h2, hr⟩
  ·simp only [if_neg e]
   exact h.row j hj (by omega)
 ·by_cases e : k = i
  ·subst e
   simp only [if_true, if_neg (show ¬ j = k by omega)]
   exact hl j hjk
  ·simp only [if_neg e, if_neg (show ¬ j = i by omega)]
   exact h.later j k hjk (by omega)

theorem Laid.tkRow {ts : List Tk} {g : Nat} {G : Nat -> Nat} {cur : Array Value} {wr : World} (h : Laid ts g ts.length G cur wr) (hh : wr.heap[g]? = some (.cells cur 42 (0, 0))) : TkRow wr (some ⟨g, 0, none⟩) ts := by
 intro j hj
 obtain ⟨c0, c1, c2, c3⟩ := h.cells j hj hj
 refine ⟨g, 0, some ⟨G j, 0, none⟩, ts[j].attrs.length, rfl, lt_of_heap hh, ?_, ?_, ?_, ?_, by obtain ⟨_, cu, h1, h2⟩ := h.row j hj hj; exact h2.atRow h1⟩
 ·rw [Lib.cell_of_heap hh, Nat.zero_add]; exact c0
 ·rw [Lib.cell_of_heap hh, Nat.zero_add]; exact c1
 ·rw [Lib.cell_of_heap hh, Nat.zero_add]; exact c2
 ·rw [Lib.cell_of_heap hh, Nat.zero_add]; exact c3

end Go.Proofs.YtlpbbkaelbafdaaGreatDoor.Nd

namespace Go.Proofs.YtlpbbkaelbafdaaGreatDoor
open Go.RowKit

theorem Shape.K_ge (s : Shape) (k : Nat) : ∀ j, j <= s.K k j := by
 intro j
 induction j with
 | zero => exact Nat.zero_le _
 | succ j ih =>
  show j + 1 <= s.K k j + (3 + 2 * s.len j)
  omega

theorem hold_step {s : Shape} {B i : Nat} {w w' : World} {f : Nat -> Tk} {t : Tk} {cur : Array Value} (ok : s.Ok B) (h : s.Holds w f) (hi : i < s.n) (hcur : w.heap[s.R]? = some (.cells cur 133 (0, 0)))
  (hk : KeepB (fun b => b = s.R \/ 0 < s.len i /\ b = s.A i) w w')
  (hR : w'.heap[s.R]? = some (.cells (((cur.setIfInBounds (s.o + i * 4) (.int .i64 t.kind)).setIfInBounds (s.o + i * 4 + 1) (.string t.name)).setIfInBounds (s.o + i * 4 + 3) (.string t.text)) 133 (0, 0)))
  (hl : t.attrs.length = s.len i) (ha : 0 < s.len i -> ∃ cu, w'.heap[s.A i]? = some (.cells cu 40 (0, 0)) /\ AtCells cu (s.O i) t.attrs) : s.Holds w' (fun j => if j = i then t else f j) := by
 obtain ⟨cur0, hc0, hr⟩ := h.row
 have ec : cur0 = cur := by
  rw [hcur] at hc0
  simp at hc0
  exact hc0.symm
 subst ec
 have b3 : s.o + i * 4 + 3 < cur0.size := (Array.getElem?_eq_some_iff.1 (hr i hi).c3).1
 refine ⟨⟨_, hR, fun j hj => ?_⟩, fun j hj => ?_, fun j hj hlj => ?_⟩
 ·by_cases e : j = i
  ·subst e
   simp only [if_true]
   have t2 := (hr j hj).c2
   refine ⟨?_, ?_, ?_, ?_⟩
   ·simp [Array.getElem?_setIfInBounds]; omega
   ·simp [Array.getElem?_setIfInBounds]; omega
   ·simp only [Array.getElem?_setIfInBounds]
    rw [if_neg (by omega), if_neg (by omega), if_neg (by omega), t2, h.len j hj, hl]
   ·simp [Array.getElem?_setIfInBounds]; omega
  ·simp only [if_neg e]
   have t0 := hr j hj
   refine ⟨?_, ?_, ?_, ?_⟩
   ·simp only [Array.getElem?_setIfInBounds]; rw [if_neg (by omega), if_neg (by omega), if_neg (by omega)]; exact t0.c0
   ·simp only [Array.getElem?_setIfInBounds]; rw [if_neg (by omega), if_neg (by omega), if_neg (by omega)]; exact t0.c1
   ·simp only [Array.getElem?_setIfInBounds]; rw [if_neg (by omega), if_neg (by omega), if_neg (by omega)]; exact t0.c2
   ·simp only [Array.getElem?_setIfInBounds]; rw [if_neg (by omega), if_neg (by omega), if_neg (by omega)]; exact t0.c3
 ·by_cases e : j = i
  ·subst e; simpa using hl
  ·simp only [if_neg e]; exact h.len j hj
 ·by_cases e : j = i
  ·subst e
   simp only [if_true]
   exact ha hlj
  ·simp only [if_neg e]
   obtain ⟨cu, hcu, hac⟩ := h.ats j hj hlj
   refine ⟨cu, (hk.block _ (lt_of_heap hcu) ?_).trans hcu, hac⟩
   rintro (x | ⟨x, y⟩)
   ·exact (ok.at_ j hj hlj).2.2 x
   ·exact ok.apart j i hj hi e hlj x y

end Go.Proofs.YtlpbbkaelbafdaaGreatDoor

namespace Go.Proofs.YtlpbbkaelbafdaaGreatDoor.Nd
open Go.RowKit

structure HoldsN (s : Shape) (w : World) (f : Nat -> Tk) : Prop where
 row : ∃ cur, w.heap[s.R]? = some (.cells cur 42 (0, 0)) /\ ∀ j, j < s.n -> TkCells cur (s.o + j * 4) (f j) (s.aa j) (s.C j)
 len : ∀ j, j < s.n -> (f j).attrs.length = s.len j
 ats : ∀ j, j < s.n -> 0 < s.len j -> ∃ cu, w.heap[s.A j]? = some (.cells cu 40 (0, 0)) /\ AtCells cu (s.O j) (f j).attrs

theorem HoldsN.keep {s : Shape} {w w' : World} {f : Nat -> Tk} {p : Nat -> Prop} (h : HoldsN s w f) (k : KeepB p w w') (h1 : ¬ p s.R) (h2 : ∀ j, j < s.n -> 0 < s.len j -> ¬ p (s.A j)) : HoldsN s w' f := by
 obtain ⟨cur, hc, hr⟩ := h.row
 refine ⟨⟨cur, (k.block _ (lt_of_heap hc) h1).trans hc, hr⟩, h.len, fun j hj hl => ?_⟩
 obtain ⟨cu, hcu, ha⟩ := h.ats j hj hl
 exact ⟨cu, (k.block _ (lt_of_heap hcu) (h2 j hj hl)).trans hcu, ha⟩
-- over type 42

theorem HoldsN.below {s : Shape} {w w' : World} {f : Nat -> Tk} (h : HoldsN s w f) (k : Below w.heap.size w w') : HoldsN s w' f :=
 h.keep (KeepB.of_below (fun _ => False) k) (fun x => x) (fun _ _ _ x => x)
-- over type 42

theorem HoldsN.atRow {s : Shape} {w : World} {f : Nat -> Tk} {B : Nat} (h : HoldsN s w f) (ok : s.Ok B) (j : Nat) (hj : j < s.n) : AtRow w (s.aa j) (f j).attrs := by
 intro m hm
 have hl : 0 < s.len j := by rw [<- h.len j hj]; omega
 obtain ⟨cu, hcu, ha⟩ := h.ats j hj hl
 obtain ⟨c1, c2⟩ := ha m hm
 exact ⟨s.A j, s.O j, (ok.at_ j hj hl).1, lt_of_heap hcu, by rw [Lib.cell_of_heap hcu]; exact c1, by rw [Lib.cell_of_heap hcu]; exact c2⟩
-- over type 42

theorem HoldsN.tkRow {s : Shape} {w : World} {f : Nat -> Tk} {B : Nat} {ts : List Tk} (h : HoldsN s w f) (ok : s.Ok B) (hn : ts.length = s.n) (hf : ∀ j (hj : j < ts.length), f j = ts[j]) : TkRow w (some ⟨s.R, s.o, none⟩) ts := by
 intro j hj
 obtain ⟨cur, hc, hr⟩ := h.row
 have hjn : j < s.n := by omega
 have t := hr j hjn
 have ha := h.atRow ok j hjn
 rw [hf j hj] at t ha
 exact ⟨s.R, s.o, s.aa j, s.C j, rfl, lt_of_heap hc, by rw [Lib.cell_of_heap hc]; exact t.c0, by rw [Lib.cell_of_heap hc]; exact t.c1, by rw [Lib.cell_of_heap hc]; exact t.c2, by rw [Lib.cell_of_heap hc]; exact t.c3, ha⟩
-- over type 42

theorem hold_step {s : Shape} {B i : Nat} {w w' : World} {f : Nat -> Tk} {t : Tk} {cur : Array Value} (ok : s.Ok B) (h : HoldsN s w f) (hi : i < s.n) (hcur : w.heap[s.R]? = some (.cells cur 42 (0, 0)))
  (hk : KeepB (fun b => b = s.R \/ 0 < s.len i /\ b = s.A i) w w')
  (hR : w'.heap[s.R]? = some (.cells (((cur.setIfInBounds (s.o + i * 4) (.int .i64 t.kind)).setIfInBounds (s.o + i * 4 + 1) (.string t.name)).setIfInBounds (s.o + i * 4 + 3) (.string t.text)) 42 (0, 0)))
  (hl : t.attrs.length = s.len i) (ha : 0 < s.len i -> ∃ cu, w'.heap[s.A i]? = some (.cells cu 40 (0, 0)) /\ AtCells cu (s.O i) t.attrs) : HoldsN s w' (fun j => if j = i then t else f j) := by
 obtain ⟨cur0, hc0, hr⟩ := h.row
 have ec : cur0 = cur := by
  rw [hcur] at hc0
  simp at hc0
  exact hc0.symm
 subst ec
 have b3 : s.o + i * 4 + 3 < cur0.size := (Array.getElem?_eq_some_iff.1 (hr i hi).c3).1
 refine ⟨⟨_, hR, fun j hj => ?_⟩, fun j hj => ?_, fun j hj hlj => ?_⟩
 ·by_cases e : j = i
  ·subst e
   simp only [if_true]
   have t2 := (hr j hj).c2
   refine ⟨?_, ?_, ?_, ?_⟩
   ·simp [Array.getElem?_setIfInBounds]; omega
   ·simp [Array.getElem?_setIfInBounds]; omega
   ·simp only [Array.getElem?_setIfInBounds]
    rw [if_neg (by omega), if_neg (by omega), if_neg (by omega), t2, h.len j hj, hl]
   ·simp [Array.getElem?_setIfInBounds]; omega
  ·simp only [if_neg e]
   have t0 := hr j hj
   refine ⟨?_, ?_, ?_, ?_⟩
   ·simp only [Array.getElem?_setIfInBounds]; rw [if_neg (by omega), if_neg (by omega), if_neg (by omega)]; exact t0.c0
   ·simp only [Array.getElem?_setIfInBounds]; rw [if_neg (by omega), if_neg (by omega), if_neg (by omega)]; exact t0.c1
   ·simp only [Array.getElem?_setIfInBounds]; rw [if_neg (by omega), if_neg (by omega), if_neg (by omega)]; exact t0.c2
   ·simp only [Array.getElem?_setIfInBounds]; rw [if_neg (by omega), if_neg (by omega), if_neg (by omega)]; exact t0.c3
 ·by_cases e : j = i
  ·subst e; simpa using hl
  ·simp only [if_neg e]; exact h.len j hj
 ·by_cases e : j = i
  ·subst e
   simp only [if_true]
   exact ha hlj
  ·simp only [if_neg e]
   obtain ⟨cu, hcu, hac⟩ := h.ats j hj hlj
   refine ⟨cu, (hk.block _ (lt_of_heap hcu) ?_).trans hcu, hac⟩
   rintro (x | ⟨x, y⟩)
   ·exact (ok.at_ j hj hlj).2.2 x
   ·exact ok.apart j i hj hi e hlj x y

end Go.Proofs.YtlpbbkaelbafdaaGreatDoor.Nd

namespace Go.Proofs.YtlpbbkaelbafdaaGreatDoor.Nd
open Go.RowKit

def atT (ts : List Tk) (j : Nat) : Tk := match ts[j]? with | some t => t | none => ⟨0, ⟨#[]⟩, [], ⟨#[]⟩⟩

theorem atT_at {ts : List Tk} {j : Nat} (h : j < ts.length) : atT ts j = ts[j] := by unfold atT; rw [List.getElem?_eq_getElem h]

def shL (g : Nat) (G : Nat -> Nat) (ts : List Tk) : Shape where
 R := g
 o := 0
 n := ts.length
 len := fun j => (atT ts j).attrs.length
 aa := fun j => some ⟨G j, 0, none⟩
 A := G
 O := fun _ => 0
 C := fun j => (atT ts j).attrs.length

theorem Laid.shape {ts : List Tk} {g : Nat} {G : Nat -> Nat} {cur : Array Value} {w : World} (h : Laid ts g ts.length G cur w) (hh : w.heap[g]? = some (.cells cur 42 (0, 0))) : (shL g G ts).Ok g /\ HoldsN (shL g G ts) w (atT ts) := by
 refine ⟨⟨Nat.le_refl _, fun j hj hl => ?_, fun i j hi hj hne _ _ e => ?_⟩, ⟨⟨cur, hh, fun j hj => ?_⟩, fun j hj => rfl, fun j hj hl => ?_⟩⟩
 ·have := (h.row j hj hj).1
  exact ⟨rfl, by show g <= G j; omega, by show ¬ G j = g; omega⟩
 ·have e : G i = G j := e
  rcases Nat.lt_or_gt_of_ne hne with h' | h'
  ·have := h.later i j h' hj
   omega
  ·have := h.later j i h' hi
   omega
 ·obtain ⟨k0, k1, k2, k3⟩ := h.cells j hj hj
  have e := atT_at (ts := ts) hj
  rw [show (shL g G ts).o + j * 4 = j * 4 from Nat.zero_add _]
  exact ⟨by rw [e]; exact k0, by rw [e]; exact k1, by rw [show (shL g G ts).C j = ts[j].attrs.length from by show (atT ts j).attrs.length = _; rw [e], e]; exact k2, by rw [e]; exact k3⟩
 ·obtain ⟨_, cu, h1, h2⟩ := h.row j hj hj
  refine ⟨cu, h1, ?_⟩
  rw [atT_at hj]
  exact h2

theorem shL_K (g : Nat) (G : Nat -> Nat) (ts : List Tk) (k : Nat) : ∀ m, m <= ts.length -> (shL g G ts).K k m = k + 3 * m + 2 * sumA (ts.take m)
 | 0, _ => rfl
 | m + 1, h => by
  show (shL g G ts).K k m + (3 + 2 * (atT ts m).attrs.length) = _
  rw [shL_K g G ts k m (by omega), take_snocN (show m < ts.length by omega), sumA_snoc, atT_at (show m < ts.length by omega)]
  omega

def shR (g : Nat) (es : List E) : Shape where
 R := g
 o := 0
 n := es.length
 len := fun j => match es[j]? with | some e => e.t.attrs.length | none => 0
 aa := fun j => match es[j]? with | some e => e.a | none => none
 A := fun j => match es[j]? with | some ⟨_, some ad, _⟩ => ad.block | _ => 0
 O := fun j => match es[j]? with | some ⟨_, some ad, _⟩ => ad.off | _ => 0
 C := fun j => match es[j]? with | some e => e.cap | none => 0

def eAt (es : List E) (j : Nat) : Tk := match es[j]? with | some e => e.t | none => ⟨0, ⟨#[]⟩, [], ⟨#[]⟩⟩

theorem eAt_map {es : List E} {ts : List Tk} (h : es.map (·.t) = ts) (j : Nat) (hj : j < ts.length) : eAt es j = ts[j] := by
 have hl : es.length = ts.length := by rw [<- h, List.length_map]
 unfold eAt
 rw [List.getElem?_eq_getElem (by omega)]
 subst h
 simp

theorem shR_at (g : Nat) (es : List E) (j : Nat) (hj : j < es.length) : (shR g es).len j = es[j].t.attrs.length /\ (shR g es).aa j = es[j].a /\ (shR g es).C j = es[j].cap /\ eAt es j = es[j].t
  /\ ∀ b o, es[j].a = some ⟨b, o, none⟩ -> (shR g es).A j = b /\ (shR g es).O j = o := by
 have he := List.getElem?_eq_getElem hj
 refine ⟨?_, ?_, ?_, ?_, fun b o hb => ?_⟩
 ·show (match es[j]? with | some e => e.t.attrs.length | none => 0) = _
  rw [he]
 ·show (match es[j]? with | some e => e.a | none => none) = _
  rw [he]
 ·show (match es[j]? with | some e => e.cap | none => 0) = _
  rw [he]
 ·unfold eAt
  rw [he]
 ·obtain ⟨x, hx⟩ : ∃ x, es[j] = x := ⟨_, rfl⟩
  rw [hx] at he hb
  obtain ⟨t, a, c⟩ := x
  simp only at hb
  subst hb
  exact ⟨by show (match es[j]? with | some ⟨_, some ad, _⟩ => ad.block | _ => 0) = _; rw [he], by show (match es[j]? with | some ⟨_, some ad, _⟩ => ad.off | _ => 0) = _; rw [he]⟩

theorem Row.shape {w : World} {B : Nat} {v : Value} {es : List E} (h : Row w B v es) (hne : ¬ es = []) :
  ∃ (g : Nat) (cap : Nat), v = .slice (some ⟨g, 0, none⟩) es.length cap /\ (shR g es).Ok B /\ HoldsN (shR g es) w (eAt es) := by
 rcases h.own.2 with ⟨_, h0⟩ | ⟨g, cap, cur, rfl, hg, hh, hn, hc, hs, ht⟩
 ·exact absurd (List.eq_nil_of_length_eq_zero h0) hne
 ·refine ⟨g, cap, rfl, ⟨hg, fun j hj hl => ?_, fun i j hi hj hne hl hl' => ?_⟩, ⟨⟨cur, hh, fun j hj => ?_⟩, fun j hj => ?_, fun j hj hl => ?_⟩⟩
  ·obtain ⟨s1, s2, s3, s4, s5⟩ := shR_at g es j hj
   rw [s1] at hl
   obtain ⟨b, o, cu, e, hB, _⟩ := (h.ats _ (List.getElem_mem hj)).1 hl
   obtain ⟨s6, s7⟩ := s5 b o e
   rw [s2, s6, s7]
   exact ⟨e, hB, fun x => (h.ats _ (List.getElem_mem hj)).2 b o hl e (by rw [x]; rfl)⟩
  ·obtain ⟨s1, s2, s3, s4, s5⟩ := shR_at g es i hi
   obtain ⟨t1, t2, t3, t4, t5⟩ := shR_at g es j hj
   rw [s1] at hl
   rw [t1] at hl'
   obtain ⟨b, o, _, e, _⟩ := (h.ats _ (List.getElem_mem hi)).1 hl
   obtain ⟨b', o', _, e', _⟩ := (h.ats _ (List.getElem_mem hj)).1 hl'
   rw [(s5 b o e).1, (t5 b' o' e').1]
   have hi : i < es.length := hi
   have hj : j < es.length := hj
   rcases Nat.lt_or_gt_of_ne hne with h' | h'
   ·exact List.pairwise_iff_getElem.1 h.apart i j hi hj h' hl hl' b o b' o' e e'
   ·exact fun x => List.pairwise_iff_getElem.1 h.apart j i hj hi h' hl' hl b' o' b o e' e x.symm
  ·obtain ⟨s1, s2, s3, s4, s5⟩ := shR_at g es j hj
   obtain ⟨k0, k1, k2, k3⟩ := cs_get es j hj
   have hx : ∀ k u, (cs es)[k]? = some u -> cur[0 + k]? = some u := by
    intro k u hk
    rw [Nat.zero_add, <- Array.getElem?_toList]
    rw [<- ht, List.getElem?_take] at hk
    split at hk
    ·exact hk
    ·cases hk
   rw [s2, s3, s4]
   exact ⟨hx _ _ k0, hx _ _ k1, hx _ _ k2, hx _ _ k3⟩
  ·obtain ⟨s1, s2, s3, s4, s5⟩ := shR_at g es j hj
   rw [s4, s1]
  ·obtain ⟨s1, s2, s3, s4, s5⟩ := shR_at g es j hj
   rw [s1] at hl
   obtain ⟨b, o, cu, e, _, hhb, hcl⟩ := (h.ats _ (List.getElem_mem hj)).1 hl
   obtain ⟨s6, s7⟩ := s5 b o e
   rw [s6, s7, s4]
   exact ⟨cu, hhb, hcl⟩

theorem shR_K (g : Nat) (es : List E) (ts : List Tk) (hm : es.map (·.t) = ts) (k : Nat) : ∀ m, m <= ts.length -> (shR g es).K k m = k + 3 * m + 2 * sumA (ts.take m)
 | 0, _ => rfl
 | m + 1, h => by
  have hl : es.length = ts.length := by rw [<- hm, List.length_map]
  show (shR g es).K k m + (3 + 2 * (shR g es).len m) = _
  have e1 : es[m].t = ts[m] := by subst hm; simp
  rw [shR_K g es ts hm k m (by omega), take_snocN (show m < ts.length by omega), sumA_snoc, (shR_at g es m (by omega)).1, e1]
  omega

theorem Row.keep {w w' : World} {B : Nat} {v : Value} {es : List E} {p : Nat -> Prop} (h : Row w B v es) (k : KeepB p w w') (hp : ∀ b, p b -> b < B) : Row w' B v es := by
 have key : ∀ b o, B <= b -> w.heap[b]? = some o -> w'.heap[b]? = some o := fun b o hb hh => (k.block b (lt_of_heap hh) (fun x => by have := hp b x; omega)).trans hh
 refine ⟨⟨h.own.1, ?_⟩, fun e he => ⟨fun hl => ?_, (h.ats e he).2⟩, h.apart⟩
 ·rcases h.own.2 with h' | ⟨g, cap, cur, h1, h2, h3, h4⟩
  ·exact .inl h'
  ·exact .inr ⟨g, cap, cur, h1, h2, key g _ h2 h3, h4⟩
 ·obtain ⟨g, o, cu, e1, e2, e3, e4⟩ := (h.ats e he).1 hl
  exact ⟨g, o, cu, e1, e2, key g _ e2 e3, e4⟩

end Go.Proofs.YtlpbbkaelbafdaaGreatDoor.Nd
