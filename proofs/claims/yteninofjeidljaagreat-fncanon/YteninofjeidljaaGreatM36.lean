/- What grows by a pile, left to TreeOk, is what grows (plain mathematics). What the draw of a tree keeps to: who is open stands in the chain (plain mathematics). Contract of l8Draw of the specification (the draw of a tree). Contracts of the draws of a tree that may be bent (l8DrawAny), of a place in it (l8DrawAt), of both (DrawEndOf, DrawKidsOf). -/
import Derived.Test.YteninofjeidljaaGreatM24
import Derived.Test.YteninofjeidljaaGreatM16
import Derived.Test.YteninofjeidljaaGreatM35
import Derived.Deep.CutRange
import Derived.Deep.RegionHeld3
import Derived.Laws.OwnMore
namespace Go.Proofs.YteninofjeidljaaGreat

set_option linter.unusedVariables false

theorem par_app {out u : List Tk} {x : Nat} (h : x < out.length) : parI (out ++ u) x = parI out x := by
  unfold parI
  rw [List.getElem?_append_left h]

end Go.Proofs.YteninofjeidljaaGreat

namespace Go.Proofs.YteninofjeidljaaGreat

set_option linter.unusedVariables false

structure Grn (ts : List Tk) (at_ : Nat) : Prop where
  pos : 0 < ts.length
  p0 : parI ts 0 = -1
  up : ∀ j, j < ts.length → UpOk ts j
  mem : at_ ∈ chainF ts ts.length
  el : elN ts at_

theorem chain_app {ts u : List Tk} : ∀ i, i ≤ ts.length → chainF (ts ++ u) i = chainF ts i
  | 0, _ => rfl
  | i + 1, h => by
    show i :: (chainF (ts ++ u) i).dropWhile _ = i :: (chainF ts i).dropWhile _
    rw [chain_app i (by omega), par_app (by omega)]

theorem el_app {ts u : List Tk} {p : Nat} (h : elN ts p) : elN (ts ++ u) p := by
  obtain ⟨h1, h2⟩ := h
  refine ⟨by rw [List.length_append]; omega, ?_⟩
  rw [List.getElem_append_left h1]
  exact h2

theorem up_app {ts u : List Tk} {j : Nat} (hj : j < ts.length) (h : UpOk ts j) : UpOk (ts ++ u) j := by
  rcases h with h | ⟨p, h1, h2, h3⟩
  · exact .inl h
  · exact .inr ⟨p, by rw [chain_app j (by omega)]; exact h1, by rw [par_app hj]; exact h2, el_app h3⟩

theorem mem_dw {p : Nat} : ∀ {l : List Nat}, p ∈ l → p ∈ l.dropWhile (fun (j : Nat) => !decide ((j : Int) = (p : Int)))
  | [], h => absurd h List.not_mem_nil
  | x :: l, h => by
    by_cases e : x = p
    · subst e
      rw [List.dropWhile_cons_of_neg (by simp)]
      exact List.mem_cons_self
    · rw [List.dropWhile_cons_of_pos (by simp; omega)]
      rcases List.mem_cons.1 h with h' | h'
      · exact absurd h'.symm e
      · exact mem_dw h'

theorem Grn.lt {ts : List Tk} {at_ : Nat} (h : Grn ts at_) : at_ < ts.length := by
  obtain ⟨n, hn⟩ : ∃ n, ts.length = n + 1 := ⟨ts.length - 1, by have := h.pos; omega⟩
  have := (linked_all n (fun j hj => h.up j (by omega))).2 at_ (by rw [← hn]; exact h.mem)
  omega

theorem Grn.start {t : Tk} (hk : t.kind = -1) (hn : ¬ t.name.size = 0) : Grn [t] 0 :=
  ⟨Nat.zero_lt_one, hk, fun j hj => .inl (by simp at hj; omega), by show 0 ∈ [0]; simp, ⟨Nat.zero_lt_one, hn⟩⟩

theorem Grn.push {ts : List Tk} {at_ : Nat} (h : Grn ts at_) {t : Tk} (hk : t.kind = (at_ : Int)) : (∀ j, j < (ts ++ [t]).length → UpOk (ts ++ [t]) j) ∧ at_ ∈ chainF (ts ++ [t]) (ts ++ [t]).length ∧ ts.length ∈ chainF (ts ++ [t]) (ts ++ [t]).length ∧ parI (ts ++ [t]) 0 = -1 := by
  have hpt : parI (ts ++ [t]) ts.length = (at_ : Int) := by unfold parI; simp [hk]
  have hl : (ts ++ [t]).length = ts.length + 1 := by simp
  have hc : chainF (ts ++ [t]) (ts.length + 1) = ts.length :: (chainF ts ts.length).dropWhile (fun (j : Nat) => !decide ((j : Int) = (at_ : Int))) := by
    show ts.length :: (chainF (ts ++ [t]) ts.length).dropWhile _ = _
    rw [chain_app _ (Nat.le_refl _), hpt]
  refine ⟨fun j hj => ?_, ?_, ?_, by rw [par_app h.pos]; exact h.p0⟩
  · rcases Nat.lt_or_ge j ts.length with h' | h'
    · exact up_app h' (h.up j h')
    · have : j = ts.length := by omega
      subst this
      exact .inr ⟨at_, by rw [chain_app _ (Nat.le_refl _)]; exact h.mem, hpt.symm, el_app h.el⟩
  · rw [hl, hc]
    exact List.mem_cons_of_mem _ (mem_dw h.mem)
  · rw [hl, hc]
    exact List.mem_cons_self

theorem Grn.keep {ts : List Tk} {at_ : Nat} (h : Grn ts at_) {t : Tk} (hk : t.kind = (at_ : Int)) : Grn (ts ++ [t]) at_ := by
  obtain ⟨h1, h2, _, h4⟩ := h.push hk
  exact ⟨by simp, h4, h1, h2, el_app h.el⟩

theorem Grn.into {ts : List Tk} {at_ : Nat} (h : Grn ts at_) {t : Tk} (hk : t.kind = (at_ : Int)) (hn : ¬ t.name.size = 0) : Grn (ts ++ [t]) ts.length := by
  obtain ⟨h1, _, h3, h4⟩ := h.push hk
  exact ⟨by simp, h4, h1, h3, ⟨by simp, by simpa using hn⟩⟩

theorem par_mem {ts : List Tk} (h0 : parI ts 0 = -1) : ∀ {c : List Nat}, Linked ts c → ∀ x, x ∈ c → 0 ≤ parI ts x → (parI ts x).toNat ∈ c
  | [], h, x, hx, _ => absurd hx List.not_mem_nil
  | [y], h, x, hx, hp => by
    rw [List.mem_singleton] at hx
    have : y = 0 := h
    subst hx
    subst this
    omega
  | y :: z :: r, h, x, hx, hp => by
    rcases List.mem_cons.1 hx with rfl | hx
    · rw [h.1, Int.toNat_natCast]
      exact List.mem_cons_of_mem _ List.mem_cons_self
    · exact List.mem_cons_of_mem _ (par_mem h0 h.tail x hx hp)

theorem Grn.outer {ts : List Tk} {at_ : Nat} (h : Grn ts at_) (hp : 0 ≤ parI ts at_) : Grn ts (parI ts at_).toNat := by
  obtain ⟨n, hn⟩ : ∃ n, ts.length = n + 1 := ⟨ts.length - 1, by have := h.pos; omega⟩
  have hl := (linked_all n (fun j hj => h.up j (by omega))).1
  rw [← hn] at hl
  refine ⟨h.pos, h.p0, h.up, par_mem h.p0 hl at_ h.mem hp, ?_⟩
  rcases h.up at_ h.lt with h' | ⟨p, _, e, he⟩
  · rw [h', h.p0] at hp
    omega
  · rw [← e, Int.toNat_natCast]
    exact he

end Go.Proofs.YteninofjeidljaaGreat

namespace Go.Proofs.YteninofjeidljaaGreat

open Go.RowKit

set_option linter.unusedVariables false

set_option linter.unusedSimpArgs false

theorem tab2_at (w : World) (B x : Nat) (hx : x < 2) (h : w.heap[B]? = some (.cells #[.string ⟨#[97]⟩, .string ⟨#[112, 58, 97]⟩] 9 (0, 0))) : ∃ t : ByteArray, w.cell? ⟨B, x, none⟩ = some (.string t) ∧ t.size ≤ 3 ∧ ¬ t.size = 0 := by
  rw [Lib.cell_of_heap h]
  rcases (show x = 0 ∨ x = 1 from by omega) with rfl | rfl
  all_goals exact ⟨_, rfl, by decide, by decide⟩

theorem tab5_at (w : World) (B x : Nat) (hx : x < 5) (h : w.heap[B]? = some (.cells #[.string ⟨#[97]⟩, .string ⟨#[98]⟩, .string ⟨#[112, 58, 97]⟩, .string ⟨#[113, 58, 98]⟩, .string ⟨#[99]⟩] 9 (0, 0))) : ∃ t : ByteArray, w.cell? ⟨B, x, none⟩ = some (.string t) ∧ t.size ≤ 3 ∧ ¬ t.size = 0 := by
  rw [Lib.cell_of_heap h]
  rcases (show x = 0 ∨ x = 1 ∨ x = 2 ∨ x = 3 ∨ x = 4 from by omega) with rfl | rfl | rfl | rfl | rfl
  all_goals exact ⟨_, rfl, by decide, by decide⟩

/-- The cursor, and what was there. -/
structure CSt (w0 : World) (a : Option Addr) (len cap b : Nat) (w wr : World) : Prop where
  cur : Cur w0 a len cap b wr
  gr : w.grownBy wr (some b)
  lt : b < w.heap.size
  le : w0.heap.size ≤ w.heap.size

theorem CSt.draw {w0 : World} {a : Option Addr} {len cap b : Nat} {w wr w1 : World} (h : CSt w0 a len cap b w wr) (hC : Cur w0 a len cap b w1) (g : wr.grownBy w1 (some b)) : CSt w0 a len cap b w w1 := ⟨hC, gtrans h.gr g, h.lt, h.le⟩

theorem CSt.alloc {w0 : World} {a : Option Addr} {len cap b : Nat} {w wr : World} (h : CSt w0 a len cap b w wr) (o : Obj) : CSt w0 a len cap b w (wr.alloc o) := h.draw (h.cur.alloc o) (World.grownBy_alloc wr o _)

theorem CSt.drewN {w0 : World} {a : Option Addr} {len cap b : Nat} {w wr : World} (h : CSt w0 a len cap b w wr) (n : Nat) : CSt w0 a len cap b w (wr.drewN n) := ⟨h.cur.drewN n, g_drewN h.gr n, h.lt, h.le⟩

theorem ownAts_lift {w : World} {B B' : Nat} {a : Option Addr} {l : List At} (h : OwnAts w B' a l) (hB : B ≤ B') : OwnAts w B a l := fun hl => by
  obtain ⟨g, o, cu, e1, e2, e3⟩ := h hl
  exact ⟨g, o, cu, e1, Nat.le_trans hB e2, e3⟩

theorem dst_own {w0 : World} {a : Option Addr} {len cap b : Nat} {w W W3 : World} {a5 : Option Addr} {c5 : Nat} {l : List At} (h : DSt w0 a len cap b W W3 (.slice a5 l.length c5) l) (hw : w.heap.size ≤ W.heap.size) : OwnAts W3 w.heap.size a5 l := by
  obtain ⟨a', c', e, ho⟩ := h.row
  cases e
  exact ownAts_lift ho hw

theorem own_mono {w : World} {B B' n s : Nat} {v : Value} {xs : List Value} {e : TypeId} (h : w.ownsRow B' e s v n xs) (hB : B ≤ B') : w.ownsRow B e s v n xs := by
  refine ⟨h.1, ?_⟩
  rcases h.2 with h' | ⟨g, cap, cur, h1, h2, h3⟩
  · exact .inl h'
  · exact .inr ⟨g, cap, cur, h1, Nat.le_trans hB h2, h3⟩

theorem own_grownR {w w' : World} {B n s : Nat} {v : Value} {xs : List Value} {E e : TypeId} {row : Option Nat} (h : w.ownsRow B E s v n xs) (hg : w.grownBy w' row) (hr : ∀ k, row = some k → ∃ c fz, w.heap[k]? = some (.cells c e fz)) (hE : E ≠ e) : w'.ownsRow B E s v n xs := by
  refine ⟨h.1, ?_⟩
  rcases h.2 with h' | ⟨g, cap, cur, h1, h2, h3, h4⟩
  · exact .inl h'
  · exact .inr ⟨g, cap, cur, h1, h2, blk_grownR h3 hg hr hE, h4⟩

/-- The nodes so far, the cursor, who is open. -/
structure NSt (w0 : World) (a : Option Addr) (len cap b : Nat) (w wr : World) (v : Value) (es : List Nd.E) (at_ : Nat) : Prop where
  c : CSt w0 a len cap b w wr
  row : Nd.Row wr w.heap.size v es
  sz : ∀ e ∈ es, TkSz 20 e.t
  grn : Grn (es.map (·.t)) at_
  own : ∀ e ∈ es, wr.ownsRow w.heap.size 114 2 (.slice e.a e.t.attrs.length e.cap) e.t.attrs.length (atC e.t.attrs)
  apo : es.Pairwise fun e f => ∀ k, (Value.slice e.a e.t.attrs.length e.cap).ownBlock = some k → ¬ (Value.slice f.a f.t.attrs.length f.cap).ownBlock = some k

theorem apo_of {W W3 : World} {B : Nat} {es : List Nd.E} {a5 : Option Addr} {l5 : List At} {c5 : Nat} (h : ∀ e ∈ es, W.ownsRow B 114 2 (.slice e.a e.t.attrs.length e.cap) e.t.attrs.length (atC e.t.attrs)) (h5 : W3.ownsRow W.heap.size 114 2 (.slice a5 l5.length c5) l5.length (atC l5)) :
    ∀ e ∈ es, ∀ k, (Value.slice e.a e.t.attrs.length e.cap).ownBlock = some k → ¬ (Value.slice a5 l5.length c5).ownBlock = some k := fun e he k e1 e2 => by
  have := ((h e he).lt k e1).2
  have := (h5.lt k e2).1
  omega

theorem cur_row {w0 : World} {a : Option Addr} {len cap b : Nat} {wr w1 : World} {B : Nat} {v : Value} {es : List Nd.E} (hc : Cur w0 a len cap b wr) (h : Nd.Row wr B v es) (g : wr.grownBy w1 (some b)) : Nd.Row w1 B v es := by
  obtain ⟨_, _, i, hh, _, _, hb⟩ := hc
  exact h.keepB (KeepB.of_grown (p := fun k => k = b) g rfl) (fun k hk c e fz hx => by
    subst hk
    rw [hb] at hx
    injection hx with hx
    injection hx with _ h2 _
    subst h2
    exact ⟨by decide, by decide⟩)

section

variable {w0 : World} {a : Option Addr} {len cap b : Nat} {w wr w1 : World} {v : Value} {es : List Nd.E} {at_ : Nat}

theorem NSt.draw (h : NSt w0 a len cap b w wr v es at_) (hC : Cur w0 a len cap b w1) (g : wr.grownBy w1 (some b)) : NSt w0 a len cap b w w1 v es at_ :=
  ⟨h.c.draw hC g, cur_row h.c.cur h.row g, h.sz, h.grn, fun e he => (h.own e he).kept g (.inr (fun x => by have := ((h.own e he).lt b x).1; have := h.c.lt; omega)), h.apo⟩

theorem NSt.alloc (h : NSt w0 a len cap b w wr v es at_) (o : Obj) : NSt w0 a len cap b w (wr.alloc o) v es at_ :=
  ⟨h.c.alloc o, h.row.below ((Below.refl _ _).alloc (Nat.le_refl _) o), h.sz, h.grn, fun e he => (h.own e he).alloc o, h.apo⟩

theorem NSt.drewN (h : NSt w0 a len cap b w wr v es at_) (n : Nat) : NSt w0 a len cap b w (wr.drewN n) v es at_ :=
  ⟨h.c.drewN n, h.row.below (below_drewN (Below.refl _ _) n), h.sz, h.grn, fun e he => ownsRow_below (h.own e he) (below_drewN (Below.refl _ _) n), h.apo⟩

/-- One more. -/
theorem NSt.join (h : NSt w0 a len cap b w wr v es at_) {v' : Value} {e : Nd.E} {at' : Nat} (hr : Nd.Row w1 w.heap.size v' (es ++ [e])) (g : wr.grownBy w1 v.ownBlock) (hoe : wr.ownsRow w.heap.size 114 2 (.slice e.a e.t.attrs.length e.cap) e.t.attrs.length (atC e.t.attrs)) (hap : ∀ e' ∈ es, ∀ k, (Value.slice e'.a e'.t.attrs.length e'.cap).ownBlock = some k → ¬ (Value.slice e.a e.t.attrs.length e.cap).ownBlock = some k) (hz : TkSz 20 e.t) (hg : Grn (es.map (·.t) ++ [e.t]) at') : NSt w0 a len cap b w w1 v' (es ++ [e]) at' := by
  refine ⟨⟨h.c.cur.grown g (fun x => ?_) (fun k x => ?_), ⟨g.os.trans h.c.gr.os, g.tape.trans h.c.gr.tape, g.output.trans h.c.gr.output, Nat.le_trans h.c.gr.size g.size, fun i hi hr => (g.block i (Nat.lt_of_lt_of_le hi h.c.gr.size) (fun x => ?_)).trans (h.c.gr.block i hi hr)⟩, h.c.lt, h.c.le⟩, hr, fun x hx => ?_, by rw [List.map_append]; exact hg, fun x hx => ?_, List.pairwise_append.2 ⟨h.apo, List.pairwise_singleton _ _, fun x hx y hy => by rw [List.mem_singleton] at hy; subst hy; exact hap x hx⟩⟩
  · have := (h.row.own.lt b x.symm).1
    have := h.c.lt
    omega
  · have := (h.row.own.lt k x).1
    have := h.c.le
    omega
  · have := (h.row.own.lt i x.symm).1
    omega
  · rcases List.mem_append.1 hx with h' | h'
    · exact h.sz x h'
    · rw [List.mem_singleton] at h'
      subst h'
      exact hz
  · rcases List.mem_append.1 hx with h' | h'
    · exact own_grownR (h.own x h') g h.row.kind (by decide)
    · rw [List.mem_singleton] at h'
      subst h'
      exact own_grownR hoe g h.row.kind (by decide)

end

theorem nst_one {w0 : World} {a : Option Addr} {len cap b : Nat} {w W : World} {tA : ByteArray} {l5 : List At} {a5 : Option Addr} {c5 : Nat} (hs : CSt w0 a len cap b w (W.alloc (.cells #[.int .i64 (-1), .string tA, .slice a5 l5.length c5, .string ⟨#[]⟩] 42)))
    (hm : (W.alloc (.cells #[.int .i64 (-1), .string tA, .slice a5 l5.length c5, .string ⟨#[]⟩] 42)).heap[W.heap.size]? = some (.cells #[.int .i64 (-1), .string tA, .slice a5 l5.length c5, .string ⟨#[]⟩] 42 (0, 0)))
    (ho : OwnAts (W.alloc (.cells #[.int .i64 (-1), .string tA, .slice a5 l5.length c5, .string ⟨#[]⟩] 42)) w.heap.size a5 l5) (how : (W.alloc (.cells #[.int .i64 (-1), .string tA, .slice a5 l5.length c5, .string ⟨#[]⟩] 42)).ownsRow w.heap.size 114 2 (.slice a5 l5.length c5) l5.length (atC l5)) (hw : w.heap.size ≤ W.heap.size) (hn : ¬ tA.size = 0) (hz : TkSz 20 ⟨-1, tA, l5, ⟨#[]⟩⟩) :
    NSt w0 a len cap b w (W.alloc (.cells #[.int .i64 (-1), .string tA, .slice a5 l5.length c5, .string ⟨#[]⟩] 42)) (.slice (some ⟨W.heap.size, 0, none⟩) 1 1) [⟨⟨-1, tA, l5, ⟨#[]⟩⟩, a5, c5⟩] 0 :=
  ⟨hs, Nd.Row.one (e := ⟨⟨-1, tA, l5, ⟨#[]⟩⟩, a5, c5⟩) hw hm ho (fun g o h e => by
    obtain ⟨g', o', cu, e', _, hh, _⟩ := ho h
    simp only at e
    rw [e] at e'
    cases e'
    rintro rfl
    rw [hm] at hh
    injection hh with hh
    injection hh with _ h2 _
    exact absurd h2 (by decide)), fun e he => by
    rw [List.mem_singleton] at he
    subst he
    exact hz, Grn.start rfl hn, fun e he => by
    rw [List.mem_singleton] at he
    subst he
    exact how, List.pairwise_singleton _ _⟩

theorem ap_of {Wx W3 : World} {B : Nat} {v : Value} {es : List Nd.E} {a5 : Option Addr} {l5 : List At} (hrow : Nd.Row Wx B v es) (ho : OwnAts W3 Wx.heap.size a5 l5) :
    (∀ e ∈ es, ∀ (t : Tk) (c : Nat), t.attrs = l5 → Nd.Apart e ⟨t, a5, c⟩) ∧ (∀ g o, 0 < l5.length → a5 = some ⟨g, o, none⟩ → ¬ v.ownBlock = some g) := by
  refine ⟨fun e he t c ht hl hl' g o g' o' e1 e2 x => ?_, fun g o hl e1 x => ?_⟩
  · subst x
    subst ht
    obtain ⟨g1, o1, cu, a1, _, a3, _⟩ := (hrow.ats e he).1 hl
    obtain ⟨g2, o2, cu2, b1, b2, _⟩ := ho hl'
    rw [e1] at a1
    simp only at e2
    rw [e2] at b1
    cases a1
    cases b1
    have := lt_of_heap a3
    omega
  · obtain ⟨g2, o2, cu2, b1, b2, _⟩ := ho hl
    rw [e1] at b1
    cases b1
    have := (hrow.own.lt g x).2
    omega

theorem one_cells {W : World} {gn : Nat} {P : Int} {nm tx : ByteArray} {l5 : List At} {a5 : Option Addr} {c5 : Nat} (hm : W.heap[gn]? = some (.cells #[.int .i64 P, .string nm, .slice a5 l5.length c5, .string tx] 42 (0, 0))) :
    ∀ j u, (Nd.cs [⟨⟨P, nm, l5, tx⟩, a5, c5⟩])[j]? = some u → W.cell? ((⟨gn, 0, none⟩ : Addr).add j) = some u := by
  intro j u hj
  have e : Nd.cs [(⟨⟨P, nm, l5, tx⟩, a5, c5⟩ : Nd.E)] = [.int .i64 P, .string nm, .slice a5 l5.length c5, .string tx] := rfl
  rw [e] at hj
  rw [add_plainW, Lib.cell_of_heap hm, Nat.zero_add, ← hj]
  simp

theorem one_hf {W : World} {B : Nat} {v : Value} {P : Int} {nm tx : ByteArray} {l5 : List At} {a5 : Option Addr} {c5 : Nat} (ho : OwnAts W B a5 l5) (h : ∀ g o, 0 < l5.length → a5 = some ⟨g, o, none⟩ → ¬ v.ownBlock = some g) :
    ∀ e ∈ [(⟨⟨P, nm, l5, tx⟩, a5, c5⟩ : Nd.E)], OwnAts W B e.a e.t.attrs ∧ ∀ g o, 0 < e.t.attrs.length → e.a = some ⟨g, o, none⟩ → ¬ v.ownBlock = some g := by
  intro e he
  rw [List.mem_singleton] at he
  subst he
  exact ⟨ho, h⟩

theorem one_ap {es : List Nd.E} {P : Int} {nm tx : ByteArray} {l5 : List At} {a5 : Option Addr} {c5 : Nat} (h : ∀ e ∈ es, ∀ (t : Tk) (c : Nat), t.attrs = l5 → Nd.Apart e ⟨t, a5, c⟩) : ∀ e ∈ es, ∀ f ∈ [(⟨⟨P, nm, l5, tx⟩, a5, c5⟩ : Nd.E)], Nd.Apart e f := by
  intro e he f hf
  rw [List.mem_singleton] at hf
  subst hf
  exact h e he _ _ rfl

set_option maxRecDepth 8000 in
set_option maxHeartbeats 8000000 in
theorem cDraw8 (w0 : World) (a : Option Addr) (len cap b : Nat) (w : World) (hlen : len ≤ 4096) (hcr : CodeRow w0 a len) (hC : Cur w0 a len cap b w) :
    Calls Tryz.prog 93 #[.pointer (some ⟨b, 0, none⟩)] w fun e w' => ∃ a' c' es at_, e = .returned (.slice a' (es : List Nd.E).length c') ∧ 1 ≤ es.length ∧ es.length ≤ 11 ∧ NSt w0 a len cap b w w' (.slice a' es.length c') es at_ := by
  have HR := hid hcr
  have hbl : b < w.heap.size := by obtain ⟨i, h, _, _, hh⟩ := hC.2.2; exact lt_of_heap hh
  have HS0 := hid (show CSt w0 a len cap b w w from ⟨hC, ⟨rfl, rfl, rfl, Nat.le_refl _, fun _ _ _ => rfl⟩, hbl, hC.2.1.size⟩)
  clear hcr hC hbl
  go_enter Tryz.func93, Tryz.ntmps93
  go_upto_region 1 with fail
  go_cut [3] from 8 to 90 (fun x wv => ∃ (gn : Nat) (e : Nd.E), x = .slice (some ⟨gn, 0, none⟩) 1 1 ∧ Hid (NSt w0 a len cap b w wv (.slice (some ⟨gn, 0, none⟩) 1 1) [e] 0))
  case first =>
    refine wp_region_held_drew (S := fun _ => True) (by kernel_rfl) trivial (fun _ => ?_)
    have HS := hid (show CSt w0 a len cap b w w.drew from HS0.out.drewN 1)
    generalize w.drew = W at *
    refine wpAnyH_take (i := 1) (v := ?_) rfl (by kernel_rfl) (by kernel_rfl) (by kernel_rfl) (fun _ _ _ h => h) (Or.inl ⟨by rfl, ?_⟩) trivial ?_
    rotate_left
    · intro w hSw
      go_simp
      try (with_reducible rfl)
    try simp only [Act.put, List.setIfInBounds_toArray, List.set_cons_zero, List.set_cons_succ]
    refine wpAnyH_take (i := 5) (v := ?_) rfl (by kernel_rfl) (by kernel_rfl) (by kernel_rfl) (fun _ _ _ h => h) (Or.inl ⟨by rfl, ?_⟩) trivial ?_
    rotate_left
    · intro w hSw
      go_simp
      try (with_reducible rfl)
    try simp only [Act.put, List.setIfInBounds_toArray, List.set_cons_zero, List.set_cons_succ]
    refine wpAnyH_ready (rs := [0, 2]) (by kernel_rfl) (by simp) (AllReadyH.cons rfl (fun K hK => ?_) (AllReadyH.cons rfl (fun K hK => ?_) AllReadyH.nil))
    · have HTB := hid (show ¬ W.heap.size = b by have := HS.out.gr.size; have := HS.out.lt; omega)
      go_simp
      refine hK.out _ _ trivial (fun _ => ?_)
      clear hK K
      try simp only [Act.put, List.setIfInBounds_toArray, List.set_cons_zero, List.set_cons_succ]
      have HT := hid (heap_alloc_new W (.cells #[.string ⟨#[97]⟩, .string ⟨#[112, 58, 97]⟩] 9))
      replace HS := hid (HS.out.alloc (.cells #[.string ⟨#[97]⟩, .string ⟨#[112, 58, 97]⟩] 9))
      generalize W.heap.size = tb at *
      generalize W.alloc (.cells #[.string ⟨#[97]⟩, .string ⟨#[112, 58, 97]⟩] 9) = W at *
      refine wpAnyH_ready (rs := [2]) (by kernel_rfl) (by simp) (AllReadyH.cons rfl (fun K hK => ?_) AllReadyH.nil)
      · go_simp
        refine (cBelow 2 w0 a len cap b _ hlen HR.out HS.out.cur (by omega) (by omega)).mono ?_
        rintro e W2 ⟨x, rfl, hx, hC, hG⟩
        replace HT := hid ((hG.block tb (lt_of_heap HT.out) (fun e => HTB.out (Option.some.inj e))).trans HT.out)
        replace HS := hid (HS.out.draw hC hG)
        have hxn : (x : Int) < 2 := by omega
        clear hC hG
        go_wp2_with fail
        refine hK.out _ _ trivial (fun _ => ?_)
        clear hK K
        try simp only [Act.put, List.setIfInBounds_toArray, List.set_cons_zero, List.set_cons_succ]
        generalize W2 = W at *
        refine wpAnyH_take (i := 3) (v := ?_) rfl (by kernel_rfl) (by kernel_rfl) (by kernel_rfl) (fun _ _ _ h => h) (Or.inl ⟨by rfl, ?_⟩) trivial ?_
        rotate_left
        · intro w hSw
          go_simp
          try (with_reducible rfl)
        try simp only [Act.put, List.setIfInBounds_toArray, List.set_cons_zero, List.set_cons_succ]
        refine wpAnyH_ready (rs := [4, 6]) (by kernel_rfl) (by simp) (AllReadyH.cons rfl (fun K hK => ?_) (AllReadyH.cons rfl (fun K hK => ?_) AllReadyH.nil))
        · obtain ⟨tA, hcA, htA, htP⟩ := tab2_at _ tb x hx HT.out
          go_simp
          refine hK.out _ _ trivial (fun _ => ?_)
          clear hK K
          try simp only [Act.put, List.setIfInBounds_toArray, List.set_cons_zero, List.set_cons_succ]
          clear hcA
          refine wpAnyH_ready (rs := [6]) (by kernel_rfl) (by simp) (AllReadyH.cons rfl (fun K hK => ?_) AllReadyH.nil)
          · go_simp
            refine (cDrawAttrs true w0 a len cap b _ hlen HR.out HS.out.cur).mono ?_
            rintro e W3 ⟨a5, c5, l5, rfl, hl5, hd5⟩
            have HOA := hid (dst_own hd5 HS.out.gr.size)
            have HOW := hid (own_mono hd5.own HS.out.gr.size)
            have HSZ5 := hid hd5.sz
            replace HT := hid ((hd5.gr.block tb (lt_of_heap HT.out) (fun e => HTB.out (Option.some.inj e))).trans HT.out)
            replace HS := hid (HS.out.draw hd5.cur hd5.gr)
            clear hd5
            go_wp2_with fail
            refine hK.out _ _ trivial (fun _ => ?_)
            clear hK K
            try simp only [Act.put, List.setIfInBounds_toArray, List.set_cons_zero, List.set_cons_succ]
            generalize W3 = W at *
            refine wpAnyH_take (i := 7) (v := ?_) rfl (by kernel_rfl) (by kernel_rfl) (by kernel_rfl) (fun _ _ _ h => h) (Or.inl ⟨by rfl, ?_⟩) trivial ?_
            rotate_left
            · intro w hSw
              go_simp
              try (with_reducible rfl)
            try simp only [Act.put, List.setIfInBounds_toArray, List.set_cons_zero, List.set_cons_succ]
            refine wpAnyH_ready (rs := [8]) (by kernel_rfl) (by simp) (AllReadyH.cons rfl (fun K hK => ?_) AllReadyH.nil)
            · have HM := hid (heap_alloc_new W (.cells #[.int .i64 (-1), .string tA, .slice a5 l5.length c5, .string ⟨#[]⟩] 42))
              have HSA := hid (HS.out.alloc (.cells #[.int .i64 (-1), .string tA, .slice a5 l5.length c5, .string ⟨#[]⟩] 42))
              have HOA2 := hid (HOA.out.below ((Below.refl _ _).alloc (Nat.le_refl _) (.cells #[.int .i64 (-1), .string tA, .slice a5 l5.length c5, .string ⟨#[]⟩] 42)))
              have HOW2 := hid (HOW.out.alloc (.cells #[.int .i64 (-1), .string tA, .slice a5 l5.length c5, .string ⟨#[]⟩] 42))
              go_simp
              refine hK.out _ _ trivial (fun _ => ?_)
              clear hK K
              try simp only [Act.put, List.setIfInBounds_toArray, List.set_cons_zero, List.set_cons_succ]
              refine wpAnyH_ready (rs := [9]) (by kernel_rfl) (by simp) (AllReadyH.cons rfl (fun K hK => ?_) AllReadyH.nil)
              · go_simp
                refine hK.out _ _ trivial (fun _ => ?_)
                clear hK K
                try simp only [Act.put, List.setIfInBounds_toArray, List.set_cons_zero, List.set_cons_succ]
                refine wpAnyH_done (by kernel_rfl) ?_ _
                go_wp2_with fail
                go_meet
                exact ⟨_, ⟨⟨-1, tA, l5, ⟨#[]⟩⟩, a5, c5⟩, rfl, nst_one HSA.out HM.out HOA2.out HOW2.out HS.out.gr.size htP ⟨by show tA.size ≤ 20; omega, by show l5.length ≤ 20; omega, HSZ5.out, Nat.zero_le _⟩⟩
        · go_simp
          refine (cDrawAttrs true w0 a len cap b _ hlen HR.out HS.out.cur).mono ?_
          rintro e W3 ⟨a5, c5, l5, rfl, hl5, hd5⟩
          have HOA := hid (dst_own hd5 HS.out.gr.size)
          have HOW := hid (own_mono hd5.own HS.out.gr.size)
          have HSZ5 := hid hd5.sz
          replace HT := hid ((hd5.gr.block tb (lt_of_heap HT.out) (fun e => HTB.out (Option.some.inj e))).trans HT.out)
          replace HS := hid (HS.out.draw hd5.cur hd5.gr)
          clear hd5
          go_wp2_with fail
          refine hK.out _ _ trivial (fun _ => ?_)
          clear hK K
          try simp only [Act.put, List.setIfInBounds_toArray, List.set_cons_zero, List.set_cons_succ]
          generalize W3 = W at *
          refine wpAnyH_ready (rs := [4]) (by kernel_rfl) (by simp) (AllReadyH.cons rfl (fun K hK => ?_) AllReadyH.nil)
          · obtain ⟨tA, hcA, htA, htP⟩ := tab2_at _ tb x hx HT.out
            go_simp
            refine hK.out _ _ trivial (fun _ => ?_)
            clear hK K
            try simp only [Act.put, List.setIfInBounds_toArray, List.set_cons_zero, List.set_cons_succ]
            clear hcA
            refine wpAnyH_take (i := 7) (v := ?_) rfl (by kernel_rfl) (by kernel_rfl) (by kernel_rfl) (fun _ _ _ h => h) (Or.inl ⟨by rfl, ?_⟩) trivial ?_
            rotate_left
            · intro w hSw
              go_simp
              try (with_reducible rfl)
            try simp only [Act.put, List.setIfInBounds_toArray, List.set_cons_zero, List.set_cons_succ]
            refine wpAnyH_ready (rs := [8]) (by kernel_rfl) (by simp) (AllReadyH.cons rfl (fun K hK => ?_) AllReadyH.nil)
            · have HM := hid (heap_alloc_new W (.cells #[.int .i64 (-1), .string tA, .slice a5 l5.length c5, .string ⟨#[]⟩] 42))
              have HSA := hid (HS.out.alloc (.cells #[.int .i64 (-1), .string tA, .slice a5 l5.length c5, .string ⟨#[]⟩] 42))
              have HOA2 := hid (HOA.out.below ((Below.refl _ _).alloc (Nat.le_refl _) (.cells #[.int .i64 (-1), .string tA, .slice a5 l5.length c5, .string ⟨#[]⟩] 42)))
              have HOW2 := hid (HOW.out.alloc (.cells #[.int .i64 (-1), .string tA, .slice a5 l5.length c5, .string ⟨#[]⟩] 42))
              go_simp
              refine hK.out _ _ trivial (fun _ => ?_)
              clear hK K
              try simp only [Act.put, List.setIfInBounds_toArray, List.set_cons_zero, List.set_cons_succ]
              refine wpAnyH_ready (rs := [9]) (by kernel_rfl) (by simp) (AllReadyH.cons rfl (fun K hK => ?_) AllReadyH.nil)
              · go_simp
                refine hK.out _ _ trivial (fun _ => ?_)
                clear hK K
                try simp only [Act.put, List.setIfInBounds_toArray, List.set_cons_zero, List.set_cons_succ]
                refine wpAnyH_done (by kernel_rfl) ?_ _
                go_wp2_with fail
                go_meet
                exact ⟨_, ⟨⟨-1, tA, l5, ⟨#[]⟩⟩, a5, c5⟩, rfl, nst_one HSA.out HM.out HOA2.out HOW2.out HS.out.gr.size htP ⟨by show tA.size ≤ 20; omega, by show l5.length ≤ 20; omega, HSZ5.out, Nat.zero_le _⟩⟩
    · go_simp
      refine (cBelow 2 w0 a len cap b _ hlen HR.out HS.out.cur (by omega) (by omega)).mono ?_
      rintro e W2 ⟨x, rfl, hx, hC, hG⟩
      replace HS := hid (HS.out.draw hC hG)
      have hxn : (x : Int) < 2 := by omega
      clear hC hG
      go_wp2_with fail
      refine hK.out _ _ trivial (fun _ => ?_)
      clear hK K
      try simp only [Act.put, List.setIfInBounds_toArray, List.set_cons_zero, List.set_cons_succ]
      generalize W2 = W at *
      refine wpAnyH_ready (rs := [0, 6]) (by kernel_rfl) (by simp) (AllReadyH.cons rfl (fun K hK => ?_) (AllReadyH.cons rfl (fun K hK => ?_) AllReadyH.nil))
      · have HTB := hid (show ¬ W.heap.size = b by have := HS.out.gr.size; have := HS.out.lt; omega)
        go_simp
        refine hK.out _ _ trivial (fun _ => ?_)
        clear hK K
        try simp only [Act.put, List.setIfInBounds_toArray, List.set_cons_zero, List.set_cons_succ]
        have HT := hid (heap_alloc_new W (.cells #[.string ⟨#[97]⟩, .string ⟨#[112, 58, 97]⟩] 9))
        replace HS := hid (HS.out.alloc (.cells #[.string ⟨#[97]⟩, .string ⟨#[112, 58, 97]⟩] 9))
        generalize W.heap.size = tb at *
        generalize W.alloc (.cells #[.string ⟨#[97]⟩, .string ⟨#[112, 58, 97]⟩] 9) = W at *
        refine wpAnyH_take (i := 3) (v := ?_) rfl (by kernel_rfl) (by kernel_rfl) (by kernel_rfl) (fun _ _ _ h => h) (Or.inl ⟨by rfl, ?_⟩) trivial ?_
        rotate_left
        · intro w hSw
          go_simp
          try (with_reducible rfl)
        try simp only [Act.put, List.setIfInBounds_toArray, List.set_cons_zero, List.set_cons_succ]
        refine wpAnyH_ready (rs := [4, 6]) (by kernel_rfl) (by simp) (AllReadyH.cons rfl (fun K hK => ?_) (AllReadyH.cons rfl (fun K hK => ?_) AllReadyH.nil))
        · obtain ⟨tA, hcA, htA, htP⟩ := tab2_at _ tb x hx HT.out
          go_simp
          refine hK.out _ _ trivial (fun _ => ?_)
          clear hK K
          try simp only [Act.put, List.setIfInBounds_toArray, List.set_cons_zero, List.set_cons_succ]
          clear hcA
          refine wpAnyH_ready (rs := [6]) (by kernel_rfl) (by simp) (AllReadyH.cons rfl (fun K hK => ?_) AllReadyH.nil)
          · go_simp
            refine (cDrawAttrs true w0 a len cap b _ hlen HR.out HS.out.cur).mono ?_
            rintro e W3 ⟨a5, c5, l5, rfl, hl5, hd5⟩
            have HOA := hid (dst_own hd5 HS.out.gr.size)
            have HOW := hid (own_mono hd5.own HS.out.gr.size)
            have HSZ5 := hid hd5.sz
            replace HT := hid ((hd5.gr.block tb (lt_of_heap HT.out) (fun e => HTB.out (Option.some.inj e))).trans HT.out)
            replace HS := hid (HS.out.draw hd5.cur hd5.gr)
            clear hd5
            go_wp2_with fail
            refine hK.out _ _ trivial (fun _ => ?_)
            clear hK K
            try simp only [Act.put, List.setIfInBounds_toArray, List.set_cons_zero, List.set_cons_succ]
            generalize W3 = W at *
            refine wpAnyH_take (i := 7) (v := ?_) rfl (by kernel_rfl) (by kernel_rfl) (by kernel_rfl) (fun _ _ _ h => h) (Or.inl ⟨by rfl, ?_⟩) trivial ?_
            rotate_left
            · intro w hSw
              go_simp
              try (with_reducible rfl)
            try simp only [Act.put, List.setIfInBounds_toArray, List.set_cons_zero, List.set_cons_succ]
            refine wpAnyH_ready (rs := [8]) (by kernel_rfl) (by simp) (AllReadyH.cons rfl (fun K hK => ?_) AllReadyH.nil)
            · have HM := hid (heap_alloc_new W (.cells #[.int .i64 (-1), .string tA, .slice a5 l5.length c5, .string ⟨#[]⟩] 42))
              have HSA := hid (HS.out.alloc (.cells #[.int .i64 (-1), .string tA, .slice a5 l5.length c5, .string ⟨#[]⟩] 42))
              have HOA2 := hid (HOA.out.below ((Below.refl _ _).alloc (Nat.le_refl _) (.cells #[.int .i64 (-1), .string tA, .slice a5 l5.length c5, .string ⟨#[]⟩] 42)))
              have HOW2 := hid (HOW.out.alloc (.cells #[.int .i64 (-1), .string tA, .slice a5 l5.length c5, .string ⟨#[]⟩] 42))
              go_simp
              refine hK.out _ _ trivial (fun _ => ?_)
              clear hK K
              try simp only [Act.put, List.setIfInBounds_toArray, List.set_cons_zero, List.set_cons_succ]
              refine wpAnyH_ready (rs := [9]) (by kernel_rfl) (by simp) (AllReadyH.cons rfl (fun K hK => ?_) AllReadyH.nil)
              · go_simp
                refine hK.out _ _ trivial (fun _ => ?_)
                clear hK K
                try simp only [Act.put, List.setIfInBounds_toArray, List.set_cons_zero, List.set_cons_succ]
                refine wpAnyH_done (by kernel_rfl) ?_ _
                go_wp2_with fail
                go_meet
                exact ⟨_, ⟨⟨-1, tA, l5, ⟨#[]⟩⟩, a5, c5⟩, rfl, nst_one HSA.out HM.out HOA2.out HOW2.out HS.out.gr.size htP ⟨by show tA.size ≤ 20; omega, by show l5.length ≤ 20; omega, HSZ5.out, Nat.zero_le _⟩⟩
        · go_simp
          refine (cDrawAttrs true w0 a len cap b _ hlen HR.out HS.out.cur).mono ?_
          rintro e W3 ⟨a5, c5, l5, rfl, hl5, hd5⟩
          have HOA := hid (dst_own hd5 HS.out.gr.size)
          have HOW := hid (own_mono hd5.own HS.out.gr.size)
          have HSZ5 := hid hd5.sz
          replace HT := hid ((hd5.gr.block tb (lt_of_heap HT.out) (fun e => HTB.out (Option.some.inj e))).trans HT.out)
          replace HS := hid (HS.out.draw hd5.cur hd5.gr)
          clear hd5
          go_wp2_with fail
          refine hK.out _ _ trivial (fun _ => ?_)
          clear hK K
          try simp only [Act.put, List.setIfInBounds_toArray, List.set_cons_zero, List.set_cons_succ]
          generalize W3 = W at *
          refine wpAnyH_ready (rs := [4]) (by kernel_rfl) (by simp) (AllReadyH.cons rfl (fun K hK => ?_) AllReadyH.nil)
          · obtain ⟨tA, hcA, htA, htP⟩ := tab2_at _ tb x hx HT.out
            go_simp
            refine hK.out _ _ trivial (fun _ => ?_)
            clear hK K
            try simp only [Act.put, List.setIfInBounds_toArray, List.set_cons_zero, List.set_cons_succ]
            clear hcA
            refine wpAnyH_take (i := 7) (v := ?_) rfl (by kernel_rfl) (by kernel_rfl) (by kernel_rfl) (fun _ _ _ h => h) (Or.inl ⟨by rfl, ?_⟩) trivial ?_
            rotate_left
            · intro w hSw
              go_simp
              try (with_reducible rfl)
            try simp only [Act.put, List.setIfInBounds_toArray, List.set_cons_zero, List.set_cons_succ]
            refine wpAnyH_ready (rs := [8]) (by kernel_rfl) (by simp) (AllReadyH.cons rfl (fun K hK => ?_) AllReadyH.nil)
            · have HM := hid (heap_alloc_new W (.cells #[.int .i64 (-1), .string tA, .slice a5 l5.length c5, .string ⟨#[]⟩] 42))
              have HSA := hid (HS.out.alloc (.cells #[.int .i64 (-1), .string tA, .slice a5 l5.length c5, .string ⟨#[]⟩] 42))
              have HOA2 := hid (HOA.out.below ((Below.refl _ _).alloc (Nat.le_refl _) (.cells #[.int .i64 (-1), .string tA, .slice a5 l5.length c5, .string ⟨#[]⟩] 42)))
              have HOW2 := hid (HOW.out.alloc (.cells #[.int .i64 (-1), .string tA, .slice a5 l5.length c5, .string ⟨#[]⟩] 42))
              go_simp
              refine hK.out _ _ trivial (fun _ => ?_)
              clear hK K
              try simp only [Act.put, List.setIfInBounds_toArray, List.set_cons_zero, List.set_cons_succ]
              refine wpAnyH_ready (rs := [9]) (by kernel_rfl) (by simp) (AllReadyH.cons rfl (fun K hK => ?_) AllReadyH.nil)
              · go_simp
                refine hK.out _ _ trivial (fun _ => ?_)
                clear hK K
                try simp only [Act.put, List.setIfInBounds_toArray, List.set_cons_zero, List.set_cons_succ]
                refine wpAnyH_done (by kernel_rfl) ?_ _
                go_wp2_with fail
                go_meet
                exact ⟨_, ⟨⟨-1, tA, l5, ⟨#[]⟩⟩, a5, c5⟩, rfl, nst_one HSA.out HM.out HOA2.out HOW2.out HS.out.gr.size htP ⟨by show tA.size ≤ 20; omega, by show l5.length ≤ 20; omega, HSZ5.out, Nat.zero_le _⟩⟩
      · go_simp
        refine (cDrawAttrs true w0 a len cap b _ hlen HR.out HS.out.cur).mono ?_
        rintro e W3 ⟨a5, c5, l5, rfl, hl5, hd5⟩
        have HOA := hid (dst_own hd5 HS.out.gr.size)
        have HOW := hid (own_mono hd5.own HS.out.gr.size)
        have HSZ5 := hid hd5.sz
        replace HS := hid (HS.out.draw hd5.cur hd5.gr)
        clear hd5
        go_wp2_with fail
        refine hK.out _ _ trivial (fun _ => ?_)
        clear hK K
        try simp only [Act.put, List.setIfInBounds_toArray, List.set_cons_zero, List.set_cons_succ]
        generalize W3 = W at *
        refine wpAnyH_ready (rs := [0]) (by kernel_rfl) (by simp) (AllReadyH.cons rfl (fun K hK => ?_) AllReadyH.nil)
        · have HTB := hid (show ¬ W.heap.size = b by have := HS.out.gr.size; have := HS.out.lt; omega)
          go_simp
          refine hK.out _ _ trivial (fun _ => ?_)
          clear hK K
          try simp only [Act.put, List.setIfInBounds_toArray, List.set_cons_zero, List.set_cons_succ]
          have HT := hid (heap_alloc_new W (.cells #[.string ⟨#[97]⟩, .string ⟨#[112, 58, 97]⟩] 9))
          replace HS := hid (HS.out.alloc (.cells #[.string ⟨#[97]⟩, .string ⟨#[112, 58, 97]⟩] 9))
          replace HOA := hid (HOA.out.below ((Below.refl _ _).alloc (Nat.le_refl _) (.cells #[.string ⟨#[97]⟩, .string ⟨#[112, 58, 97]⟩] 9)))
          replace HOW := hid (HOW.out.alloc (.cells #[.string ⟨#[97]⟩, .string ⟨#[112, 58, 97]⟩] 9))
          generalize W.heap.size = tb at *
          generalize W.alloc (.cells #[.string ⟨#[97]⟩, .string ⟨#[112, 58, 97]⟩] 9) = W at *
          refine wpAnyH_take (i := 3) (v := ?_) rfl (by kernel_rfl) (by kernel_rfl) (by kernel_rfl) (fun _ _ _ h => h) (Or.inl ⟨by rfl, ?_⟩) trivial ?_
          rotate_left
          · intro w hSw
            go_simp
            try (with_reducible rfl)
          try simp only [Act.put, List.setIfInBounds_toArray, List.set_cons_zero, List.set_cons_succ]
          refine wpAnyH_ready (rs := [4]) (by kernel_rfl) (by simp) (AllReadyH.cons rfl (fun K hK => ?_) AllReadyH.nil)
          · obtain ⟨tA, hcA, htA, htP⟩ := tab2_at _ tb x hx HT.out
            go_simp
            refine hK.out _ _ trivial (fun _ => ?_)
            clear hK K
            try simp only [Act.put, List.setIfInBounds_toArray, List.set_cons_zero, List.set_cons_succ]
            clear hcA
            refine wpAnyH_take (i := 7) (v := ?_) rfl (by kernel_rfl) (by kernel_rfl) (by kernel_rfl) (fun _ _ _ h => h) (Or.inl ⟨by rfl, ?_⟩) trivial ?_
            rotate_left
            · intro w hSw
              go_simp
              try (with_reducible rfl)
            try simp only [Act.put, List.setIfInBounds_toArray, List.set_cons_zero, List.set_cons_succ]
            refine wpAnyH_ready (rs := [8]) (by kernel_rfl) (by simp) (AllReadyH.cons rfl (fun K hK => ?_) AllReadyH.nil)
            · have HM := hid (heap_alloc_new W (.cells #[.int .i64 (-1), .string tA, .slice a5 l5.length c5, .string ⟨#[]⟩] 42))
              have HSA := hid (HS.out.alloc (.cells #[.int .i64 (-1), .string tA, .slice a5 l5.length c5, .string ⟨#[]⟩] 42))
              have HOA2 := hid (HOA.out.below ((Below.refl _ _).alloc (Nat.le_refl _) (.cells #[.int .i64 (-1), .string tA, .slice a5 l5.length c5, .string ⟨#[]⟩] 42)))
              have HOW2 := hid (HOW.out.alloc (.cells #[.int .i64 (-1), .string tA, .slice a5 l5.length c5, .string ⟨#[]⟩] 42))
              go_simp
              refine hK.out _ _ trivial (fun _ => ?_)
              clear hK K
              try simp only [Act.put, List.setIfInBounds_toArray, List.set_cons_zero, List.set_cons_succ]
              refine wpAnyH_ready (rs := [9]) (by kernel_rfl) (by simp) (AllReadyH.cons rfl (fun K hK => ?_) AllReadyH.nil)
              · go_simp
                refine hK.out _ _ trivial (fun _ => ?_)
                clear hK K
                try simp only [Act.put, List.setIfInBounds_toArray, List.set_cons_zero, List.set_cons_succ]
                refine wpAnyH_done (by kernel_rfl) ?_ _
                go_wp2_with fail
                go_meet
                exact ⟨_, ⟨⟨-1, tA, l5, ⟨#[]⟩⟩, a5, c5⟩, rfl, nst_one HSA.out HM.out HOA2.out HOW2.out HS.out.gr.size htP ⟨by show tA.size ≤ 20; omega, by show l5.length ≤ 20; omega, HSZ5.out, Nat.zero_le _⟩⟩
  obtain ⟨gn, e1, rfl, HN1⟩ := hcut
  clear HS0
  go_wp2_with fail
  refine (cBelow 10 w0 a len cap b _ hlen HR.out HN1.out.c.cur (by omega) (by omega)).mono ?_
  rintro e w2 ⟨y, rfl, hy, hC2, hG2⟩
  have HN2 := hid (HN1.out.draw hC2 hG2)
  clear hC2 hG2 HN1
  go_wp2_with fail
  go_loopw [3, 4, 5] (fun v x y wr => ∃ (k : Nat) (es : List Nd.E) (at_ : Nat), y = .int .i64 (k : Int) ∧ k ≤ 9 ∧ x = .int .i64 (at_ : Int) ∧ es.length + k ≤ 10 ∧ Hid (NSt w0 a len cap b w wr v es at_)) (fun _ _ y _ => (intOf y).toNat)
  case atStart => exact ⟨y, [e1], 0, rfl, by omega, rfl, by show 1 + y ≤ 10; omega, HN2.out⟩
  case round =>
    clear HN2
    obtain ⟨k, es, at_, rfl, hk, rfl, hek, HN⟩ := hrel
    obtain ⟨av, cv, hv, htk⟩ := HN.out.row.tkRow
    have hpos : 1 ≤ es.length := by have := HN.out.grn.pos; rw [List.length_map] at this; exact this
    subst hv
    by_cases h0 : k = 0
    · subst h0
      clear htk
      go_wp2_with fail
      go_ret
      exact ⟨av, cv, es, at_, rfl, hpos, by omega, HN.out⟩
    obtain ⟨k1, rfl⟩ : ∃ k1, k = k1 + 1 := ⟨k - 1, by omega⟩
    obtain ⟨m, hm⟩ : ∃ m, es.length = m + 1 := ⟨es.length - 1, by omega⟩
    have HL := hid hm
    have hlm : (es.map (·.t)).length = m + 1 := by rw [List.length_map]; exact hm
    have hat : at_ < m + 1 := by have := HN.out.grn.lt; rw [hlm] at this; exact this
    have HLM := hid hlm
    obtain ⟨bb5, o5, aa, ca, ea, hb5, c0, c1, c2, c3, cr5⟩ := htk m (by omega)
    clear cr5
    have HTK := hid htk
    have HB5 := hid hb5
    subst ea
    obtain ⟨tl, htl⟩ : ∃ t, (es.map (·.t))[m] = t := ⟨_, rfl⟩
    have hz5 := (show TkSz 20 tl from by
      rw [← htl, List.getElem_map]
      exact HN.out.sz _ (List.getElem_mem (by omega)))
    rw [htl] at c0 c1 c2 c3
    obtain ⟨tk, tn, tat, tx⟩ := tl
    have z1 : tn.size ≤ 20 := hz5.1
    simp only at c0 c1 c2 c3
    have M1 := hid (heap_alloc_new wr (.cells #[.int .i64 tk, .string tn, .slice aa tat.length ca, .string tx] 42))
    have HNA := hid (HN.out.alloc (.cells #[.int .i64 tk, .string tn, .slice aa tat.length ca, .string tx] 42))
    have hbw : ¬ wr.heap.size = b := by have := HN.out.c.gr.size; have := HN.out.c.lt; omega
    have HNL := hid (show es.length + [(⟨⟨0, ⟨#[]⟩, [], ⟨#[]⟩⟩, none, 0⟩ : Nd.E)].length ≤ 2097152 by rw [hm]; simp; omega)
    rw [hm] at HN HNA hek ⊢
    obtain ⟨q, hq⟩ : ∃ q, tat.length = q := ⟨_, rfl⟩
    rw [hq] at c2 M1 HNA
    clear htl hlm hm htk hz5 hq hpos
    go_wp2_with fail
    refine (cBelow 5 w0 a len cap b _ hlen HR.out HNA.out.c.cur (by omega) (by omega)).mono ?_
    rintro e w3 ⟨x, rfl, hx, hC3, hG3⟩
    have HN3 := hid (HNA.out.draw hC3 hG3)
    have M3 := hid ((hG3.block wr.heap.size (lt_of_heap M1.out) (fun e => hbw (Option.some.inj e))).trans M1.out)
    clear hC3 hG3 c0 c1 c2 c3 HNA M1
    obtain ⟨⟨x0, x1, x2, x3⟩, _⟩ := box4 M3.out
    by_cases hx2 : x < 2
    · have hd2 : decide ((x : Int) < 2) = true := decide_eq_true (by omega)
      have E1 := empty_is tn
      obtain ⟨B1, hB1⟩ : ∃ B, decide (tn.size = 0) = B := ⟨_, rfl⟩
      rw [hB1] at E1
      obtain ⟨B2, hB2⟩ : ∃ B : Bool, (tk == (at_ : Int)) = B := ⟨_, rfl⟩
      clear hB1
      go_upto_region 12 with fail
      go_cut [67] from 57 to 89 (fun x wv => x = .bool (B1 && B2) ∧ wv = w3)
      case first =>
        cases B1
        · go_wp2_with fail
          go_meet
          exact ⟨rfl, rfl⟩
        · go_wp2_with fail
          go_meet
          exact ⟨rfl, rfl⟩
      obtain ⟨rfl, rfl⟩ := hcut
      obtain ⟨BB, hBB⟩ : ∃ B, (B1 && B2) = B := ⟨_, rfl⟩
      rw [hBB]
      clear hBB hB2 E1
      cases BB
      · go_wp2_with fail
        refine (cText ⟨#[97, 98, 60, 38, 62, 32, 10]⟩ 4 w0 a len cap b _ (by omega) (by omega) (by decide) (by decide) hlen HR.out HN3.out.c.cur).mono ?_
        rintro e w4 ⟨t5, rfl, ht5, hC4, hG4⟩
        have HN4 := hid (HN3.out.draw hC4 hG4)
        obtain ⟨S5, hS5⟩ : ∃ S, (⟨#[116]⟩ : ByteArray) ++ t5 = S := ⟨_, rfl⟩
        have hz6 : S5.size ≤ 20 := by rw [← hS5, ByteArray.size_append, show (⟨#[116]⟩ : ByteArray).size = 1 from rfl]; omega
        have hov : ¬ 9223372036854775807 < (⟨#[116]⟩ : ByteArray).size + t5.size := by rw [show (⟨#[116]⟩ : ByteArray).size = 1 from rfl]; omega
        have HMN := hid (heap_alloc_new w4 (.cells #[.int .i64 (at_ : Int), .string ⟨#[]⟩, .slice none 0 0, .string S5] 42))
        have HSA := hid (HN4.out.alloc (.cells #[.int .i64 (at_ : Int), .string ⟨#[]⟩, .slice none 0 0, .string S5] 42))
        have HCL := hid (one_cells (l5 := []) HMN.out)
        have hw4 := HN4.out.c.gr.size
        clear hC4 hG4 x0 x1 x2 x3
        go_wp2_with (at_builtin; refine Nd.wpL_join _ rfl _ _ rfl w.heap.size _ es [⟨⟨(at_ : Int), ⟨#[]⟩, [], S5⟩, none, 0⟩] rfl HSA.out.row w4.heap.size 1 1 rfl rfl HCL.out (fun y hy => ?d1) (List.pairwise_singleton _ _) (fun e he y hy => ?d2) ?d3 ?d4 ?_)
        case d1 =>
          rw [List.mem_singleton] at hy
          subst hy
          exact ⟨fun h => absurd h (Nat.not_lt_zero _), fun g o h => absurd h (Nat.not_lt_zero _)⟩
        case d2 =>
          rw [List.mem_singleton] at hy
          subst hy
          exact fun _ h => absurd h (Nat.not_lt_zero _)
        case d3 => exact HNL.out
        case d4 => simp; omega
        intro a7 c7 w7 hr7 hb7 hg7
        have HN7 := hid (HSA.out.join (e := ⟨⟨(at_ : Int), ⟨#[]⟩, [], S5⟩, none, 0⟩) hr7 hg7 (World.ownsRow_nil _ _ _ _) (fun _ _ _ _ e => nomatch (show (none : Option Nat) = some _ from e)) ⟨Nat.zero_le _, Nat.zero_le _, fun y hy => absurd hy List.not_mem_nil, hz6⟩ (HSA.out.grn.keep rfl))
        clear hr7 hb7 hg7
        go_wp2_with fail
        go_roundw
        case rel => exact ⟨k1, es ++ [⟨⟨(at_ : Int), ⟨#[]⟩, [], S5⟩, none, 0⟩], at_, by go_num, by omega, rfl, by rw [List.length_append, HL.out]; simp; omega, hid (by simpa using HN7.out)⟩
        case measure => first | (simp [intOf]; omega) | simp [intOf]
      · go_wp2_with fail
        go_roundw
        case rel => exact ⟨k1, es, at_, by go_num, by omega, rfl, by rw [HL.out]; omega, HN3.out⟩
        case measure => first | (simp [intOf]; omega) | simp [intOf]
    have hd2 : decide ((x : Int) < 2) = false := decide_eq_false (by omega)
    by_cases hx4 : x = 4
    · subst hx4
      obtain ⟨av2, cv2, ev2, htk3⟩ := HN3.out.row.tkRow
      obtain ⟨rfl, rfl⟩ : some (⟨bb5, o5, none⟩ : Addr) = av2 ∧ cv = cv2 := by injection ev2 with h1 _ h3; exact ⟨h1, h3⟩
      obtain ⟨b6, o6, ea6, y0, _⟩ := htk3.kindAt at_ (by rw [HLM.out]; exact hat)
      obtain ⟨rfl, rfl⟩ : bb5 = b6 ∧ o5 = o6 := by cases ea6; exact ⟨rfl, rfl⟩
      have hatn : (at_ : Int) < ((m + 1 : Nat) : Int) := by omega
      obtain ⟨P, hP⟩ : ∃ P, parI (es.map (·.t)) at_ = P := ⟨_, rfl⟩
      have HP := hid hP
      rw [hP] at y0
      clear hP htk3 ev2 ea6
      by_cases hp0 : 0 ≤ P
      · have HG := hid (HN3.out.grn.outer (by rw [HP.out]; exact hp0))
        rw [HP.out] at HG
        obtain ⟨pn, hpn⟩ : ∃ pn : Nat, P = (pn : Int) := ⟨P.toNat, by omega⟩
        subst hpn
        rw [Int.toNat_natCast] at HG
        go_wp2_with fail
        go_roundw
        case rel => exact ⟨k1, es, pn, by go_num, by omega, rfl, by rw [HL.out]; omega, ⟨HN3.out.c, HN3.out.row, HN3.out.sz, HG.out, HN3.out.own, HN3.out.apo⟩⟩
        case measure => first | (simp [intOf]; omega) | simp [intOf]
      · have hp1 : P < 0 := by omega
        go_wp2_with fail
        go_roundw
        case rel => exact ⟨k1, es, at_, by go_num, by omega, rfl, by rw [HL.out]; omega, HN3.out⟩
        case measure => first | (simp [intOf]; omega) | simp [intOf]
    · have hd4 : ((x : Int) == 4) = false := by simp; omega
      generalize some (⟨bb5, o5, none⟩ : Addr) = av at *
      have HL2 := hid (show ∀ e : Nd.E, (es ++ [e]).length = m + 1 + 1 from fun e => by rw [List.length_append, HL.out]; rfl)
      clear hx2
      go_upto_region 8 with fail
      go_cut [3] from 31 to 89 (fun x wv => ∃ (a7 : Option Addr) (c7 : Nat) (e : Nd.E), x = .slice a7 (m + 1 + 1) c7 ∧ e.t.kind = (at_ : Int) ∧ ¬ e.t.name.size = 0 ∧ Hid (NSt w0 a len cap b w wv (.slice a7 (m + 1 + 1) c7) (es ++ [e]) at_))
      case first =>
          refine wp_region_held_drew (S := fun _ => True) (by kernel_rfl) trivial (fun _ => ?_)
          have HS := hid (show NSt w0 a len cap b w w3.drew (.slice av (m + 1) cv) es at_ from HN3.out.drewN 1)
          generalize w3.drew = W at *
          refine wpAnyH_take (i := 0) (v := ?_) rfl (by kernel_rfl) (by kernel_rfl) (by kernel_rfl) (fun _ _ _ h => h) (Or.inl ⟨by rfl, ?_⟩) trivial ?_
          rotate_left
          · intro w hSw
            go_simp
            try (with_reducible rfl)
          try simp only [Act.put, List.setIfInBounds_toArray, List.set_cons_zero, List.set_cons_succ]
          refine wpAnyH_take (i := 1) (v := ?_) rfl (by kernel_rfl) (by kernel_rfl) (by kernel_rfl) (fun _ _ _ h => h) (Or.inl ⟨by rfl, ?_⟩) trivial ?_
          rotate_left
          · intro w hSw
            go_simp
            try (with_reducible rfl)
          try simp only [Act.put, List.setIfInBounds_toArray, List.set_cons_zero, List.set_cons_succ]
          refine wpAnyH_take (i := 3) (v := ?_) rfl (by kernel_rfl) (by kernel_rfl) (by kernel_rfl) (fun _ _ _ h => h) (Or.inl ⟨by rfl, ?_⟩) trivial ?_
          rotate_left
          · intro w hSw
            go_simp
            try (with_reducible rfl)
          try simp only [Act.put, List.setIfInBounds_toArray, List.set_cons_zero, List.set_cons_succ]
          refine wpAnyH_take (i := 7) (v := ?_) rfl (by kernel_rfl) (by kernel_rfl) (by kernel_rfl) (fun _ _ _ h => h) (Or.inl ⟨by rfl, ?_⟩) trivial ?_
          rotate_left
          · intro w hSw
            go_simp
            try (with_reducible rfl)
          try simp only [Act.put, List.setIfInBounds_toArray, List.set_cons_zero, List.set_cons_succ]
          refine wpAnyH_ready (rs := [2, 4]) (by kernel_rfl) (by simp) (AllReadyH.cons rfl (fun K hK => ?_) (AllReadyH.cons rfl (fun K hK => ?_) AllReadyH.nil))
          · have HTB := hid (show ¬ W.heap.size = b by have := HS.out.c.gr.size; have := HS.out.c.lt; omega)
            go_simp
            refine hK.out _ _ trivial (fun _ => ?_)
            clear hK K
            try simp only [Act.put, List.setIfInBounds_toArray, List.set_cons_zero, List.set_cons_succ]
            have HT := hid (heap_alloc_new W (.cells #[.string ⟨#[97]⟩, .string ⟨#[98]⟩, .string ⟨#[112, 58, 97]⟩, .string ⟨#[113, 58, 98]⟩, .string ⟨#[99]⟩] 9))
            replace HS := hid (HS.out.alloc (.cells #[.string ⟨#[97]⟩, .string ⟨#[98]⟩, .string ⟨#[112, 58, 97]⟩, .string ⟨#[113, 58, 98]⟩, .string ⟨#[99]⟩] 9))
            generalize W.heap.size = tb at *
            generalize W.alloc (.cells #[.string ⟨#[97]⟩, .string ⟨#[98]⟩, .string ⟨#[112, 58, 97]⟩, .string ⟨#[113, 58, 98]⟩, .string ⟨#[99]⟩] 9) = W at *
            refine wpAnyH_ready (rs := [4]) (by kernel_rfl) (by simp) (AllReadyH.cons rfl (fun K hK => ?_) AllReadyH.nil)
            · go_simp
              refine (cBelow 5 w0 a len cap b _ hlen HR.out HS.out.c.cur (by omega) (by omega)).mono ?_
              rintro e W2 ⟨x, rfl, hx, hC, hG⟩
              replace HT := hid ((hG.block tb (lt_of_heap HT.out) (fun e => HTB.out (Option.some.inj e))).trans HT.out)
              replace HS := hid (HS.out.draw hC hG)
              have hxn : (x : Int) < 5 := by omega
              clear hC hG
              go_wp2_with fail
              refine hK.out _ _ trivial (fun _ => ?_)
              clear hK K
              try simp only [Act.put, List.setIfInBounds_toArray, List.set_cons_zero, List.set_cons_succ]
              generalize W2 = W at *
              refine wpAnyH_take (i := 5) (v := ?_) rfl (by kernel_rfl) (by kernel_rfl) (by kernel_rfl) (fun _ _ _ h => h) (Or.inl ⟨by rfl, ?_⟩) trivial ?_
              rotate_left
              · intro w hSw
                go_simp
                try (with_reducible rfl)
              try simp only [Act.put, List.setIfInBounds_toArray, List.set_cons_zero, List.set_cons_succ]
              refine wpAnyH_ready (rs := [6, 8]) (by kernel_rfl) (by simp) (AllReadyH.cons rfl (fun K hK => ?_) (AllReadyH.cons rfl (fun K hK => ?_) AllReadyH.nil))
              · obtain ⟨tA, hcA, htA, htP⟩ := tab5_at _ tb x hx HT.out
                go_simp
                refine hK.out _ _ trivial (fun _ => ?_)
                clear hK K
                try simp only [Act.put, List.setIfInBounds_toArray, List.set_cons_zero, List.set_cons_succ]
                clear hcA
                refine wpAnyH_ready (rs := [8]) (by kernel_rfl) (by simp) (AllReadyH.cons rfl (fun K hK => ?_) AllReadyH.nil)
                · go_simp
                  refine (cDrawAttrs false w0 a len cap b _ hlen HR.out HS.out.c.cur).mono ?_
                  rintro e W3 ⟨a5, c5, l5, rfl, hl5, hd5⟩
                  have HOA := hid (dst_own hd5 HS.out.c.gr.size)
                  have HOW := hid (own_mono hd5.own HS.out.c.gr.size)
                  have HSZ5 := hid hd5.sz
                  have HAP := hid (ap_of HS.out.row (dst_own hd5 (Nat.le_refl _)))
                  have HAO := hid (apo_of HS.out.own hd5.own)
                  replace HT := hid ((hd5.gr.block tb (lt_of_heap HT.out) (fun e => HTB.out (Option.some.inj e))).trans HT.out)
                  replace HS := hid (HS.out.draw hd5.cur hd5.gr)
                  clear hd5
                  go_wp2_with fail
                  refine hK.out _ _ trivial (fun _ => ?_)
                  clear hK K
                  try simp only [Act.put, List.setIfInBounds_toArray, List.set_cons_zero, List.set_cons_succ]
                  generalize W3 = W at *
                  refine wpAnyH_take (i := 9) (v := ?_) rfl (by kernel_rfl) (by kernel_rfl) (by kernel_rfl) (fun _ _ _ h => h) (Or.inl ⟨by rfl, ?_⟩) trivial ?_
                  rotate_left
                  · intro w hSw
                    go_simp
                    try (with_reducible rfl)
                  try simp only [Act.put, List.setIfInBounds_toArray, List.set_cons_zero, List.set_cons_succ]
                  refine wpAnyH_ready (rs := [10]) (by kernel_rfl) (by simp) (AllReadyH.cons rfl (fun K hK => ?_) AllReadyH.nil)
                  · have HMN := hid (heap_alloc_new W (.cells #[.int .i64 (at_ : Int), .string tA, .slice a5 l5.length c5, .string ⟨#[]⟩] 42))
                    have HSA := hid (HS.out.alloc (.cells #[.int .i64 (at_ : Int), .string tA, .slice a5 l5.length c5, .string ⟨#[]⟩] 42))
                    have HOA2 := hid (HOA.out.below ((Below.refl _ _).alloc (Nat.le_refl _) (.cells #[.int .i64 (at_ : Int), .string tA, .slice a5 l5.length c5, .string ⟨#[]⟩] 42)))
                    have HOW2 := hid (HOW.out.alloc (.cells #[.int .i64 (at_ : Int), .string tA, .slice a5 l5.length c5, .string ⟨#[]⟩] 42))
                    have HZW := hid (show w.heap.size ≤ (W.alloc (.cells #[.int .i64 (at_ : Int), .string tA, .slice a5 l5.length c5, .string ⟨#[]⟩] 42)).heap.size from HSA.out.c.gr.size)
                    go_simp
                    refine hK.out _ _ trivial (fun _ => ?_)
                    clear hK K
                    try simp only [Act.put, List.setIfInBounds_toArray, List.set_cons_zero, List.set_cons_succ]
                    generalize W.heap.size = gn at *
                    generalize W.alloc (.cells #[.int .i64 (at_ : Int), .string tA, .slice a5 l5.length c5, .string ⟨#[]⟩] 42) = W at *
                    refine wpAnyH_ready (rs := [11]) (by kernel_rfl) (by simp) (AllReadyH.cons rfl (fun K hK => ?_) AllReadyH.nil)
                    · refine Nd.step_join rfl (.tmp 31) (.tmp 41) rfl w.heap.size (.slice av (m + 1) cv) es [⟨⟨(at_ : Int), tA, l5, ⟨#[]⟩⟩, a5, c5⟩] (by simp [Act.eval, Act.put]) HSA.out.row gn 1 1 (by simp [Act.eval, Act.put]) rfl (one_cells HMN.out) (one_hf HOA2.out HAP.out.2) (List.pairwise_singleton _ _) (one_ap HAP.out.1) HNL.out HZW.out ?_
                      intro a7 c7 w7 hr7 hb7 hg7
                      have HR7 := hid hr7
                      have HG7 := hid hg7
                      clear hr7 hb7 hg7
                      refine hK.out _ _ trivial (fun _ => ?_)
                      clear hK K
                      try simp only [Act.put, List.setIfInBounds_toArray, List.set_cons_zero, List.set_cons_succ]
                      refine wpAnyH_ready (rs := [12]) (by kernel_rfl) (by simp) (AllReadyH.cons rfl (fun K hK => ?_) AllReadyH.nil)
                      · go_simp
                        refine hK.out _ _ trivial (fun _ => ?_)
                        clear hK K
                        try simp only [Act.put, List.setIfInBounds_toArray, List.set_cons_zero, List.set_cons_succ]
                        refine wpAnyH_done (by kernel_rfl) ?_ _
                        go_wp2_with fail
                        go_meet
                        exact ⟨a7, c7, ⟨⟨(at_ : Int), tA, l5, ⟨#[]⟩⟩, a5, c5⟩, by rw [HL.out], rfl, htP, by rw [← HL2.out ⟨⟨(at_ : Int), tA, l5, ⟨#[]⟩⟩, a5, c5⟩]; exact HSA.out.join HR7.out HG7.out HOW2.out HAO.out ⟨by show tA.size ≤ 20; omega, by show l5.length ≤ 20; omega, HSZ5.out, Nat.zero_le _⟩ (HSA.out.grn.keep rfl)⟩
              · go_simp
                refine (cDrawAttrs false w0 a len cap b _ hlen HR.out HS.out.c.cur).mono ?_
                rintro e W3 ⟨a5, c5, l5, rfl, hl5, hd5⟩
                have HOA := hid (dst_own hd5 HS.out.c.gr.size)
                have HOW := hid (own_mono hd5.own HS.out.c.gr.size)
                have HSZ5 := hid hd5.sz
                have HAP := hid (ap_of HS.out.row (dst_own hd5 (Nat.le_refl _)))
                have HAO := hid (apo_of HS.out.own hd5.own)
                replace HT := hid ((hd5.gr.block tb (lt_of_heap HT.out) (fun e => HTB.out (Option.some.inj e))).trans HT.out)
                replace HS := hid (HS.out.draw hd5.cur hd5.gr)
                clear hd5
                go_wp2_with fail
                refine hK.out _ _ trivial (fun _ => ?_)
                clear hK K
                try simp only [Act.put, List.setIfInBounds_toArray, List.set_cons_zero, List.set_cons_succ]
                generalize W3 = W at *
                refine wpAnyH_ready (rs := [6]) (by kernel_rfl) (by simp) (AllReadyH.cons rfl (fun K hK => ?_) AllReadyH.nil)
                · obtain ⟨tA, hcA, htA, htP⟩ := tab5_at _ tb x hx HT.out
                  go_simp
                  refine hK.out _ _ trivial (fun _ => ?_)
                  clear hK K
                  try simp only [Act.put, List.setIfInBounds_toArray, List.set_cons_zero, List.set_cons_succ]
                  clear hcA
                  refine wpAnyH_take (i := 9) (v := ?_) rfl (by kernel_rfl) (by kernel_rfl) (by kernel_rfl) (fun _ _ _ h => h) (Or.inl ⟨by rfl, ?_⟩) trivial ?_
                  rotate_left
                  · intro w hSw
                    go_simp
                    try (with_reducible rfl)
                  try simp only [Act.put, List.setIfInBounds_toArray, List.set_cons_zero, List.set_cons_succ]
                  refine wpAnyH_ready (rs := [10]) (by kernel_rfl) (by simp) (AllReadyH.cons rfl (fun K hK => ?_) AllReadyH.nil)
                  · have HMN := hid (heap_alloc_new W (.cells #[.int .i64 (at_ : Int), .string tA, .slice a5 l5.length c5, .string ⟨#[]⟩] 42))
                    have HSA := hid (HS.out.alloc (.cells #[.int .i64 (at_ : Int), .string tA, .slice a5 l5.length c5, .string ⟨#[]⟩] 42))
                    have HOA2 := hid (HOA.out.below ((Below.refl _ _).alloc (Nat.le_refl _) (.cells #[.int .i64 (at_ : Int), .string tA, .slice a5 l5.length c5, .string ⟨#[]⟩] 42)))
                    have HOW2 := hid (HOW.out.alloc (.cells #[.int .i64 (at_ : Int), .string tA, .slice a5 l5.length c5, .string ⟨#[]⟩] 42))
                    have HZW := hid (show w.heap.size ≤ (W.alloc (.cells #[.int .i64 (at_ : Int), .string tA, .slice a5 l5.length c5, .string ⟨#[]⟩] 42)).heap.size from HSA.out.c.gr.size)
                    go_simp
                    refine hK.out _ _ trivial (fun _ => ?_)
                    clear hK K
                    try simp only [Act.put, List.setIfInBounds_toArray, List.set_cons_zero, List.set_cons_succ]
                    generalize W.heap.size = gn at *
                    generalize W.alloc (.cells #[.int .i64 (at_ : Int), .string tA, .slice a5 l5.length c5, .string ⟨#[]⟩] 42) = W at *
                    refine wpAnyH_ready (rs := [11]) (by kernel_rfl) (by simp) (AllReadyH.cons rfl (fun K hK => ?_) AllReadyH.nil)
                    · refine Nd.step_join rfl (.tmp 31) (.tmp 41) rfl w.heap.size (.slice av (m + 1) cv) es [⟨⟨(at_ : Int), tA, l5, ⟨#[]⟩⟩, a5, c5⟩] (by simp [Act.eval, Act.put]) HSA.out.row gn 1 1 (by simp [Act.eval, Act.put]) rfl (one_cells HMN.out) (one_hf HOA2.out HAP.out.2) (List.pairwise_singleton _ _) (one_ap HAP.out.1) HNL.out HZW.out ?_
                      intro a7 c7 w7 hr7 hb7 hg7
                      have HR7 := hid hr7
                      have HG7 := hid hg7
                      clear hr7 hb7 hg7
                      refine hK.out _ _ trivial (fun _ => ?_)
                      clear hK K
                      try simp only [Act.put, List.setIfInBounds_toArray, List.set_cons_zero, List.set_cons_succ]
                      refine wpAnyH_ready (rs := [12]) (by kernel_rfl) (by simp) (AllReadyH.cons rfl (fun K hK => ?_) AllReadyH.nil)
                      · go_simp
                        refine hK.out _ _ trivial (fun _ => ?_)
                        clear hK K
                        try simp only [Act.put, List.setIfInBounds_toArray, List.set_cons_zero, List.set_cons_succ]
                        refine wpAnyH_done (by kernel_rfl) ?_ _
                        go_wp2_with fail
                        go_meet
                        exact ⟨a7, c7, ⟨⟨(at_ : Int), tA, l5, ⟨#[]⟩⟩, a5, c5⟩, by rw [HL.out], rfl, htP, by rw [← HL2.out ⟨⟨(at_ : Int), tA, l5, ⟨#[]⟩⟩, a5, c5⟩]; exact HSA.out.join HR7.out HG7.out HOW2.out HAO.out ⟨by show tA.size ≤ 20; omega, by show l5.length ≤ 20; omega, HSZ5.out, Nat.zero_le _⟩ (HSA.out.grn.keep rfl)⟩
          · go_simp
            refine (cBelow 5 w0 a len cap b _ hlen HR.out HS.out.c.cur (by omega) (by omega)).mono ?_
            rintro e W2 ⟨x, rfl, hx, hC, hG⟩
            replace HS := hid (HS.out.draw hC hG)
            have hxn : (x : Int) < 5 := by omega
            clear hC hG
            go_wp2_with fail
            refine hK.out _ _ trivial (fun _ => ?_)
            clear hK K
            try simp only [Act.put, List.setIfInBounds_toArray, List.set_cons_zero, List.set_cons_succ]
            generalize W2 = W at *
            refine wpAnyH_ready (rs := [2, 8]) (by kernel_rfl) (by simp) (AllReadyH.cons rfl (fun K hK => ?_) (AllReadyH.cons rfl (fun K hK => ?_) AllReadyH.nil))
            · have HTB := hid (show ¬ W.heap.size = b by have := HS.out.c.gr.size; have := HS.out.c.lt; omega)
              go_simp
              refine hK.out _ _ trivial (fun _ => ?_)
              clear hK K
              try simp only [Act.put, List.setIfInBounds_toArray, List.set_cons_zero, List.set_cons_succ]
              have HT := hid (heap_alloc_new W (.cells #[.string ⟨#[97]⟩, .string ⟨#[98]⟩, .string ⟨#[112, 58, 97]⟩, .string ⟨#[113, 58, 98]⟩, .string ⟨#[99]⟩] 9))
              replace HS := hid (HS.out.alloc (.cells #[.string ⟨#[97]⟩, .string ⟨#[98]⟩, .string ⟨#[112, 58, 97]⟩, .string ⟨#[113, 58, 98]⟩, .string ⟨#[99]⟩] 9))
              generalize W.heap.size = tb at *
              generalize W.alloc (.cells #[.string ⟨#[97]⟩, .string ⟨#[98]⟩, .string ⟨#[112, 58, 97]⟩, .string ⟨#[113, 58, 98]⟩, .string ⟨#[99]⟩] 9) = W at *
              refine wpAnyH_take (i := 5) (v := ?_) rfl (by kernel_rfl) (by kernel_rfl) (by kernel_rfl) (fun _ _ _ h => h) (Or.inl ⟨by rfl, ?_⟩) trivial ?_
              rotate_left
              · intro w hSw
                go_simp
                try (with_reducible rfl)
              try simp only [Act.put, List.setIfInBounds_toArray, List.set_cons_zero, List.set_cons_succ]
              refine wpAnyH_ready (rs := [6, 8]) (by kernel_rfl) (by simp) (AllReadyH.cons rfl (fun K hK => ?_) (AllReadyH.cons rfl (fun K hK => ?_) AllReadyH.nil))
              · obtain ⟨tA, hcA, htA, htP⟩ := tab5_at _ tb x hx HT.out
                go_simp
                refine hK.out _ _ trivial (fun _ => ?_)
                clear hK K
                try simp only [Act.put, List.setIfInBounds_toArray, List.set_cons_zero, List.set_cons_succ]
                clear hcA
                refine wpAnyH_ready (rs := [8]) (by kernel_rfl) (by simp) (AllReadyH.cons rfl (fun K hK => ?_) AllReadyH.nil)
                · go_simp
                  refine (cDrawAttrs false w0 a len cap b _ hlen HR.out HS.out.c.cur).mono ?_
                  rintro e W3 ⟨a5, c5, l5, rfl, hl5, hd5⟩
                  have HOA := hid (dst_own hd5 HS.out.c.gr.size)
                  have HOW := hid (own_mono hd5.own HS.out.c.gr.size)
                  have HSZ5 := hid hd5.sz
                  have HAP := hid (ap_of HS.out.row (dst_own hd5 (Nat.le_refl _)))
                  have HAO := hid (apo_of HS.out.own hd5.own)
                  replace HT := hid ((hd5.gr.block tb (lt_of_heap HT.out) (fun e => HTB.out (Option.some.inj e))).trans HT.out)
                  replace HS := hid (HS.out.draw hd5.cur hd5.gr)
                  clear hd5
                  go_wp2_with fail
                  refine hK.out _ _ trivial (fun _ => ?_)
                  clear hK K
                  try simp only [Act.put, List.setIfInBounds_toArray, List.set_cons_zero, List.set_cons_succ]
                  generalize W3 = W at *
                  refine wpAnyH_take (i := 9) (v := ?_) rfl (by kernel_rfl) (by kernel_rfl) (by kernel_rfl) (fun _ _ _ h => h) (Or.inl ⟨by rfl, ?_⟩) trivial ?_
                  rotate_left
                  · intro w hSw
                    go_simp
                    try (with_reducible rfl)
                  try simp only [Act.put, List.setIfInBounds_toArray, List.set_cons_zero, List.set_cons_succ]
                  refine wpAnyH_ready (rs := [10]) (by kernel_rfl) (by simp) (AllReadyH.cons rfl (fun K hK => ?_) AllReadyH.nil)
                  · have HMN := hid (heap_alloc_new W (.cells #[.int .i64 (at_ : Int), .string tA, .slice a5 l5.length c5, .string ⟨#[]⟩] 42))
                    have HSA := hid (HS.out.alloc (.cells #[.int .i64 (at_ : Int), .string tA, .slice a5 l5.length c5, .string ⟨#[]⟩] 42))
                    have HOA2 := hid (HOA.out.below ((Below.refl _ _).alloc (Nat.le_refl _) (.cells #[.int .i64 (at_ : Int), .string tA, .slice a5 l5.length c5, .string ⟨#[]⟩] 42)))
                    have HOW2 := hid (HOW.out.alloc (.cells #[.int .i64 (at_ : Int), .string tA, .slice a5 l5.length c5, .string ⟨#[]⟩] 42))
                    have HZW := hid (show w.heap.size ≤ (W.alloc (.cells #[.int .i64 (at_ : Int), .string tA, .slice a5 l5.length c5, .string ⟨#[]⟩] 42)).heap.size from HSA.out.c.gr.size)
                    go_simp
                    refine hK.out _ _ trivial (fun _ => ?_)
                    clear hK K
                    try simp only [Act.put, List.setIfInBounds_toArray, List.set_cons_zero, List.set_cons_succ]
                    generalize W.heap.size = gn at *
                    generalize W.alloc (.cells #[.int .i64 (at_ : Int), .string tA, .slice a5 l5.length c5, .string ⟨#[]⟩] 42) = W at *
                    refine wpAnyH_ready (rs := [11]) (by kernel_rfl) (by simp) (AllReadyH.cons rfl (fun K hK => ?_) AllReadyH.nil)
                    · refine Nd.step_join rfl (.tmp 31) (.tmp 41) rfl w.heap.size (.slice av (m + 1) cv) es [⟨⟨(at_ : Int), tA, l5, ⟨#[]⟩⟩, a5, c5⟩] (by simp [Act.eval, Act.put]) HSA.out.row gn 1 1 (by simp [Act.eval, Act.put]) rfl (one_cells HMN.out) (one_hf HOA2.out HAP.out.2) (List.pairwise_singleton _ _) (one_ap HAP.out.1) HNL.out HZW.out ?_
                      intro a7 c7 w7 hr7 hb7 hg7
                      have HR7 := hid hr7
                      have HG7 := hid hg7
                      clear hr7 hb7 hg7
                      refine hK.out _ _ trivial (fun _ => ?_)
                      clear hK K
                      try simp only [Act.put, List.setIfInBounds_toArray, List.set_cons_zero, List.set_cons_succ]
                      refine wpAnyH_ready (rs := [12]) (by kernel_rfl) (by simp) (AllReadyH.cons rfl (fun K hK => ?_) AllReadyH.nil)
                      · go_simp
                        refine hK.out _ _ trivial (fun _ => ?_)
                        clear hK K
                        try simp only [Act.put, List.setIfInBounds_toArray, List.set_cons_zero, List.set_cons_succ]
                        refine wpAnyH_done (by kernel_rfl) ?_ _
                        go_wp2_with fail
                        go_meet
                        exact ⟨a7, c7, ⟨⟨(at_ : Int), tA, l5, ⟨#[]⟩⟩, a5, c5⟩, by rw [HL.out], rfl, htP, by rw [← HL2.out ⟨⟨(at_ : Int), tA, l5, ⟨#[]⟩⟩, a5, c5⟩]; exact HSA.out.join HR7.out HG7.out HOW2.out HAO.out ⟨by show tA.size ≤ 20; omega, by show l5.length ≤ 20; omega, HSZ5.out, Nat.zero_le _⟩ (HSA.out.grn.keep rfl)⟩
              · go_simp
                refine (cDrawAttrs false w0 a len cap b _ hlen HR.out HS.out.c.cur).mono ?_
                rintro e W3 ⟨a5, c5, l5, rfl, hl5, hd5⟩
                have HOA := hid (dst_own hd5 HS.out.c.gr.size)
                have HOW := hid (own_mono hd5.own HS.out.c.gr.size)
                have HSZ5 := hid hd5.sz
                have HAP := hid (ap_of HS.out.row (dst_own hd5 (Nat.le_refl _)))
                have HAO := hid (apo_of HS.out.own hd5.own)
                replace HT := hid ((hd5.gr.block tb (lt_of_heap HT.out) (fun e => HTB.out (Option.some.inj e))).trans HT.out)
                replace HS := hid (HS.out.draw hd5.cur hd5.gr)
                clear hd5
                go_wp2_with fail
                refine hK.out _ _ trivial (fun _ => ?_)
                clear hK K
                try simp only [Act.put, List.setIfInBounds_toArray, List.set_cons_zero, List.set_cons_succ]
                generalize W3 = W at *
                refine wpAnyH_ready (rs := [6]) (by kernel_rfl) (by simp) (AllReadyH.cons rfl (fun K hK => ?_) AllReadyH.nil)
                · obtain ⟨tA, hcA, htA, htP⟩ := tab5_at _ tb x hx HT.out
                  go_simp
                  refine hK.out _ _ trivial (fun _ => ?_)
                  clear hK K
                  try simp only [Act.put, List.setIfInBounds_toArray, List.set_cons_zero, List.set_cons_succ]
                  clear hcA
                  refine wpAnyH_take (i := 9) (v := ?_) rfl (by kernel_rfl) (by kernel_rfl) (by kernel_rfl) (fun _ _ _ h => h) (Or.inl ⟨by rfl, ?_⟩) trivial ?_
                  rotate_left
                  · intro w hSw
                    go_simp
                    try (with_reducible rfl)
                  try simp only [Act.put, List.setIfInBounds_toArray, List.set_cons_zero, List.set_cons_succ]
                  refine wpAnyH_ready (rs := [10]) (by kernel_rfl) (by simp) (AllReadyH.cons rfl (fun K hK => ?_) AllReadyH.nil)
                  · have HMN := hid (heap_alloc_new W (.cells #[.int .i64 (at_ : Int), .string tA, .slice a5 l5.length c5, .string ⟨#[]⟩] 42))
                    have HSA := hid (HS.out.alloc (.cells #[.int .i64 (at_ : Int), .string tA, .slice a5 l5.length c5, .string ⟨#[]⟩] 42))
                    have HOA2 := hid (HOA.out.below ((Below.refl _ _).alloc (Nat.le_refl _) (.cells #[.int .i64 (at_ : Int), .string tA, .slice a5 l5.length c5, .string ⟨#[]⟩] 42)))
                    have HOW2 := hid (HOW.out.alloc (.cells #[.int .i64 (at_ : Int), .string tA, .slice a5 l5.length c5, .string ⟨#[]⟩] 42))
                    have HZW := hid (show w.heap.size ≤ (W.alloc (.cells #[.int .i64 (at_ : Int), .string tA, .slice a5 l5.length c5, .string ⟨#[]⟩] 42)).heap.size from HSA.out.c.gr.size)
                    go_simp
                    refine hK.out _ _ trivial (fun _ => ?_)
                    clear hK K
                    try simp only [Act.put, List.setIfInBounds_toArray, List.set_cons_zero, List.set_cons_succ]
                    generalize W.heap.size = gn at *
                    generalize W.alloc (.cells #[.int .i64 (at_ : Int), .string tA, .slice a5 l5.length c5, .string ⟨#[]⟩] 42) = W at *
                    refine wpAnyH_ready (rs := [11]) (by kernel_rfl) (by simp) (AllReadyH.cons rfl (fun K hK => ?_) AllReadyH.nil)
                    · refine Nd.step_join rfl (.tmp 31) (.tmp 41) rfl w.heap.size (.slice av (m + 1) cv) es [⟨⟨(at_ : Int), tA, l5, ⟨#[]⟩⟩, a5, c5⟩] (by simp [Act.eval, Act.put]) HSA.out.row gn 1 1 (by simp [Act.eval, Act.put]) rfl (one_cells HMN.out) (one_hf HOA2.out HAP.out.2) (List.pairwise_singleton _ _) (one_ap HAP.out.1) HNL.out HZW.out ?_
                      intro a7 c7 w7 hr7 hb7 hg7
                      have HR7 := hid hr7
                      have HG7 := hid hg7
                      clear hr7 hb7 hg7
                      refine hK.out _ _ trivial (fun _ => ?_)
                      clear hK K
                      try simp only [Act.put, List.setIfInBounds_toArray, List.set_cons_zero, List.set_cons_succ]
                      refine wpAnyH_ready (rs := [12]) (by kernel_rfl) (by simp) (AllReadyH.cons rfl (fun K hK => ?_) AllReadyH.nil)
                      · go_simp
                        refine hK.out _ _ trivial (fun _ => ?_)
                        clear hK K
                        try simp only [Act.put, List.setIfInBounds_toArray, List.set_cons_zero, List.set_cons_succ]
                        refine wpAnyH_done (by kernel_rfl) ?_ _
                        go_wp2_with fail
                        go_meet
                        exact ⟨a7, c7, ⟨⟨(at_ : Int), tA, l5, ⟨#[]⟩⟩, a5, c5⟩, by rw [HL.out], rfl, htP, by rw [← HL2.out ⟨⟨(at_ : Int), tA, l5, ⟨#[]⟩⟩, a5, c5⟩]; exact HSA.out.join HR7.out HG7.out HOW2.out HAO.out ⟨by show tA.size ≤ 20; omega, by show l5.length ≤ 20; omega, HSZ5.out, Nat.zero_le _⟩ (HSA.out.grn.keep rfl)⟩
            · go_simp
              refine (cDrawAttrs false w0 a len cap b _ hlen HR.out HS.out.c.cur).mono ?_
              rintro e W3 ⟨a5, c5, l5, rfl, hl5, hd5⟩
              have HOA := hid (dst_own hd5 HS.out.c.gr.size)
              have HOW := hid (own_mono hd5.own HS.out.c.gr.size)
              have HSZ5 := hid hd5.sz
              have HAP := hid (ap_of HS.out.row (dst_own hd5 (Nat.le_refl _)))
              have HAO := hid (apo_of HS.out.own hd5.own)
              replace HS := hid (HS.out.draw hd5.cur hd5.gr)
              clear hd5
              go_wp2_with fail
              refine hK.out _ _ trivial (fun _ => ?_)
              clear hK K
              try simp only [Act.put, List.setIfInBounds_toArray, List.set_cons_zero, List.set_cons_succ]
              generalize W3 = W at *
              refine wpAnyH_ready (rs := [2]) (by kernel_rfl) (by simp) (AllReadyH.cons rfl (fun K hK => ?_) AllReadyH.nil)
              · have HTB := hid (show ¬ W.heap.size = b by have := HS.out.c.gr.size; have := HS.out.c.lt; omega)
                go_simp
                refine hK.out _ _ trivial (fun _ => ?_)
                clear hK K
                try simp only [Act.put, List.setIfInBounds_toArray, List.set_cons_zero, List.set_cons_succ]
                have HT := hid (heap_alloc_new W (.cells #[.string ⟨#[97]⟩, .string ⟨#[98]⟩, .string ⟨#[112, 58, 97]⟩, .string ⟨#[113, 58, 98]⟩, .string ⟨#[99]⟩] 9))
                replace HS := hid (HS.out.alloc (.cells #[.string ⟨#[97]⟩, .string ⟨#[98]⟩, .string ⟨#[112, 58, 97]⟩, .string ⟨#[113, 58, 98]⟩, .string ⟨#[99]⟩] 9))
                replace HOA := hid (HOA.out.below ((Below.refl _ _).alloc (Nat.le_refl _) (.cells #[.string ⟨#[97]⟩, .string ⟨#[98]⟩, .string ⟨#[112, 58, 97]⟩, .string ⟨#[113, 58, 98]⟩, .string ⟨#[99]⟩] 9)))
                replace HOW := hid (HOW.out.alloc (.cells #[.string ⟨#[97]⟩, .string ⟨#[98]⟩, .string ⟨#[112, 58, 97]⟩, .string ⟨#[113, 58, 98]⟩, .string ⟨#[99]⟩] 9))
                generalize W.heap.size = tb at *
                generalize W.alloc (.cells #[.string ⟨#[97]⟩, .string ⟨#[98]⟩, .string ⟨#[112, 58, 97]⟩, .string ⟨#[113, 58, 98]⟩, .string ⟨#[99]⟩] 9) = W at *
                refine wpAnyH_take (i := 5) (v := ?_) rfl (by kernel_rfl) (by kernel_rfl) (by kernel_rfl) (fun _ _ _ h => h) (Or.inl ⟨by rfl, ?_⟩) trivial ?_
                rotate_left
                · intro w hSw
                  go_simp
                  try (with_reducible rfl)
                try simp only [Act.put, List.setIfInBounds_toArray, List.set_cons_zero, List.set_cons_succ]
                refine wpAnyH_ready (rs := [6]) (by kernel_rfl) (by simp) (AllReadyH.cons rfl (fun K hK => ?_) AllReadyH.nil)
                · obtain ⟨tA, hcA, htA, htP⟩ := tab5_at _ tb x hx HT.out
                  go_simp
                  refine hK.out _ _ trivial (fun _ => ?_)
                  clear hK K
                  try simp only [Act.put, List.setIfInBounds_toArray, List.set_cons_zero, List.set_cons_succ]
                  clear hcA
                  refine wpAnyH_take (i := 9) (v := ?_) rfl (by kernel_rfl) (by kernel_rfl) (by kernel_rfl) (fun _ _ _ h => h) (Or.inl ⟨by rfl, ?_⟩) trivial ?_
                  rotate_left
                  · intro w hSw
                    go_simp
                    try (with_reducible rfl)
                  try simp only [Act.put, List.setIfInBounds_toArray, List.set_cons_zero, List.set_cons_succ]
                  refine wpAnyH_ready (rs := [10]) (by kernel_rfl) (by simp) (AllReadyH.cons rfl (fun K hK => ?_) AllReadyH.nil)
                  · have HMN := hid (heap_alloc_new W (.cells #[.int .i64 (at_ : Int), .string tA, .slice a5 l5.length c5, .string ⟨#[]⟩] 42))
                    have HSA := hid (HS.out.alloc (.cells #[.int .i64 (at_ : Int), .string tA, .slice a5 l5.length c5, .string ⟨#[]⟩] 42))
                    have HOA2 := hid (HOA.out.below ((Below.refl _ _).alloc (Nat.le_refl _) (.cells #[.int .i64 (at_ : Int), .string tA, .slice a5 l5.length c5, .string ⟨#[]⟩] 42)))
                    have HOW2 := hid (HOW.out.alloc (.cells #[.int .i64 (at_ : Int), .string tA, .slice a5 l5.length c5, .string ⟨#[]⟩] 42))
                    have HZW := hid (show w.heap.size ≤ (W.alloc (.cells #[.int .i64 (at_ : Int), .string tA, .slice a5 l5.length c5, .string ⟨#[]⟩] 42)).heap.size from HSA.out.c.gr.size)
                    go_simp
                    refine hK.out _ _ trivial (fun _ => ?_)
                    clear hK K
                    try simp only [Act.put, List.setIfInBounds_toArray, List.set_cons_zero, List.set_cons_succ]
                    generalize W.heap.size = gn at *
                    generalize W.alloc (.cells #[.int .i64 (at_ : Int), .string tA, .slice a5 l5.length c5, .string ⟨#[]⟩] 42) = W at *
                    refine wpAnyH_ready (rs := [11]) (by kernel_rfl) (by simp) (AllReadyH.cons rfl (fun K hK => ?_) AllReadyH.nil)
                    · refine Nd.step_join rfl (.tmp 31) (.tmp 41) rfl w.heap.size (.slice av (m + 1) cv) es [⟨⟨(at_ : Int), tA, l5, ⟨#[]⟩⟩, a5, c5⟩] (by simp [Act.eval, Act.put]) HSA.out.row gn 1 1 (by simp [Act.eval, Act.put]) rfl (one_cells HMN.out) (one_hf HOA2.out HAP.out.2) (List.pairwise_singleton _ _) (one_ap HAP.out.1) HNL.out HZW.out ?_
                      intro a7 c7 w7 hr7 hb7 hg7
                      have HR7 := hid hr7
                      have HG7 := hid hg7
                      clear hr7 hb7 hg7
                      refine hK.out _ _ trivial (fun _ => ?_)
                      clear hK K
                      try simp only [Act.put, List.setIfInBounds_toArray, List.set_cons_zero, List.set_cons_succ]
                      refine wpAnyH_ready (rs := [12]) (by kernel_rfl) (by simp) (AllReadyH.cons rfl (fun K hK => ?_) AllReadyH.nil)
                      · go_simp
                        refine hK.out _ _ trivial (fun _ => ?_)
                        clear hK K
                        try simp only [Act.put, List.setIfInBounds_toArray, List.set_cons_zero, List.set_cons_succ]
                        refine wpAnyH_done (by kernel_rfl) ?_ _
                        go_wp2_with fail
                        go_meet
                        exact ⟨a7, c7, ⟨⟨(at_ : Int), tA, l5, ⟨#[]⟩⟩, a5, c5⟩, by rw [HL.out], rfl, htP, by rw [← HL2.out ⟨⟨(at_ : Int), tA, l5, ⟨#[]⟩⟩, a5, c5⟩]; exact HSA.out.join HR7.out HG7.out HOW2.out HAO.out ⟨by show tA.size ≤ 20; omega, by show l5.length ≤ 20; omega, HSZ5.out, Nat.zero_le _⟩ (HSA.out.grn.keep rfl)⟩
      obtain ⟨a7, c7, e7, rfl, hk7, hn7, HN7⟩ := hcut
      have HNT := hid (show es.map (·.t) ++ [e7.t] = (es ++ [e7]).map (·.t) by rw [List.map_append]; rfl)
      have hl7 : (es ++ [e7]).length = m + 1 + 1 := by rw [List.length_append, HL.out]; rfl
      have HL7 := hid hl7
      clear hl7 HN3 M3 x0 x1 x2 x3
      go_wp2_with fail
      refine (cOnce 2 w0 a len cap b _ hlen HR.out HN7.out.c.cur (by omega) (by omega)).mono ?_
      rintro e w8 ⟨B8, rfl, hC8, hG8⟩
      have HN8 := hid (HN7.out.draw hC8 hG8)
      clear hC8 hG8
      cases B8
      · go_wp2_with fail
        go_roundw
        case rel => exact ⟨k1, es ++ [e7], at_, by go_num, by omega, rfl, by rw [HL7.out]; omega, HN8.out⟩
        case measure => first | (simp [intOf]; omega) | simp [intOf]
      · obtain ⟨av2, cv2, ev2, htk8⟩ := HN8.out.row.tkRow
        obtain ⟨rfl, rfl⟩ : a7 = av2 ∧ c7 = cv2 := by injection ev2 with h1 _ h3; exact ⟨h1, h3⟩
        have hl8 : ((es ++ [e7]).map (·.t)).length = m + 1 + 1 := by rw [List.length_map]; exact HL7.out
        have CD := hid (cDepthS a7 c7 ((es ++ [e7]).map (·.t)) (m + 1) w8 htk8 (by omega) (by omega) (fun t ht => by
          obtain ⟨e, he, rfl⟩ := List.mem_map.1 ht
          obtain ⟨g1, g2, g3, g4⟩ := HN8.out.sz e he
          exact ⟨by omega, by omega, fun x hx => by have := g3 x hx; omega, by omega⟩) HN8.out.grn.p0 (fun j hj => HN8.out.grn.up j (by omega)))
        rw [hl8] at CD
        generalize depI ((es ++ [e7]).map (·.t)) (m + 1) = D at *
        have hm2 : ((m + 1 + 1 : Nat) : Int) - 1 = ((m + 1 : Nat) : Int) := by omega
        clear htk8 ev2 hl8
        by_cases h9 : D < 9
        · have hd9 : decide (D < 9) = true := decide_eq_true h9
          have HG9 := hid (show Grn ((es ++ [e7]).map (·.t)) (m + 1) by
            rw [← HNT.out]
            have h := HN.out.grn.into hk7 hn7
            rw [HLM.out] at h
            exact h)
          go_wp2_with fail
          refine CD.out.mono ?_
          rintro e w9 ⟨rfl, rfl⟩
          go_wp2_with fail
          go_roundw
          case rel => exact ⟨k1, es ++ [e7], m + 1, by go_num, by omega, by go_num, by rw [HL7.out]; omega, ⟨HN8.out.c, HN8.out.row, HN8.out.sz, HG9.out, HN8.out.own, HN8.out.apo⟩⟩
          case measure => first | (simp [intOf]; omega) | simp [intOf]
        · have hd9 : decide (D < 9) = false := decide_eq_false h9
          go_wp2_with fail
          refine CD.out.mono ?_
          rintro e w9 ⟨rfl, rfl⟩
          go_wp2_with fail
          go_roundw
          case rel => exact ⟨k1, es ++ [e7], at_, by go_num, by omega, rfl, by rw [HL7.out]; omega, HN8.out⟩
          case measure => first | (simp [intOf]; omega) | simp [intOf]

end Go.Proofs.YteninofjeidljaaGreat

namespace Go.Proofs.YteninofjeidljaaGreat

open Go.RowKit

set_option linter.unusedVariables false

set_option linter.unusedSimpArgs false

set_option maxHeartbeats 2000000 in
theorem cFromA (lo : Int) (n : Nat) (hi : Int) (hlo : -100 ≤ lo) (hlo2 : lo ≤ 100) (hn : hi - lo + 1 = (n : Int)) (hn0 : 1 ≤ n) (hn1 : n ≤ 256) (w0 : World) (a : Option Addr) (len cap b : Nat) (w : World) (hlen : len ≤ 4096) (hcr : CodeRow w0 a len) (hC : Cur w0 a len cap b w) :
    Calls Tryz.prog 94 #[.pointer (some ⟨b, 0, none⟩), .int .i64 lo, .int .i64 hi] w fun e w' => ∃ x : Int, e = .returned (.int .i64 x) ∧ lo ≤ x ∧ x ≤ hi ∧ Cur w0 a len cap b w' ∧ w.grownBy w' (some b) := by
  have HR : Hid (CodeRow w0 a len) := hcr
  have HC : Hid (Cur w0 a len cap b w) := hC
  have HNN := hid hn
  have hi1 : hi ≤ 1000 := by omega
  have hi2 : -1000 ≤ hi := by omega
  have C := hid (cBelow n w0 a len cap b w hlen HR.out HC.out hn0 hn1)
  rw [← hn] at C
  clear hcr hC hn
  go_enter Tryz.func94, Tryz.ntmps94
  go_wp2_with fail
  refine C.out.mono ?_
  rintro e w1 ⟨x, rfl, hx, hC1, hG1⟩
  have hx2 : (x : Int) < 300 := by omega
  have HX := hid hx
  have HC1 := hid hC1
  have HG1 := hid hG1
  clear hC1 hG1 C hx
  go_wp2_with fail
  go_ret
  exact ⟨_, rfl, by omega, by have := HNN.out; have := HX.out; omega, HC1.out, HG1.out⟩

/-- A drawn tree, well laid. -/
def DrawnT (w0 : World) (a : Option Addr) (len cap b : Nat) (w : World) (e : Ending) (w' : World) : Prop :=
  ∃ a' c' ts, e = .returned (.slice a' (ts : List Tk).length c') ∧ TkRow w' a' ts ∧ ts.length ≤ 11 ∧ TksSz 30 ts ∧ Cur w0 a len cap b w' ∧ w.grownBy w' (some b) ∧ ts.length ≤ c' ∧ c' ≤ maxLen

theorem own_cap {w : World} {B size g n c : Nat} {e : TypeId} {xs : List Value} (h : w.ownsRow B e size (.slice (some ⟨g, 0, none⟩) n c) n xs) : n ≤ c ∧ c ≤ maxLen := by
  rcases h.2 with ⟨h', _⟩ | ⟨g', cap', cur, h', _, _, hn, hc, _⟩
  · cases h'
  · cases h'
    exact ⟨hn, hc⟩

theorem cs_set {es : List Nd.E} : ∀ {x : Nat} (hx : x < es.length) {f : Nat} (hf : f < 4) {u : Value} {e' : Nd.E}, Nd.c1 e' = (Nd.c1 es[x]).set f u → (Nd.cs es).set (x * 4 + f) u = Nd.cs (es.set x e') := by
  induction es with
  | nil => intro x hx; simp at hx
  | cons y es ih =>
    intro x hx f hf u e' he
    have e1 : Nd.cs (y :: es) = Nd.c1 y ++ Nd.cs es := rfl
    have hl : (Nd.c1 y).length = 4 := rfl
    match x with
    | 0 =>
      simp only [List.getElem_cons_zero] at he
      have e2 : Nd.cs ((y :: es).set 0 e') = Nd.c1 e' ++ Nd.cs es := rfl
      rw [e1, e2, he, Nat.zero_mul, Nat.zero_add, List.set_append, if_pos (by rw [hl]; exact hf)]
    | x + 1 =>
      have e2 : Nd.cs ((y :: es).set (x + 1) e') = Nd.c1 y ++ Nd.cs (es.set x e') := rfl
      rw [e1, e2, List.set_append, if_neg (by rw [hl]; omega), hl, show (x + 1) * 4 + f - 4 = x * 4 + f by omega, ih (by simpa using hx) hf (by simpa using he)]

/-- A row of nodes that is owned, its lists read. -/
theorem own_tkRow {w : World} {B g n cap : Nat} {es : List Nd.E} (h : w.ownsRow B 42 4 (.slice (some ⟨g, 0, none⟩) n cap) n (Nd.cs es)) (hn : es.length = n) (ha : ∀ e ∈ es, AtRow w e.a e.t.attrs) : TkRow w (some ⟨g, 0, none⟩) (es.map (·.t)) := by
  intro j hj
  rw [List.length_map] at hj
  obtain ⟨k0, k1, k2, k3⟩ := Nd.cs_get es j hj
  have hg : g < w.heap.size := (h.lt g rfl).2
  have hx : ∀ k u, k < n * 4 → (Nd.cs es)[k]? = some u → w.cell? ⟨g, 0 + k, none⟩ = some u := fun k u hk hu => by rw [Nat.zero_add, h.cellAt k hk]; exact hu
  rw [List.getElem_map]
  exact ⟨g, 0, es[j].a, es[j].cap, rfl, hg, hx _ _ (by omega) k0, hx _ _ (by omega) k1, hx _ _ (by omega) k2, hx _ _ (by omega) k3, ha _ (List.getElem_mem hj)⟩

section

variable {w0 : World} {a : Option Addr} {len cap b : Nat} {w wr : World} {es : List Nd.E} {at_ g L cv x : Nat}

/-- One field of one node is set, not its list. -/
theorem any_set (h : NSt w0 a len cap b w wr (.slice (some ⟨g, 0, none⟩) L cv) es at_) (hL : es.length = L) (hx : x < es.length) (h11 : L ≤ 11) {f : Nat} (hf : f < 4) {u : Value} {t' : Tk} (ht : t'.attrs = es[x].t.attrs) (hc : Nd.c1 ⟨t', es[x].a, es[x].cap⟩ = (Nd.c1 es[x]).set f u) (hz : TkSz 30 t') (r : Ending) (hr : r = .returned (.slice (some ⟨g, 0, none⟩) L cv)) :
    DrawnT w0 a len cap b w r (wr.setCell ⟨g, x * 4 + f, none⟩ u) := by
  have ho := h.row.own
  rw [hL] at ho
  obtain ⟨ho', hg'⟩ := ho.stored (x * 4 + f) u
  have hge := (ho.lt g rfl).1
  rw [cs_set hx hf hc] at ho'
  have hlen : (es.set x ⟨t', es[x].a, es[x].cap⟩).length = L := by rw [List.length_set]; exact hL
  refine ⟨some ⟨g, 0, none⟩, cv, (es.set x ⟨t', es[x].a, es[x].cap⟩).map (·.t), by rw [hr, List.length_map, hlen], own_tkRow ho' hlen (fun e he => ?_), by rw [List.length_map, hlen]; exact h11, fun t htt => ?_, h.c.cur.grown hg' (fun e => by have := Option.some.inj e; have := h.c.lt; omega) (fun k e => by have := Option.some.inj e; have := h.c.le; omega), g_later h.c.gr hg' hge, by rw [List.length_map, hlen]; exact (own_cap ho).1, (own_cap ho).2⟩
  · have key : ∀ e0 ∈ es, AtRow (wr.setCell ⟨g, x * 4 + f, none⟩ u) e0.a e0.t.attrs := fun e0 he0 j hj => by
      obtain ⟨g1, o1, e1, hl1, q1, q2⟩ := (h.row.ats e0 he0).1.atRow j hj
      have hne : ¬ g = g1 := fun e2 => (h.row.ats e0 he0).2 g1 o1 (by omega) e1 (by rw [e2]; rfl)
      exact ⟨g1, o1, e1, by simpa using hl1, (World.cell?_setCell_far _ _ _ _ hne).trans q1, (World.cell?_setCell_far _ _ _ _ hne).trans q2⟩
    rcases List.mem_or_eq_of_mem_set he with h' | h'
    · exact key e h'
    · subst h'
      show AtRow _ es[x].a t'.attrs
      rw [ht]
      exact key _ (List.getElem_mem hx)
  · obtain ⟨e, he, rfl⟩ := List.mem_map.1 htt
    rcases List.mem_or_eq_of_mem_set he with h' | h'
    · obtain ⟨q1, q2, q3, q4⟩ := h.sz e h'
      exact ⟨by omega, by omega, fun y hy => by have := q3 y hy; omega, by omega⟩
    · subst h'
      exact hz

/-- As it was drawn. -/
theorem any_same (h : NSt w0 a len cap b w wr (.slice (some ⟨g, 0, none⟩) L cv) es at_) (hL : es.length = L) (h11 : L ≤ 11) (r : Ending) (hr : r = .returned (.slice (some ⟨g, 0, none⟩) L cv)) : DrawnT w0 a len cap b w r wr := by
  have ho := h.row.own
  rw [hL] at ho
  obtain ⟨a', c', e1, ht⟩ := h.row.tkRow
  rw [hL] at e1
  cases e1
  refine ⟨_, _, es.map (·.t), by rw [hr, List.length_map, hL], ht, by rw [List.length_map, hL]; exact h11, fun t htt => ?_, h.c.cur, h.c.gr, by rw [List.length_map, hL]; exact (own_cap ho).1, (own_cap ho).2⟩
  obtain ⟨e, he, rfl⟩ := List.mem_map.1 htt
  obtain ⟨q1, q2, q3, q4⟩ := h.sz e he
  exact ⟨by omega, by omega, fun y hy => by have := q3 y hy; omega, by omega⟩

/-- Without the first. -/
theorem any_less {m : Nat} (h : NSt w0 a len cap b w wr (.slice (some ⟨g, 0, none⟩) (m + 1) cv) es at_) (hL : es.length = m + 1) (h11 : m + 1 ≤ 11) (c2 : Nat) (r : Ending) (hr : r = .returned (.slice (some ⟨g, 4, none⟩) m c2)) (hc2 : c2 = cv - 1) : DrawnT w0 a len cap b w r wr := by
  have ho := h.row.own
  rw [hL] at ho
  have hcap := own_cap ho
  obtain ⟨a', c', e1, ht⟩ := h.row.tkRow
  rw [hL] at e1
  cases e1
  have hl : ((es.map (·.t)).drop 1).length = m := by rw [List.length_drop, List.length_map, hL]; omega
  refine ⟨some ⟨g, 4, none⟩, c2, (es.map (·.t)).drop 1, by rw [hr, hl], fun j hj => ?_, by omega, fun t htt => ?_, h.c.cur, h.c.gr, by omega, by omega⟩
  · have hj2 : 1 + j < (es.map (·.t)).length := by rw [List.length_map, hL]; omega
    obtain ⟨b1, o1, aa, ca, e1, hb1, q0, q1, q2, q3, q4⟩ := ht (1 + j) hj2
    cases e1
    rw [List.getElem_drop]
    exact ⟨g, 4, aa, ca, rfl, hb1, by rw [show 4 + j * 4 = 0 + (1 + j) * 4 by omega]; exact q0, by rw [show 4 + j * 4 + 1 = 0 + (1 + j) * 4 + 1 by omega]; exact q1, by rw [show 4 + j * 4 + 2 = 0 + (1 + j) * 4 + 2 by omega]; exact q2, by rw [show 4 + j * 4 + 3 = 0 + (1 + j) * 4 + 3 by omega]; exact q3, q4⟩
  · obtain ⟨e, he, rfl⟩ := List.mem_map.1 (List.mem_of_mem_drop htt)
    obtain ⟨q1, q2, q3, q4⟩ := h.sz e he
    exact ⟨by omega, by omega, fun y hy => by have := q3 y hy; omega, by omega⟩

end

theorem own_atR {w : World} {B : Nat} {a : Option Addr} {c n : Nat} {l : List At} (h : w.ownsRow B 114 2 (.slice a n c) n (atC l)) (hl : l.length = n) : OwnAts w B a l := by
  rcases h.2 with ⟨_, h0⟩ | ⟨g, cp, cur, e, hg, hh, hn, hc, hs, ht⟩
  · exact fun hl => by omega
  · cases e
    refine fun _ => ⟨g, 0, cur, rfl, hg, hh, fun j hj => ?_⟩
    obtain ⟨g1, g2⟩ := atC_get l j hj
    rw [← ht, List.getElem?_take] at g1 g2
    refine ⟨?_, ?_⟩
    · rw [Nat.zero_add, ← Array.getElem?_toList]
      split at g1
      · exact g1
      · cases g1
    · rw [Nat.zero_add, ← Array.getElem?_toList]
      split at g2
      · exact g2
      · cases g2

theorem own_kind {w : World} {B n s : Nat} {v : Value} {xs : List Value} {E : TypeId} (h : w.ownsRow B E s v n xs) : ∀ k, v.ownBlock = some k → ∃ c fz, w.heap[k]? = some (.cells c E fz) := by
  intro k hk
  rcases h.2 with ⟨rfl, _⟩ | ⟨g, cp, cur, rfl, hg, hh, _⟩
  · cases hk
  · cases hk
    exact ⟨_, _, hh⟩

theorem g_own {w wr w1 : World} {b : Nat} {row : Option Nat} (h : w.grownBy wr (some b)) (k : wr.grownBy w1 row) (hg : ∀ i, row = some i → w.heap.size ≤ i) : w.grownBy w1 (some b) :=
  ⟨k.os.trans h.os, k.tape.trans h.tape, k.output.trans h.output, Nat.le_trans h.size k.size, fun i hi hr => (k.block i (Nat.lt_of_lt_of_le hi h.size) (fun e => by have := hg i e.symm; omega)).trans (h.block i hi hr)⟩

/-- The cells of one node, of a row that is owned. -/
theorem slot_own {w : World} {B g n cap x : Nat} {es : List Nd.E} (ho : w.ownsRow B 42 4 (.slice (some ⟨g, 0, none⟩) n cap) n (Nd.cs es)) (hn : es.length = n) (hx : x < es.length) :
    (w.cell? ⟨g, x * 4, none⟩ = some (.int .i64 es[x].t.kind) ∧ w.cell? ⟨g, x * 4 + 1, none⟩ = some (.string es[x].t.name) ∧ w.cell? ⟨g, x * 4 + 2, none⟩ = some (.slice es[x].a es[x].t.attrs.length es[x].cap) ∧ w.cell? ⟨g, x * 4 + 3, none⟩ = some (.string es[x].t.text)) ∧ ∀ j, w.frozen? ⟨g, j, none⟩ = false := by
  obtain ⟨k0, k1, k2, k3⟩ := Nd.cs_get es x hx
  exact ⟨⟨by rw [ho.cellAt _ (by omega)]; exact k0, by rw [ho.cellAt _ (by omega)]; exact k1, by rw [ho.cellAt _ (by omega)]; exact k2, by rw [ho.cellAt _ (by omega)]; exact k3⟩, fun j => ho.frozenAt j⟩

theorem any_nil {w0 : World} {a : Option Addr} {len cap b : Nat} {w wr : World} {v : Value} {es : List Nd.E} {at_ : Nat} (h : NSt w0 a len cap b w wr v es at_) (a2 : Option Addr) (c2 : Nat) (r : Ending) (hr : r = .returned (.slice a2 0 c2)) (hc2 : c2 ≤ maxLen) : DrawnT w0 a len cap b w r wr :=
  ⟨a2, c2, [], hr, fun j hj => absurd hj (Nat.not_lt_zero _), Nat.zero_le _, fun t ht => absurd ht List.not_mem_nil, h.c.cur, h.c.gr, Nat.zero_le _, hc2⟩

theorem two_oneY (t : ByteArray) : ∀ u ∈ [Value.string t, .string ⟨#[118]⟩], u.oneCell' = true := by
  intro u hu
  simp only [List.mem_cons, List.not_mem_nil, or_false] at hu
  rcases hu with rfl | rfl <;> rfl

section

variable {w0 : World} {a : Option Addr} {len cap b : Nat} {w wr : World} {es : List Nd.E} {at_ g L cv x : Nat}

theorem slot_of (h : NSt w0 a len cap b w wr (.slice (some ⟨g, 0, none⟩) L cv) es at_) (hL : es.length = L) (hx : x < es.length) :
    (wr.cell? ⟨g, x * 4, none⟩ = some (.int .i64 es[x].t.kind) ∧ wr.cell? ⟨g, x * 4 + 1, none⟩ = some (.string es[x].t.name) ∧ wr.cell? ⟨g, x * 4 + 2, none⟩ = some (.slice es[x].a es[x].t.attrs.length es[x].cap) ∧ wr.cell? ⟨g, x * 4 + 3, none⟩ = some (.string es[x].t.text)) ∧ ∀ j, wr.frozen? ⟨g, j, none⟩ = false := by
  have ho := h.row.own
  rw [hL] at ho
  exact slot_own ho hL hx

theorem slot_grown {w7 : World} (h : NSt w0 a len cap b w wr (.slice (some ⟨g, 0, none⟩) L cv) es at_) (hL : es.length = L) (hx : x < es.length) (hg : wr.grownBy w7 (Value.slice es[x].a es[x].t.attrs.length es[x].cap).ownBlock) :
    (w7.cell? ⟨g, x * 4, none⟩ = some (.int .i64 es[x].t.kind) ∧ w7.cell? ⟨g, x * 4 + 1, none⟩ = some (.string es[x].t.name) ∧ w7.cell? ⟨g, x * 4 + 2, none⟩ = some (.slice es[x].a es[x].t.attrs.length es[x].cap) ∧ w7.cell? ⟨g, x * 4 + 3, none⟩ = some (.string es[x].t.text)) ∧ ∀ j, w7.frozen? ⟨g, j, none⟩ = false := by
  have ho := own_grownR h.row.own hg (own_kind (h.own _ (List.getElem_mem hx))) (by decide)
  rw [hL] at ho
  exact slot_own ho hL hx

/-- One more attr at one node. -/
theorem any_app {w7 : World} (h : NSt w0 a len cap b w wr (.slice (some ⟨g, 0, none⟩) L cv) es at_) (hL : es.length = L) (hx : x < es.length) (h11 : L ≤ 11) {tN : ByteArray} (htN : tN.size ≤ 7) {v7 : Value} (ho : w7.ownsRow w.heap.size 114 2 v7 (es[x].t.attrs.length + 1) (atC es[x].t.attrs ++ [.string tN, .string ⟨#[118]⟩])) (hg : wr.grownBy w7 (Value.slice es[x].a es[x].t.attrs.length es[x].cap).ownBlock) :
    ∀ (a7 : Option Addr) (c7 : Nat), v7 = .slice a7 (es[x].t.attrs.length + 1) c7 → ∀ r : Ending, r = .returned (.slice (some ⟨g, 0, none⟩) L cv) → DrawnT w0 a len cap b w r (w7.setCell ⟨g, x * 4 + 2, none⟩ v7) := by
  rintro a7 c7 rfl r hr
  have hown := h.own _ (List.getElem_mem hx)
  have hrow := own_grownR h.row.own hg (own_kind hown) (by decide)
  rw [hL] at hrow
  obtain ⟨ho', hg'⟩ := hrow.stored (x * 4 + 2) (.slice a7 (es[x].t.attrs.length + 1) c7)
  obtain ⟨l', hl'⟩ : ∃ l' : List At, l' = es[x].t.attrs ++ [⟨tN, ⟨#[118]⟩⟩] := ⟨_, rfl⟩
  have hll : l'.length = es[x].t.attrs.length + 1 := by rw [hl', List.length_append]; rfl
  have hat : atC l' = atC es[x].t.attrs ++ [.string tN, .string ⟨#[118]⟩] := by rw [hl', atC_app]; rfl
  have hc : Nd.c1 ⟨⟨es[x].t.kind, es[x].t.name, l', es[x].t.text⟩, a7, c7⟩ = (Nd.c1 es[x]).set 2 (.slice a7 (es[x].t.attrs.length + 1) c7) := by
    rw [← hll]
    rfl
  rw [cs_set hx (by omega) hc] at ho'
  rw [← hat] at ho
  have hge := (hrow.lt g rfl).1
  have hlen : (es.set x ⟨⟨es[x].t.kind, es[x].t.name, l', es[x].t.text⟩, a7, c7⟩).length = L := by rw [List.length_set]; exact hL
  have hcur : Cur w0 a len cap b w7 := h.c.cur.grown hg (fun e => by have := (hown.lt b e.symm).1; have := h.c.lt; omega) (fun k e => by have := (hown.lt k e).1; have := h.c.le; omega)
  have hgr : w.grownBy w7 (some b) := g_own h.c.gr hg (fun i e => (hown.lt i e).1)
  obtain ⟨cn, fzn, hkn⟩ := own_kind hrow g rfl
  have key : ∀ (a1 : Option Addr) (l1 : List At), OwnAts w7 w.heap.size a1 l1 → AtRow (w7.setCell ⟨g, x * 4 + 2, none⟩ (.slice a7 (es[x].t.attrs.length + 1) c7)) a1 l1 := fun a1 l1 h1 j hj => by
    obtain ⟨g1, o1, cu, e1, hb1, hh1, hc1⟩ := h1 (by omega)
    obtain ⟨g2, o2, e2, hl2, q1, q2⟩ := h1.atRow j hj
    rw [e1] at e2
    cases e2
    have hne : ¬ g = g1 := fun e => by
      subst e
      rw [hkn] at hh1
      injection hh1 with hh1
      injection hh1 with _ h2 _
      exact absurd h2 (by decide)
    exact ⟨g1, o1, e1, by simpa using hl2, (World.cell?_setCell_far _ _ _ _ hne).trans q1, (World.cell?_setCell_far _ _ _ _ hne).trans q2⟩
  refine ⟨some ⟨g, 0, none⟩, cv, (es.set x ⟨⟨es[x].t.kind, es[x].t.name, l', es[x].t.text⟩, a7, c7⟩).map (·.t), by rw [hr, List.length_map, hlen], own_tkRow ho' hlen (fun e he => ?_), by rw [List.length_map, hlen]; exact h11, fun t htt => ?_, hcur.grown hg' (fun e => by have := Option.some.inj e; have := h.c.lt; omega) (fun k e => by have := Option.some.inj e; have := h.c.le; omega), g_later hgr hg' hge, by rw [List.length_map, hlen]; exact (own_cap hrow).1, (own_cap hrow).2⟩
  · obtain ⟨j, hj, rfl⟩ := List.mem_iff_getElem.1 he
    rw [List.length_set] at hj
    rw [List.getElem_set]
    by_cases hjx : x = j
    · rw [if_pos hjx]
      exact key _ _ (own_atR ho hll)
    · rw [if_neg hjx]
      have hne : ¬ (Value.slice es[j].a es[j].t.attrs.length es[j].cap).ownBlock = (Value.slice es[x].a es[x].t.attrs.length es[x].cap).ownBlock ∨ (Value.slice es[j].a es[j].t.attrs.length es[j].cap).ownBlock = none := by
        rcases hb : (Value.slice es[j].a es[j].t.attrs.length es[j].cap).ownBlock with _ | k
        · exact .inr rfl
        · refine .inl (fun e => ?_)
          rcases Nat.lt_or_gt_of_ne hjx with h' | h'
          · exact List.pairwise_iff_getElem.1 h.apo x j hx hj h' k e.symm hb
          · exact List.pairwise_iff_getElem.1 h.apo j x hj hx h' k hb e.symm
      have hj7 := (h.own _ (List.getElem_mem hj)).kept hg hne.symm
      exact key _ _ (own_atR hj7 rfl)
  · obtain ⟨e, he, rfl⟩ := List.mem_map.1 htt
    rcases List.mem_or_eq_of_mem_set he with h' | h'
    · obtain ⟨q1, q2, q3, q4⟩ := h.sz e h'
      exact ⟨by omega, by omega, fun y hy => by have := q3 y hy; omega, by omega⟩
    · subst h'
      obtain ⟨q1, q2, q3, q4⟩ := h.sz _ (List.getElem_mem hx)
      refine ⟨by show es[x].t.name.size ≤ 30; omega, by show l'.length ≤ 30; omega, fun y hy => ?_, by show es[x].t.text.size ≤ 30; omega⟩
      rw [hl'] at hy
      rcases List.mem_append.1 hy with h2 | h2
      · have := q3 y h2
        omega
      · rw [List.mem_singleton] at h2
        subst h2
        exact ⟨by show tN.size ≤ 30; omega, by show 1 ≤ 30; omega⟩

end

set_option maxRecDepth 8000 in
set_option maxHeartbeats 8000000 in
theorem cDrawAny (w0 : World) (a : Option Addr) (len cap b : Nat) (w : World) (hlen : len ≤ 4096) (hcr : CodeRow w0 a len) (hC : Cur w0 a len cap b w) :
    Calls Tryz.prog 43 #[.pointer (some ⟨b, 0, none⟩)] w (DrawnT w0 a len cap b w) := by
  have HR := hid hcr
  have HC := hid hC
  obtain ⟨i0, hi, hz0, hz1, hz2⟩ := info_parts infoAtW
  have HI := hid (And.intro hi (And.intro hz0 (And.intro hz1 hz2)))
  clear hcr hC hi hz0 hz1 hz2
  go_enter Tryz.func43, Tryz.ntmps43
  go_wp2_with fail
  refine (cDraw8 w0 a len cap b _ hlen HR.out HC.out).mono ?_
  rintro e w1 ⟨a1, cv, es, at_, rfl, h1, h11, hN⟩
  obtain ⟨g, c2, e1, -, -, hcv, -⟩ := own_pos hN.row.own (by omega)
  cases e1
  obtain ⟨m, hm⟩ : ∃ m, es.length = m + 1 := ⟨es.length - 1, by omega⟩
  rw [hm] at hN h11 hcv ⊢
  have HCV := hid hcv
  have HM := hid hm
  have HN1 := hid hN
  clear hm hN h1 hcv
  go_wp2_with fail
  refine (cOnce 8 w0 a len cap b _ hlen HR.out HN1.out.c.cur (by omega) (by omega)).mono ?_
  rintro e w2 ⟨B2, rfl, hC2, hG2⟩
  have HN2 := hid (HN1.out.draw hC2 hG2)
  clear hC2 hG2 HN1
  cases B2
  · go_wp2_with fail
    go_ret
    exact any_same HN2.out HM.out h11 _ rfl
  have CB := hid (cBelow (m + 1) w0 a len cap b w2 hlen HR.out HN2.out.c.cur (by omega) (by omega))
  go_wp2_with fail
  refine CB.out.mono ?_
  rintro e w3 ⟨x, rfl, hx3, hC3, hG3⟩
  have HN3 := hid (HN2.out.draw hC3 hG3)
  clear hC3 hG3 HN2 CB
  have hxi : (x : Int) < ((m + 1 : Nat) : Int) := by omega
  have HX := hid (show x < es.length by rw [HM.out]; exact hx3)
  go_wp2_with fail
  refine (cBelow 5 w0 a len cap b _ hlen HR.out HN3.out.c.cur (by omega) (by omega)).mono ?_
  rintro e w4 ⟨y, rfl, hy4, hC4, hG4⟩
  have HN4 := hid (HN3.out.draw hC4 hG4)
  clear hC4 hG4 HN3
  rcases (show y = 0 ∨ y = 1 ∨ y = 2 ∨ y = 3 ∨ y = 4 by omega) with rfl | rfl | rfl | rfl | rfl
  · go_wp2_with fail
    refine (cFromA (-2) 8 5 (by omega) (by omega) (by omega) (by omega) (by omega) w0 a len cap b _ hlen HR.out HN4.out.c.cur).mono ?_
    rintro e w5 ⟨z, rfl, hz1, hz2, hC5, hG5⟩
    have HN5 := hid (HN4.out.draw hC5 hG5)
    obtain ⟨⟨s0, s1, s2, s3⟩, sf⟩ := slot_of HN5.out HM.out HX.out
    have sf0 := sf (x * 4)
    clear hC5 hG5 s1 s2 s3 sf
    go_wp2_with fail
    go_ret
    exact any_set HN5.out HM.out HX.out h11 (f := 0) (by omega) (u := .int .i64 z) (t' := ⟨z, (es[x]'HX.out).t.name, (es[x]'HX.out).t.attrs, (es[x]'HX.out).t.text⟩) rfl rfl (by
      obtain ⟨q1, q2, q3, q4⟩ := HN5.out.sz _ (List.getElem_mem HX.out)
      exact ⟨by show (es[x]'HX.out).t.name.size ≤ 30; omega, by show (es[x]'HX.out).t.attrs.length ≤ 30; omega, fun y hy => by have := q3 y hy; omega, by show (es[x]'HX.out).t.text.size ≤ 30; omega⟩) _ rfl
  · go_wp2_with fail
    refine (cName w0 a len cap b _ hlen HR.out HN4.out.c.cur).mono ?_
    rintro e w5 ⟨z, rfl, hz1, hC5, hG5⟩
    have HN5 := hid (HN4.out.draw hC5 hG5)
    obtain ⟨⟨s0, s1, s2, s3⟩, sf⟩ := slot_of HN5.out HM.out HX.out
    have sf0 := sf (x * 4 + 1)
    clear hC5 hG5 s0 s2 s3 sf
    go_wp2_with fail
    go_ret
    exact any_set HN5.out HM.out HX.out h11 (f := 1) (by omega) (u := .string z) (t' := ⟨(es[x]'HX.out).t.kind, z, (es[x]'HX.out).t.attrs, (es[x]'HX.out).t.text⟩) rfl rfl (by
      obtain ⟨q1, q2, q3, q4⟩ := HN5.out.sz _ (List.getElem_mem HX.out)
      exact ⟨by show z.size ≤ 30; omega, by show (es[x]'HX.out).t.attrs.length ≤ 30; omega, fun y hy => by have := q3 y hy; omega, by show (es[x]'HX.out).t.text.size ≤ 30; omega⟩) _ rfl
  · go_wp2_with fail
    refine (cText ⟨#[97, 98]⟩ 3 w0 a len cap b _ (by omega) (by omega) (by decide) (by decide) hlen HR.out HN4.out.c.cur).mono ?_
    rintro e w5 ⟨z, rfl, hz1, hC5, hG5⟩
    have HN5 := hid (HN4.out.draw hC5 hG5)
    obtain ⟨⟨s0, s1, s2, s3⟩, sf⟩ := slot_of HN5.out HM.out HX.out
    have sf0 := sf (x * 4 + 3)
    clear hC5 hG5 s0 s1 s2 sf
    go_wp2_with fail
    go_ret
    exact any_set HN5.out HM.out HX.out h11 (f := 3) (by omega) (u := .string z) (t' := ⟨(es[x]'HX.out).t.kind, (es[x]'HX.out).t.name, (es[x]'HX.out).t.attrs, z⟩) rfl rfl (by
      obtain ⟨q1, q2, q3, q4⟩ := HN5.out.sz _ (List.getElem_mem HX.out)
      exact ⟨by show (es[x]'HX.out).t.name.size ≤ 30; omega, by show (es[x]'HX.out).t.attrs.length ≤ 30; omega, fun y hy => by have := q3 y hy; omega, by show z.size ≤ 30; omega⟩) _ rfl
  · go_upto_region 12 with fail
    have HAL := hid (HN4.out.sz _ (List.getElem_mem HX.out)).2.1
    refine wp_region_held_drew (S := fun _ => True) (by kernel_rfl) trivial (fun _ => ?_)
    have HS := hid (show NSt w0 a len cap b w w4.drew (.slice (some ⟨g, 0, none⟩) (m + 1) cv) es at_ from HN4.out.drewN 1)
    generalize w4.drew = W at *
    refine wpAnyH_take (i := 0) (v := ?_) rfl (by kernel_rfl) (by kernel_rfl) (by kernel_rfl) (fun _ _ _ h => h) (Or.inl ⟨by rfl, ?_⟩) trivial ?_
    rotate_left
    · intro w hSw
      go_simp
      try (with_reducible rfl)
    try simp only [Act.put, List.setIfInBounds_toArray, List.set_cons_zero, List.set_cons_succ]
    refine wpAnyH_take (i := 1) (v := ?_) rfl (by kernel_rfl) (by kernel_rfl) (by kernel_rfl) (fun _ _ _ h => h) (Or.inl ⟨by rfl, ?_⟩) trivial ?_
    rotate_left
    · intro w hSw
      go_simp
      try (with_reducible rfl)
    try simp only [Act.put, List.setIfInBounds_toArray, List.set_cons_zero, List.set_cons_succ]
    refine wpAnyH_take (i := 5) (v := ?_) rfl (by kernel_rfl) (by kernel_rfl) (by kernel_rfl) (fun _ _ _ h => h) (Or.inl ⟨by rfl, ?_⟩) trivial ?_
    rotate_left
    · intro w hSw
      go_simp
      try (with_reducible rfl)
    try simp only [Act.put, List.setIfInBounds_toArray, List.set_cons_zero, List.set_cons_succ]
    refine wpAnyH_take (i := 2) (v := ?_) rfl (by kernel_rfl) (by kernel_rfl) (by kernel_rfl) (fun _ _ _ h => h) (Or.inl ⟨by rfl, ?_⟩) trivial ?_
    rotate_left
    · intro w hSw
      go_simp
      try (with_reducible rfl)
    try simp only [Act.put, List.setIfInBounds_toArray, List.set_cons_zero, List.set_cons_succ]
    refine wpAnyH_take (i := 3) (v := ?_) rfl (by kernel_rfl) (by kernel_rfl) (by kernel_rfl) (fun _ _ _ h => h) (Or.inl ⟨by rfl, ?_⟩) trivial ?_
    rotate_left
    · intro w hSw
      go_simp
      try (with_reducible rfl)
    try simp only [Act.put, List.setIfInBounds_toArray, List.set_cons_zero, List.set_cons_succ]
    refine wpAnyH_ready (rs := [4, 6]) (by kernel_rfl) (by simp) (AllReadyH.cons rfl (fun K hK => ?_) (AllReadyH.cons rfl (fun K hK => ?_) AllReadyH.nil))
    · have cF := (slot_of HS.out HM.out HX.out).1.2.2.1
      go_simp
      refine hK.out _ _ trivial (fun _ => ?_)
      clear hK K
      try simp only [Act.put, List.setIfInBounds_toArray, List.set_cons_zero, List.set_cons_succ]
      clear cF
      refine wpAnyH_ready (rs := [6]) (by kernel_rfl) (by simp) (AllReadyH.cons rfl (fun K hK => ?_) AllReadyH.nil)
      · go_simp
        refine (cName w0 a len cap b _ hlen HR.out HS.out.c.cur).mono ?_
        rintro e W2 ⟨tN, rfl, htN, hC, hG⟩
        replace HS := hid (HS.out.draw hC hG)
        clear hC hG
        go_wp2_with fail
        refine hK.out _ _ trivial (fun _ => ?_)
        clear hK K
        try simp only [Act.put, List.setIfInBounds_toArray, List.set_cons_zero, List.set_cons_succ]
        generalize W2 = W at *
        refine wpAnyH_take (i := 7) (v := ?_) rfl (by kernel_rfl) (by kernel_rfl) (by kernel_rfl) (fun _ _ _ h => h) (Or.inl ⟨by rfl, ?_⟩) trivial ?_
        rotate_left
        · intro w hSw
          go_simp
          try (with_reducible rfl)
        try simp only [Act.put, List.setIfInBounds_toArray, List.set_cons_zero, List.set_cons_succ]
        refine wpAnyH_ready (rs := [8]) (by kernel_rfl) (by simp) (AllReadyH.cons rfl (fun K hK => ?_) AllReadyH.nil)
        · have HNE := hid (two_cells W (.string tN) (.string ⟨#[118]⟩) 114)
          have HZW := hid (show w.heap.size ≤ (W.alloc (.cells #[.string tN, .string ⟨#[118]⟩] 114)).heap.size from (HS.out.alloc (.cells #[.string tN, .string ⟨#[118]⟩] 114)).c.gr.size)
          go_simp
          refine hK.out _ _ trivial (fun _ => ?_)
          clear hK K
          try simp only [Act.put, List.setIfInBounds_toArray, List.set_cons_zero, List.set_cons_succ]
          replace HS := hid (HS.out.alloc (.cells #[.string tN, .string ⟨#[118]⟩] 114))
          generalize W.heap.size = gn at *
          generalize W.alloc (.cells #[.string tN, .string ⟨#[118]⟩] 114) = W at *
          refine wpAnyH_ready (rs := [9]) (by kernel_rfl) (by simp) (AllReadyH.cons rfl (fun K hK => ?_) AllReadyH.nil)
          · refine step_app_at rfl (.tmp 44) (.tmp 48) 40 rfl w.heap.size 114 i0 _ 2 32 Tryz.underlying40 HI.out.1 HI.out.2.1 HI.out.2.2.1 HI.out.2.2.2 rfl (by decide) (.slice (es[x]'HX.out).a (es[x]'HX.out).t.attrs.length (es[x]'HX.out).cap) (es[x]'HX.out).t.attrs.length (atC (es[x]'HX.out).t.attrs) (by simp [Act.eval, Act.put]) (HS.out.own _ (List.getElem_mem HX.out)) ⟨gn, 0, none⟩ 1 1 [.string tN, .string ⟨#[118]⟩] (by simp [Act.eval, Act.put]) rfl HNE.out (two_oneY tN) (by have := HAL.out; unfold maxLen; omega) (by have := HAL.out; omega) HZW.out ?_
            intro v7 w7 hown7 hgrow7 _
            have H7 := hid (any_app HS.out HM.out HX.out h11 htN hown7 hgrow7)
            obtain ⟨a7, c7, hv7⟩ := own_len hown7
            obtain ⟨⟨s0, s1, s2, s3⟩, sf⟩ := slot_grown HS.out HM.out HX.out hgrow7
            have sf2 := sf (x * 4 + 2)
            subst hv7
            clear hown7 hgrow7 sf s0 s1 s3
            refine hK.out _ _ trivial (fun _ => ?_)
            clear hK K
            try simp only [Act.put, List.setIfInBounds_toArray, List.set_cons_zero, List.set_cons_succ]
            refine wpAnyH_take (i := 10) (v := ?_) rfl (by kernel_rfl) (by kernel_rfl) (by kernel_rfl) (fun _ _ _ h => h) (Or.inl ⟨by rfl, ?_⟩) trivial ?_
            rotate_left
            · intro w hSw
              go_simp
              try (with_reducible rfl)
            try simp only [Act.put, List.setIfInBounds_toArray, List.set_cons_zero, List.set_cons_succ]
            refine wpAnyH_take (i := 11) (v := ?_) rfl (by kernel_rfl) (by kernel_rfl) (by kernel_rfl) (fun _ _ _ h => h) (Or.inl ⟨by rfl, ?_⟩) trivial ?_
            rotate_left
            · intro w hSw
              go_simp
              try (with_reducible rfl)
            try simp only [Act.put, List.setIfInBounds_toArray, List.set_cons_zero, List.set_cons_succ]
            refine wpAnyH_ready (rs := [12]) (by kernel_rfl) (by simp) (AllReadyH.cons rfl (fun K hK => ?_) AllReadyH.nil)
            · go_simp
              refine hK.out _ _ trivial (fun _ => ?_)
              clear hK K
              try simp only [Act.put, List.setIfInBounds_toArray, List.set_cons_zero, List.set_cons_succ]
              refine wpAnyH_done (by kernel_rfl) ?_ _
              go_wp2_with fail
              go_ret
              exact H7.out _ _ rfl _ rfl
    · go_simp
      refine (cName w0 a len cap b _ hlen HR.out HS.out.c.cur).mono ?_
      rintro e W2 ⟨tN, rfl, htN, hC, hG⟩
      replace HS := hid (HS.out.draw hC hG)
      clear hC hG
      go_wp2_with fail
      refine hK.out _ _ trivial (fun _ => ?_)
      clear hK K
      try simp only [Act.put, List.setIfInBounds_toArray, List.set_cons_zero, List.set_cons_succ]
      generalize W2 = W at *
      refine wpAnyH_take (i := 7) (v := ?_) rfl (by kernel_rfl) (by kernel_rfl) (by kernel_rfl) (fun _ _ _ h => h) (Or.inl ⟨by rfl, ?_⟩) trivial ?_
      rotate_left
      · intro w hSw
        go_simp
        try (with_reducible rfl)
      try simp only [Act.put, List.setIfInBounds_toArray, List.set_cons_zero, List.set_cons_succ]
      refine wpAnyH_ready (rs := [4, 8]) (by kernel_rfl) (by simp) (AllReadyH.cons rfl (fun K hK => ?_) (AllReadyH.cons rfl (fun K hK => ?_) AllReadyH.nil))
      · have cF := (slot_of HS.out HM.out HX.out).1.2.2.1
        go_simp
        refine hK.out _ _ trivial (fun _ => ?_)
        clear hK K
        try simp only [Act.put, List.setIfInBounds_toArray, List.set_cons_zero, List.set_cons_succ]
        clear cF
        refine wpAnyH_ready (rs := [8]) (by kernel_rfl) (by simp) (AllReadyH.cons rfl (fun K hK => ?_) AllReadyH.nil)
        · have HNE := hid (two_cells W (.string tN) (.string ⟨#[118]⟩) 114)
          have HZW := hid (show w.heap.size ≤ (W.alloc (.cells #[.string tN, .string ⟨#[118]⟩] 114)).heap.size from (HS.out.alloc (.cells #[.string tN, .string ⟨#[118]⟩] 114)).c.gr.size)
          go_simp
          refine hK.out _ _ trivial (fun _ => ?_)
          clear hK K
          try simp only [Act.put, List.setIfInBounds_toArray, List.set_cons_zero, List.set_cons_succ]
          replace HS := hid (HS.out.alloc (.cells #[.string tN, .string ⟨#[118]⟩] 114))
          generalize W.heap.size = gn at *
          generalize W.alloc (.cells #[.string tN, .string ⟨#[118]⟩] 114) = W at *
          refine wpAnyH_ready (rs := [9]) (by kernel_rfl) (by simp) (AllReadyH.cons rfl (fun K hK => ?_) AllReadyH.nil)
          · refine step_app_at rfl (.tmp 44) (.tmp 48) 40 rfl w.heap.size 114 i0 _ 2 32 Tryz.underlying40 HI.out.1 HI.out.2.1 HI.out.2.2.1 HI.out.2.2.2 rfl (by decide) (.slice (es[x]'HX.out).a (es[x]'HX.out).t.attrs.length (es[x]'HX.out).cap) (es[x]'HX.out).t.attrs.length (atC (es[x]'HX.out).t.attrs) (by simp [Act.eval, Act.put]) (HS.out.own _ (List.getElem_mem HX.out)) ⟨gn, 0, none⟩ 1 1 [.string tN, .string ⟨#[118]⟩] (by simp [Act.eval, Act.put]) rfl HNE.out (two_oneY tN) (by have := HAL.out; unfold maxLen; omega) (by have := HAL.out; omega) HZW.out ?_
            intro v7 w7 hown7 hgrow7 _
            have H7 := hid (any_app HS.out HM.out HX.out h11 htN hown7 hgrow7)
            obtain ⟨a7, c7, hv7⟩ := own_len hown7
            obtain ⟨⟨s0, s1, s2, s3⟩, sf⟩ := slot_grown HS.out HM.out HX.out hgrow7
            have sf2 := sf (x * 4 + 2)
            subst hv7
            clear hown7 hgrow7 sf s0 s1 s3
            refine hK.out _ _ trivial (fun _ => ?_)
            clear hK K
            try simp only [Act.put, List.setIfInBounds_toArray, List.set_cons_zero, List.set_cons_succ]
            refine wpAnyH_take (i := 10) (v := ?_) rfl (by kernel_rfl) (by kernel_rfl) (by kernel_rfl) (fun _ _ _ h => h) (Or.inl ⟨by rfl, ?_⟩) trivial ?_
            rotate_left
            · intro w hSw
              go_simp
              try (with_reducible rfl)
            try simp only [Act.put, List.setIfInBounds_toArray, List.set_cons_zero, List.set_cons_succ]
            refine wpAnyH_take (i := 11) (v := ?_) rfl (by kernel_rfl) (by kernel_rfl) (by kernel_rfl) (fun _ _ _ h => h) (Or.inl ⟨by rfl, ?_⟩) trivial ?_
            rotate_left
            · intro w hSw
              go_simp
              try (with_reducible rfl)
            try simp only [Act.put, List.setIfInBounds_toArray, List.set_cons_zero, List.set_cons_succ]
            refine wpAnyH_ready (rs := [12]) (by kernel_rfl) (by simp) (AllReadyH.cons rfl (fun K hK => ?_) AllReadyH.nil)
            · go_simp
              refine hK.out _ _ trivial (fun _ => ?_)
              clear hK K
              try simp only [Act.put, List.setIfInBounds_toArray, List.set_cons_zero, List.set_cons_succ]
              refine wpAnyH_done (by kernel_rfl) ?_ _
              go_wp2_with fail
              go_ret
              exact H7.out _ _ rfl _ rfl
      · have HNE := hid (two_cells W (.string tN) (.string ⟨#[118]⟩) 114)
        have HZW := hid (show w.heap.size ≤ (W.alloc (.cells #[.string tN, .string ⟨#[118]⟩] 114)).heap.size from (HS.out.alloc (.cells #[.string tN, .string ⟨#[118]⟩] 114)).c.gr.size)
        go_simp
        refine hK.out _ _ trivial (fun _ => ?_)
        clear hK K
        try simp only [Act.put, List.setIfInBounds_toArray, List.set_cons_zero, List.set_cons_succ]
        replace HS := hid (HS.out.alloc (.cells #[.string tN, .string ⟨#[118]⟩] 114))
        generalize W.heap.size = gn at *
        generalize W.alloc (.cells #[.string tN, .string ⟨#[118]⟩] 114) = W at *
        refine wpAnyH_ready (rs := [4]) (by kernel_rfl) (by simp) (AllReadyH.cons rfl (fun K hK => ?_) AllReadyH.nil)
        · have cF := (slot_of HS.out HM.out HX.out).1.2.2.1
          go_simp
          refine hK.out _ _ trivial (fun _ => ?_)
          clear hK K
          try simp only [Act.put, List.setIfInBounds_toArray, List.set_cons_zero, List.set_cons_succ]
          clear cF
          refine wpAnyH_ready (rs := [9]) (by kernel_rfl) (by simp) (AllReadyH.cons rfl (fun K hK => ?_) AllReadyH.nil)
          · refine step_app_at rfl (.tmp 44) (.tmp 48) 40 rfl w.heap.size 114 i0 _ 2 32 Tryz.underlying40 HI.out.1 HI.out.2.1 HI.out.2.2.1 HI.out.2.2.2 rfl (by decide) (.slice (es[x]'HX.out).a (es[x]'HX.out).t.attrs.length (es[x]'HX.out).cap) (es[x]'HX.out).t.attrs.length (atC (es[x]'HX.out).t.attrs) (by simp [Act.eval, Act.put]) (HS.out.own _ (List.getElem_mem HX.out)) ⟨gn, 0, none⟩ 1 1 [.string tN, .string ⟨#[118]⟩] (by simp [Act.eval, Act.put]) rfl HNE.out (two_oneY tN) (by have := HAL.out; unfold maxLen; omega) (by have := HAL.out; omega) HZW.out ?_
            intro v7 w7 hown7 hgrow7 _
            have H7 := hid (any_app HS.out HM.out HX.out h11 htN hown7 hgrow7)
            obtain ⟨a7, c7, hv7⟩ := own_len hown7
            obtain ⟨⟨s0, s1, s2, s3⟩, sf⟩ := slot_grown HS.out HM.out HX.out hgrow7
            have sf2 := sf (x * 4 + 2)
            subst hv7
            clear hown7 hgrow7 sf s0 s1 s3
            refine hK.out _ _ trivial (fun _ => ?_)
            clear hK K
            try simp only [Act.put, List.setIfInBounds_toArray, List.set_cons_zero, List.set_cons_succ]
            refine wpAnyH_take (i := 10) (v := ?_) rfl (by kernel_rfl) (by kernel_rfl) (by kernel_rfl) (fun _ _ _ h => h) (Or.inl ⟨by rfl, ?_⟩) trivial ?_
            rotate_left
            · intro w hSw
              go_simp
              try (with_reducible rfl)
            try simp only [Act.put, List.setIfInBounds_toArray, List.set_cons_zero, List.set_cons_succ]
            refine wpAnyH_take (i := 11) (v := ?_) rfl (by kernel_rfl) (by kernel_rfl) (by kernel_rfl) (fun _ _ _ h => h) (Or.inl ⟨by rfl, ?_⟩) trivial ?_
            rotate_left
            · intro w hSw
              go_simp
              try (with_reducible rfl)
            try simp only [Act.put, List.setIfInBounds_toArray, List.set_cons_zero, List.set_cons_succ]
            refine wpAnyH_ready (rs := [12]) (by kernel_rfl) (by simp) (AllReadyH.cons rfl (fun K hK => ?_) AllReadyH.nil)
            · go_simp
              refine hK.out _ _ trivial (fun _ => ?_)
              clear hK K
              try simp only [Act.put, List.setIfInBounds_toArray, List.set_cons_zero, List.set_cons_succ]
              refine wpAnyH_done (by kernel_rfl) ?_ _
              go_wp2_with fail
              go_ret
              exact H7.out _ _ rfl _ rfl
  · by_cases hc1 : cv = 1
    · obtain rfl : m = 0 := by have := HCV.out; omega
      subst hc1
      go_wp2_with fail
      go_ret
      exact any_nil HN4.out _ _ _ rfl (by unfold maxLen; omega)
    · go_wp2_with fail
      go_ret
      exact any_less HN4.out HM.out h11 _ _ rfl rfl

/-- A place in a tree, or beside it. -/
theorem cDrawAt (a' : Option Addr) (n c' : Nat) (hn : n ≤ 11) (w0 : World) (a : Option Addr) (len cap b : Nat) (w : World) (hlen : len ≤ 4096) (hcr : CodeRow w0 a len) (hC : Cur w0 a len cap b w) :
    Calls Tryz.prog 69 #[.pointer (some ⟨b, 0, none⟩), .slice a' n c'] w fun e w' => ∃ x : Int, e = .returned (.int .i64 x) ∧ -1 ≤ x ∧ x ≤ 12 ∧ Cur w0 a len cap b w' ∧ w.grownBy w' (some b) := by
  have HR := hid hcr
  have HC := hid hC
  clear hcr hC
  by_cases h0 : n = 0
  · subst h0
    go_enter Tryz.func69, Tryz.ntmps69
    go_wp2_with fail
    refine (cFromA (-1) 14 12 (by omega) (by omega) (by omega) (by omega) (by omega) w0 a len cap b _ hlen HR.out HC.out).mono ?_
    rintro e w1 ⟨x, rfl, hx1, hx2, hC1, hG1⟩
    have HC1 := hid hC1
    have HG1 := hid hG1
    clear hC1 hG1
    go_wp2_with fail
    go_ret
    exact ⟨_, rfl, hx1, hx2, HC1.out, HG1.out⟩
  · have hd : decide ((0 : Int) < (n : Int)) = true := decide_eq_true (by omega)
    have hp : (0 : Int) < (n : Int) := by omega
    have CB := hid (fun wx (h : Cur w0 a len cap b wx) => cBelow n w0 a len cap b wx hlen HR.out h (by omega) (by omega))
    go_enter Tryz.func69, Tryz.ntmps69
    go_wp2_with fail
    refine (cOnce 10 w0 a len cap b _ hlen HR.out HC.out (by omega) (by omega)).mono ?_
    rintro e w1 ⟨B1, rfl, hC1, hG1⟩
    have HC1 := hid hC1
    have HG1 := hid hG1
    clear hC1 hG1
    cases B1
    · go_wp2_with fail
      refine (CB.out _ HC1.out).mono ?_
      rintro e w2 ⟨x, rfl, hx, hC2, hG2⟩
      have HX := hid hx
      have HC2 := hid hC2
      have HG2 := hid (gtrans HG1.out hG2)
      clear hC2 hG2 hx
      go_wp2_with fail
      go_ret
      exact ⟨_, rfl, by omega, by have := HX.out; omega, HC2.out, HG2.out⟩
    · go_wp2_with fail
      refine (cFromA (-1) 14 12 (by omega) (by omega) (by omega) (by omega) (by omega) w0 a len cap b _ hlen HR.out HC1.out).mono ?_
      rintro e w2 ⟨x, rfl, hx1, hx2, hC2, hG2⟩
      have HC2 := hid hC2
      have HG2 := hid (gtrans HG1.out hG2)
      clear hC2 hG2
      go_wp2_with fail
      go_ret
      exact ⟨_, rfl, hx1, hx2, HC2.out, HG2.out⟩

theorem cur_str {w0 : World} {a : Option Addr} {len cap b : Nat} {w1 : World} (hC : Cur w0 a len cap b w1) {g k : Nat} {t : ByteArray} (h : w1.cell? ⟨g, k, none⟩ = some (.string t)) : some b ≠ some g := by
  intro e
  cases e
  obtain ⟨_, _, i, x, _, _, hh⟩ := hC
  rw [Lib.cell_of_heap hh] at h
  match k, h with
  | 0, h => simp at h
  | 1, h => simp at h
  | 2, h => simp at h
  | k + 3, h => simp at h

/-- What was drawn stays when the cursor goes on. -/
theorem tk_keep {w0 w1 w2 : World} {a : Option Addr} {len cap b : Nat} {a' : Option Addr} {ts : List Tk} (h : TkRow w1 a' ts) (hC : Cur w0 a len cap b w1) (hg : w1.grownBy w2 (some b)) : TkRow w2 a' ts := by
  intro j hj
  obtain ⟨g, o, aa, ca, e, hlt, q0, q1, q2, q3, q4⟩ := h j hj
  have hne := cur_str hC q1
  exact ⟨g, o, aa, ca, e, Nat.lt_of_lt_of_le hlt hg.size, cell_grownR hg q0 hlt hne, cell_grownR hg q1 hlt hne, cell_grownR hg q2 hlt hne, cell_grownR hg q3 hlt hne, fun i hi => by
    obtain ⟨g1, o1, e1, hl1, p1, p2⟩ := q4 i hi
    exact ⟨g1, o1, e1, Nat.lt_of_lt_of_le hl1 hg.size, cell_grownR hg p1 hl1 (cur_str hC p1), cell_grownR hg p2 hl1 (cur_str hC p2)⟩⟩

end Go.Proofs.YteninofjeidljaaGreat
