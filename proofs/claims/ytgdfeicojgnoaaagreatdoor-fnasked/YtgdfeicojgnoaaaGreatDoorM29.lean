/- What a gate is that is being drawn. The specification's l17New: a gate is drawn. The specification's l17DrawAny: any gate is drawn. -/
import Derived.Test.YtgdfeicojgnoaaaGreatDoorM14
import Derived.Test.YtgdfeicojgnoaaaGreatDoorM17
import Derived.Test.YtgdfeicojgnoaaaGreatDoorM18
import Derived.Test.YtgdfeicojgnoaaaGreatDoorM21
import Derived.Test.YtgdfeicojgnoaaaGreatDoorM28
namespace Go.Proofs.YtgdfeicojgnoaaaGreatDoor
open Go.RowKit
set_option linter.unusedVariables false
set_option linter.unusedSimpArgs false

/-- How small a drawn gate is. -/
structure GtS (p n m : Nat) (g : Gt) : Prop where
  nm : g.name.size ≤ 10
  hl : g.hands.length ≤ p
  hz : HdSz 10 g.hands
  al : g.ask.rows.length ≤ n
  az : RoSz 10 g.ask.rows
  rl : g.hrd.rows.length ≤ m
  rz : RoSz 10 g.hrd.rows

theorem own_neT {w : World} {B n P : Nat} {v : Value} {xs : List Value} {E T : TypeId} {s : Nat} {cs : Array Value} (h : w.ownsRow B E s v n xs) (hP : w.heap[P]? = some (.cells cs T (0, 0))) (hT : ¬ T = E) : v.ownBlock ≠ some P := fun e => by
  rcases h.2 with ⟨e1, _⟩ | ⟨g, cp, cur, e1, _, k2, _⟩
  · rw [e1] at e; cases e
  · rw [e1] at e
    have h1 : g = P := Option.some.inj e
    subst h1
    rw [hP] at k2
    injection k2 with k2
    injection k2 with _ ht
    exact hT ht

theorem own_neC {w0 w : World} {a : Option Addr} {len cap b B n : Nat} {v : Value} {xs : List Value} {E : TypeId} {s : Nat} (h : w.ownsRow B E s v n xs) (hC : Cur w0 a len cap b w) (hT : ¬ 94 = E) : v.ownBlock ≠ some b := by
  obtain ⟨_, _, i, x, _, _, hh⟩ := hC
  exact own_neT h hh hT

theorem Cur.neT {w0 : World} {a : Option Addr} {len cap b : Nat} {w : World} (h : Cur w0 a len cap b w) {P : Nat} {cs : Array Value} {T : TypeId} (hP : w.heap[P]? = some (.cells cs T (0, 0))) (hT : ¬ 94 = T) : ¬ b = P := fun e => by
  subst e
  obtain ⟨_, _, i, x, _, _, hh⟩ := h
  rw [hP] at hh
  injection hh with hh
  injection hh with _ ht
  exact hT ht.symm

theorem keep_grown {w w' : World} {P : Nat} (hk : u_KeepB (fun k => k = P) w w') : w.grownBy w' (some P) := ⟨hk.os, hk.tape, hk.output, hk.size, fun k h1 h2 => hk.block k h1 (fun e => h2 (by rw [e]))⟩

theorem own_kp {w w' : World} {B n P : Nat} {v : Value} {xs : List Value} {E : TypeId} {s : Nat} (h : w.ownsRow B E s v n xs) (hk : u_KeepB (fun k => k = P) w w') (hne : v.ownBlock ≠ some P) : w'.ownsRow B E s v n xs := h.kept (keep_grown hk) (.inr hne)

theorem GtO.draw {w0 w w' : World} {a : Option Addr} {len cap b B : Nat} {g : Gt} {ah : Option Addr} {ch : Nat} {aa : Option Addr} {ca : Nat} {ar : Option Addr} {cr : Nat} (h : GtO w B g ah ch aa ca ar cr) (hC : Cur w0 a len cap b w) (hg : w.grownBy w' (some b)) : GtO w' B g ah ch aa ca ar cr :=
  ⟨h.h.kept hg (.inr (own_neC h.h hC (by decide))), h.a.kept hg (.inr (own_neC h.a hC (by decide))), h.r.kept hg (.inr (own_neC h.r hC (by decide)))⟩

theorem GtO.keepP {w w' : World} {B P : Nat} {cs : Array Value} {g : Gt} {ah : Option Addr} {ch : Nat} {aa : Option Addr} {ca : Nat} {ar : Option Addr} {cr : Nat} (h : GtO w B g ah ch aa ca ar cr) (hP : w.heap[P]? = some (.cells cs 29 (0, 0))) (hk : u_KeepB (fun k => k = P) w w') : GtO w' B g ah ch aa ca ar cr :=
  ⟨own_kp h.h hk (own_neT h.h hP (by decide)), own_kp h.a hk (own_neT h.a hP (by decide)), own_kp h.r hk (own_neT h.r hP (by decide))⟩

/-- Where the drawing of a gate stands: the gate in P, the result's box in R, the cursor, what grew. -/
structure GrSt (w0 : World) (a : Option Addr) (len cap b : Nat) (w wr : World) (P R : Nat) (g : Gt) (ah : Option Addr) (ch : Nat) (aa : Option Addr) (ca : Nat) (ar : Option Addr) (cr : Nat) : Prop where
  p : wr.heap[P]? = some (.cells #[.string g.name, .slice ah g.hands.length ch, .int .i64 g.skew, .int .i64 g.now, .int .i64 g.ask.most, .slice aa g.ask.rows.length ca, .int .i64 g.hrd.most, .slice ar g.hrd.rows.length cr] 29 (0, 0))
  o : GtO wr w.heap.size g ah ch aa ca ar cr
  c : Cur w0 a len cap b wr
  g : w.grownBy wr (some b)
  r : wr.heap[R]? = some (.cells #[.string ⟨#[]⟩, .slice none 0 0, .int .i64 0, .int .i64 0, .int .i64 0, .slice none 0 0, .int .i64 0, .slice none 0 0] 29 (0, 0))

section
variable {w0 : World} {a : Option Addr} {len cap b : Nat} {w wr w' : World} {P R : Nat} {g : Gt} {ah : Option Addr} {ch : Nat} {aa : Option Addr} {ca : Nat} {ar : Option Addr} {cr : Nat}

theorem GrSt.draw (h : GrSt w0 a len cap b w wr P R g ah ch aa ca ar cr) (hC : Cur w0 a len cap b w') (hg : wr.grownBy w' (some b)) : GrSt w0 a len cap b w w' P R g ah ch aa ca ar cr :=
  ⟨blk_draw h.p hg (h.c.neT h.p (by decide)), h.o.draw h.c hg, hC, gtrans h.g hg, blk_draw h.r hg (h.c.neT h.r (by decide))⟩

theorem GrSt.below (h : GrSt w0 a len cap b w wr P R g ah ch aa ca ar cr) (hb : Below wr.heap.size wr w') : GrSt w0 a len cap b w w' P R g ah ch aa ca ar cr :=
  ⟨u_blk_below h.p hb, h.o.below hb, h.c.below hb, u_gr_below h.g hb, u_blk_below h.r hb⟩

/-- The gate's box is written. -/
theorem GrSt.put {g' : Gt} {ah' : Option Addr} {ch' : Nat} {aa' : Option Addr} {ca' : Nat} {ar' : Option Addr} {cr' : Nat} (h : GrSt w0 a len cap b w wr P R g ah ch aa ca ar cr) (h0 : w0.heap.size ≤ w.heap.size) (hP : w.heap.size ≤ P) (hRP : ¬ R = P) (hk : u_KeepB (fun k => k = P) wr w')
    (hp : w'.heap[P]? = some (.cells #[.string g'.name, .slice ah' g'.hands.length ch', .int .i64 g'.skew, .int .i64 g'.now, .int .i64 g'.ask.most, .slice aa' g'.ask.rows.length ca', .int .i64 g'.hrd.most, .slice ar' g'.hrd.rows.length cr'] 29 (0, 0))) (ho : GtO w' w.heap.size g' ah' ch' aa' ca' ar' cr') : GrSt w0 a len cap b w w' P R g' ah' ch' aa' ca' ar' cr' :=
  ⟨hp, ho, h.c.keepU hk (h.c.neT h.p (by decide)) (Nat.le_trans h0 hP), gr_keep h.g hk hP, (hk.block R (lt_of_heap h.r) hRP).trans h.r⟩

/-- One more letter is asked, or not. -/
theorem cEnterA (h : GrSt w0 a len cap b w wr P R g ah ch aa ca ar cr) (h0 : w0.heap.size ≤ w.heap.size) (hP : w.heap.size ≤ P) (hRP : ¬ R = P) (hn : g.ask.rows.length ≤ 100) (hz : RoSz 10 g.ask.rows) (id : ByteArray) (til : Int) (hi : id.size ≤ 10) :
    Calls Tryz.prog 36 #[.pointer (some ⟨P, 4, none⟩), .string id, .int .i64 til] wr fun e w' => ∃ (x : Int) (l' : List Ro) (aa' : Option Addr) (ca' : Nat), e = .returned (.int .i64 x) ∧ l'.length ≤ g.ask.rows.length + 1 ∧ RoSz 10 l' ∧ GrSt w0 a len cap b w w' P R ⟨g.name, g.hands, g.skew, g.now, ⟨g.ask.most, l'⟩, g.hrd⟩ ah ch aa' ca' ar cr := by
  refine (cEnterK4 P w.heap.size _ _ _ _ _ _ g.ask.most g.ask.rows _ id til wr h.p h.o.a hn hz hi h.g.size).mono ?_
  rintro e w' ⟨x, l', v', rfl, hp, ho, hl, hz', hk⟩
  obtain ⟨aa', ca', rfl⟩ := u_own_len ho
  have hk' := h.o.keepP h.p hk
  exact ⟨x, l', aa', ca', rfl, hl, hz', h.put (g' := ⟨g.name, g.hands, g.skew, g.now, ⟨g.ask.most, l'⟩, g.hrd⟩) h0 hP hRP hk hp ⟨hk'.h, ho, hk'.r⟩⟩

/-- One more letter is heard, or not. -/
theorem cEnterH (h : GrSt w0 a len cap b w wr P R g ah ch aa ca ar cr) (h0 : w0.heap.size ≤ w.heap.size) (hP : w.heap.size ≤ P) (hRP : ¬ R = P) (hn : g.hrd.rows.length ≤ 100) (hz : RoSz 10 g.hrd.rows) (id : ByteArray) (til : Int) (hi : id.size ≤ 10) :
    Calls Tryz.prog 36 #[.pointer (some ⟨P, 6, none⟩), .string id, .int .i64 til] wr fun e w' => ∃ (x : Int) (l' : List Ro) (ar' : Option Addr) (cr' : Nat), e = .returned (.int .i64 x) ∧ l'.length ≤ g.hrd.rows.length + 1 ∧ RoSz 10 l' ∧ GrSt w0 a len cap b w w' P R ⟨g.name, g.hands, g.skew, g.now, g.ask, ⟨g.hrd.most, l'⟩⟩ ah ch aa ca ar' cr' := by
  refine (cEnterK6 P w.heap.size _ _ _ _ _ _ g.hrd.most g.hrd.rows _ id til wr h.p h.o.r hn hz hi h.g.size).mono ?_
  rintro e w' ⟨x, l', v', rfl, hp, ho, hl, hz', hk⟩
  obtain ⟨ar', cr', rfl⟩ := u_own_len ho
  have hk' := h.o.keepP h.p hk
  exact ⟨x, l', ar', cr', rfl, hl, hz', h.put (g' := ⟨g.name, g.hands, g.skew, g.now, g.ask, ⟨g.hrd.most, l'⟩⟩) h0 hP hRP hk hp ⟨hk'.h, hk'.a, ho⟩⟩

end

theorem own_neO {w : World} {B B' n n' : Nat} {v v' : Value} {xs xs' : List Value} {E E' : TypeId} {s s' : Nat} (h : w.ownsRow B E s v n xs) (h' : w.ownsRow B' E' s' v' n' xs') (hT : ¬ E' = E) : v.ownBlock = none ∨ v.ownBlock ≠ v'.ownBlock := by
  rcases h'.2 with ⟨rfl, _⟩ | ⟨g, cp, cur, rfl, _, k2, _⟩
  · by_cases h1 : v.ownBlock = none
    · exact .inl h1
    · exact .inr h1
  · exact .inr (own_neT h k2 hT)

/-- The hands are grown, and laid into the gate's box. -/
theorem GrSt.hands {w0 : World} {a : Option Addr} {len cap b : Nat} {w wr w' : World} {P R : Nat} {nm : ByteArray} {hs l' : List Hd} {sk nw : Int} {A H : Tb} {ah : Option Addr} {ch : Nat} {aa : Option Addr} {ca : Nat} {ar : Option Addr} {cr : Nat} {a8 : Option Addr} {c8 : Nat} (h : GrSt w0 a len cap b w wr P R ⟨nm, hs, sk, nw, A, H⟩ ah ch aa ca ar cr) (h0 : w0.heap.size ≤ w.heap.size) (hP : w.heap.size ≤ P) (hRP : ¬ R = P)
    (ho : w'.ownsRow w.heap.size 72 4 (.slice a8 l'.length c8) l'.length (hdC l')) (hg : wr.grownBy w' (Value.slice ah hs.length ch).ownBlock) :
    w'.heap[P]? = some (.cells #[.string nm, .slice ah hs.length ch, .int .i64 sk, .int .i64 nw, .int .i64 A.most, .slice aa A.rows.length ca, .int .i64 H.most, .slice ar H.rows.length cr] 29 (0, 0)) ∧ GrSt w0 a len cap b w (w'.setCell ⟨P, 1, none⟩ (.slice a8 l'.length c8)) P R ⟨nm, l', sk, nw, A, H⟩ a8 c8 aa ca ar cr := by
  have hoh : wr.ownsRow w.heap.size 72 4 (.slice ah hs.length ch) hs.length (hdC hs) := h.o.h
  have hp : w'.heap[P]? = some (.cells #[.string nm, .slice ah hs.length ch, .int .i64 sk, .int .i64 nw, .int .i64 A.most, .slice aa A.rows.length ca, .int .i64 H.most, .slice ar H.rows.length cr] 29 (0, 0)) := (hg.block P (lt_of_heap h.p) (fun e => own_neT hoh h.p (by decide) e.symm)).trans h.p
  have hr := (hg.block R (lt_of_heap h.r) (fun e => own_neT hoh h.r (by decide) e.symm)).trans h.r
  have hc : Cur w0 a len cap b w' := h.c.grown hg (fun e => own_neC hoh h.c (by decide) e.symm) (fun k e => Nat.le_trans h0 (hoh.lt k e).1)
  have hG : w.grownBy w' (some b) := ⟨hg.os.trans h.g.os, hg.tape.trans h.g.tape, hg.output.trans h.g.output, Nat.le_trans h.g.size hg.size, fun i hi hr => (hg.block i (Nat.lt_of_lt_of_le hi h.g.size) (fun e => by have := (hoh.lt i e.symm).1; omega)).trans (h.g.block i hi hr)⟩
  have hk : u_KeepB (fun k => k = P) w' (w'.setCell ⟨P, 1, none⟩ (.slice a8 l'.length c8)) := u_KeepB.of_set (p := fun k => k = P) w' 1 _ rfl
  refine ⟨hp, u_heap_set (i := 1) hp _, ⟨own_kp ho hk (own_neT ho hp (by decide)), own_kp (h.o.a.kept hg (own_neO h.o.a hoh (by decide))) hk ?_, own_kp (h.o.r.kept hg (own_neO h.o.r hoh (by decide))) hk ?_⟩, hc.keepU hk (hc.neT hp (by decide)) (Nat.le_trans h0 hP), gr_keep hG hk hP, (hk.block R (lt_of_heap hr) hRP).trans hr⟩
  · exact own_neT (h.o.a.kept hg (own_neO h.o.a hoh (by decide))) hp (by decide)
  · exact own_neT (h.o.r.kept hg (own_neO h.o.r hoh (by decide))) hp (by decide)

/-- What a drawn gate is. -/
def GrPost (w0 : World) (a : Option Addr) (len cap b : Nat) (p n m : Nat) (w : World) (e : Ending) (w' : World) : Prop :=
  ∃ (g : Gt) (ah : Option Addr) (ch : Nat) (aa : Option Addr) (ca : Nat) (ar : Option Addr) (cr : Nat), e = .returned (gtV g ah ch aa ca ar cr) ∧ GtO w' w.heap.size g ah ch aa ca ar cr ∧ GtS p n m g ∧ Cur w0 a len cap b w' ∧ w.grownBy w' (some b)

/-- The end: what lies in P is laid into the result's box. -/
theorem gr_end {w0 : World} {a : Option Addr} {len cap b p n m : Nat} {w wr : World} {P R : Nat} {g : Gt} {ah : Option Addr} {ch : Nat} {aa : Option Addr} {ca : Nat} {ar : Option Addr} {cr : Nat} (h : GrSt w0 a len cap b w wr P R g ah ch aa ca ar cr) (h0 : w0.heap.size ≤ w.heap.size) (hRw : w.heap.size ≤ R) (hs : GtS p n m g) (v0 v1 v2 v3 v4 v5 v6 v7 : Value) :
    GrPost w0 a len cap b p n m w (.returned (gtV g ah ch aa ca ar cr)) ((((((((wr.setCell ⟨R, 0, none⟩ v0).setCell ⟨R, 1, none⟩ v1).setCell ⟨R, 2, none⟩ v2).setCell ⟨R, 3, none⟩ v3).setCell ⟨R, 4, none⟩ v4).setCell ⟨R, 5, none⟩ v5).setCell ⟨R, 6, none⟩ v6).setCell ⟨R, 7, none⟩ v7) := by
  have hk : u_KeepB (fun k => k = R) wr ((((((((wr.setCell ⟨R, 0, none⟩ v0).setCell ⟨R, 1, none⟩ v1).setCell ⟨R, 2, none⟩ v2).setCell ⟨R, 3, none⟩ v3).setCell ⟨R, 4, none⟩ v4).setCell ⟨R, 5, none⟩ v5).setCell ⟨R, 6, none⟩ v6).setCell ⟨R, 7, none⟩ v7) :=
    (((((((u_KeepB.of_set (p := fun k => k = R) wr 0 v0 rfl).trans (u_KeepB.of_set (p := fun k => k = R) _ 1 v1 rfl)).trans (u_KeepB.of_set (p := fun k => k = R) _ 2 v2 rfl)).trans (u_KeepB.of_set (p := fun k => k = R) _ 3 v3 rfl)).trans (u_KeepB.of_set (p := fun k => k = R) _ 4 v4 rfl)).trans (u_KeepB.of_set (p := fun k => k = R) _ 5 v5 rfl)).trans (u_KeepB.of_set (p := fun k => k = R) _ 6 v6 rfl)).trans (u_KeepB.of_set (p := fun k => k = R) _ 7 v7 rfl)
  exact ⟨g, ah, ch, aa, ca, ar, cr, rfl, h.o.keepP h.r hk, hs, h.c.keepU hk (h.c.neT h.r (by decide)) (Nat.le_trans h0 hRw), gr_keep h.g hk hRw⟩

end Go.Proofs.YtgdfeicojgnoaaaGreatDoor

namespace Go.Proofs.YtgdfeicojgnoaaaGreatDoor
open Go.RowKit
set_option linter.unusedVariables false
set_option linter.unusedSimpArgs false

theorem hd_two {w : World} {g : Nat} {x y : ByteArray} {n e n2 e2 : Int} (h : w.heap[g]? = some (.cells #[.string x, .int .i64 n, .int .i64 e, .int .i64 0, .string y, .int .i64 n2, .int .i64 e2, .int .i64 0] 72 (0, 0))) : HdRow w (some ⟨g, 0, none⟩) [⟨x, n, e, 0⟩, ⟨y, n2, e2, 0⟩] := by
  refine HdCells.row (cu := #[.string x, .int .i64 n, .int .i64 e, .int .i64 0, .string y, .int .i64 n2, .int .i64 e2, .int .i64 0]) (fun m hm => ?_) h
  have h2 : m < 2 := hm
  match m, h2 with
  | 0, _ => exact ⟨rfl, rfl, rfl, rfl⟩
  | 1, _ => exact ⟨rfl, rfl, rfl, rfl⟩

/-- A new gate's rows are empty, its time is 0. -/
theorem newG_new (x : ByteArray) (l : List Hd) (sk most : Int) : (newG x l sk most).1.ask.rows = [] ∧ (newG x l sk most).1.hrd.rows = [] ∧ (newG x l sk most).1.now = 0 ∧ ((newG x l sk most).1 = askG x l sk most ∨ (newG x l sk most).1 = zeroG) := by
  unfold newG
  split
  · exact ⟨rfl, rfl, rfl, .inl rfl⟩
  · exact ⟨rfl, rfl, rfl, .inr rfl⟩

theorem newG_S {x : ByteArray} {l : List Hd} {sk most : Int} (hx : x.size ≤ 10) (hl : l.length ≤ 2) (hz : HdSz 10 l) : GtS 2 0 0 (newG x l sk most).1 := by
  unfold newG
  split
  · exact ⟨hx, hl, hz, Nat.le_refl _, fun y hy => absurd hy List.not_mem_nil, Nat.le_refl _, fun y hy => absurd hy List.not_mem_nil⟩
  · exact ⟨Nat.zero_le _, Nat.zero_le _, fun y hy => absurd hy List.not_mem_nil, Nat.le_refl _, fun y hy => absurd hy List.not_mem_nil, Nat.le_refl _, fun y hy => absurd hy List.not_mem_nil⟩

/-- A world that has nothing, and yet is below another. -/
theorem below_none (w : World) : Below 0 { w with heap := #[] } w := ⟨rfl, rfl, rfl, Nat.zero_le _, fun i hi => absurd hi (Nat.not_lt_zero _)⟩

/-- The clock of a gate that has no rows. -/
theorem cTickD {w0 : World} {a : Option Addr} {len cap b : Nat} {w wr : World} {P R : Nat} {g : Gt} {ah : Option Addr} {ch : Nat} {aa : Option Addr} {ca : Nat} {ar : Option Addr} {cr : Nat} (h : GrSt w0 a len cap b w wr P R g ah ch aa ca ar cr) (h0 : w0.heap.size ≤ w.heap.size) (hP : w.heap.size ≤ P) (hRP : ¬ R = P) (ha : g.ask.rows = []) (hr : g.hrd.rows = []) (hn : g.now = 0) (d : Int) (hd : 0 ≤ d ∧ d ≤ 3155759999) :
    Calls Tryz.prog 33 #[.pointer (some ⟨P, 0, none⟩), .int .i64 d] wr fun e w' => ∃ (g' : Gt) (aa' : Option Addr) (ca' : Nat) (ar' : Option Addr) (cr' : Nat), e = .returned (.bool true) ∧ GrSt w0 a len cap b w w' P R g' ah ch aa' ca' ar' cr' ∧ g'.name = g.name ∧ g'.hands = g.hands ∧ g'.ask.rows = [] ∧ g'.hrd.rows = [] := by
  obtain ⟨nm, hs, sk, nw, ⟨am, la⟩, ⟨rm, lr⟩⟩ := g
  simp only at ha hr hn
  subst ha hr hn
  refine (cTickYes P nm (.slice ah hs.length ch) sk 0 am rm aa ca ar cr [] [] d { wr with heap := #[] } wr h.p (below_none wr) (Nat.zero_le _) (RoRow.nil _ _) (RoRow.nil _ _) (Nat.zero_le _) (Nat.zero_le _) ⟨Int.le_refl _, by decide⟩ hd).mono ?_
  rintro e w' ⟨va, vr, rfl, hp, hb, hk, B1, B2, w1, q1, q2, q3, q4, q5, q6, q7⟩
  obtain ⟨aa', ca', rfl⟩ := u_own_len q3
  obtain ⟨ar', cr', rfl⟩ := u_own_len q7
  have hk' := h.o.keepP h.p hk
  have hoa : w'.ownsRow w.heap.size 83 2 (.slice aa' 0 ca') 0 [] := own_kp (u_own_base q3 (Nat.le_trans h.g.size q1)) q4 (own_neP q3 q6)
  have hor : w'.ownsRow w.heap.size 83 2 (.slice ar' 0 cr') 0 [] := u_own_base q7 (Nat.le_trans h.g.size (Nat.le_trans q2 q5))
  exact ⟨⟨nm, hs, sk, laterOf 0 d, ⟨am, []⟩, ⟨rm, []⟩⟩, aa', ca', ar', cr', rfl, h.put (g' := ⟨nm, hs, sk, laterOf 0 d, ⟨am, []⟩, ⟨rm, []⟩⟩) h0 hP hRP hk hp ⟨hk'.h, hoa, hor⟩, rfl, rfl, rfl, rfl⟩

set_option maxRecDepth 8000 in
set_option maxHeartbeats 16000000 in
theorem cNewGtD (w0 : World) (a : Option Addr) (len cap b : Nat) (w : World) (hlen : len ≤ 4096) (hcr : CodeRow w0 a len) (hC : Cur w0 a len cap b w) :
    Calls Tryz.prog 59 #[.pointer (some ⟨b, 0, none⟩)] w (GrPost w0 a len cap b 2 3 0 w) := by
  have HCR := hid hcr
  have h0 := hC.size
  have HC0 := hid (hC.alloc (.cells #[.string ⟨#[]⟩, .slice none 0 0, .int .i64 0, .int .i64 0, .int .i64 0, .slice none 0 0, .int .i64 0, .slice none 0 0] 29))
  have HR0 := hid (heap_alloc_new w (.cells #[.string ⟨#[]⟩, .slice none 0 0, .int .i64 0, .int .i64 0, .int .i64 0, .slice none 0 0, .int .i64 0, .slice none 0 0] 29))
  have HG0 := hid (World.grownBy_alloc w (.cells #[.string ⟨#[]⟩, .slice none 0 0, .int .i64 0, .int .i64 0, .int .i64 0, .slice none 0 0, .int .i64 0, .slice none 0 0] 29) (some b))
  have CK0 := hid (fun wx => show Calls Tryz.prog 95 #[.int .i64 0] wx fun r w' => ∃ n e d : Int, r = .returned (.agg #[.int .i64 n, .int .i64 e, .int .i64 d]) ∧ (kb n ∧ kb e ∧ kb d) ∧ Below wx.heap.size wx w' from cL6Key 0 (by decide) wx)
  have CK1 := hid (fun wx => show Calls Tryz.prog 95 #[.int .i64 1] wx fun r w' => ∃ n e d : Int, r = .returned (.agg #[.int .i64 n, .int .i64 e, .int .i64 d]) ∧ (kb n ∧ kb e ∧ kb d) ∧ Below wx.heap.size wx w' from cL6Key 1 (by decide) wx)
  clear hcr hC
  go_enter Tryz.func59, Tryz.ntmps59
  go_wp2_with fail
  obtain ⟨W, hW⟩ : ∃ W, w.alloc (.cells #[.string ⟨#[]⟩, .slice none 0 0, .int .i64 0, .int .i64 0, .int .i64 0, .slice none 0 0, .int .i64 0, .slice none 0 0] 29) = W := ⟨_, rfl⟩
  rw [hW] at HC0 HR0 HG0 ⊢
  clear hW
  obtain ⟨R, hR⟩ : ∃ R, w.heap.size = R := ⟨_, rfl⟩
  rw [hR] at HR0 ⊢
  have HRw := hid (show w.heap.size ≤ R by omega)
  refine (CK0.out _).mono ?_
  rintro e w1 ⟨k0, k1, k2, rfl, _, hb1⟩
  have HB1 := hid hb1
  clear hb1 CK0
  go_wp2_with fail
  refine (cPublicS k0 k1 k2 _).mono ?_
  rintro e w2 ⟨rfl, hb2⟩
  have HB2 := hid (bb HB1.out hb2)
  clear hb2 HB1
  generalize pubN k0 k1 = x1
  generalize pubE k0 k1 = y1
  go_wp2_with fail
  refine (CK1.out _).mono ?_
  rintro e w3 ⟨k3, k4, k5, rfl, _, hb3⟩
  have HB3 := hid (bb HB2.out hb3)
  clear hb3 HB2 CK1
  go_wp2_with fail
  refine (cPublicS k3 k4 k5 _).mono ?_
  rintro e w4 ⟨rfl, hb4⟩
  have HB4 := hid (bb HB3.out hb4)
  clear hb4 HB3
  generalize pubN k3 k4 = x2
  generalize pubE k3 k4 = y2
  have HH4 := hid (heap_alloc_new w4 (.cells #[.string ⟨#[105, 100, 112]⟩, .int .i64 x1, .int .i64 y1, .int .i64 0, .string ⟨#[111, 116, 104, 101, 114]⟩, .int .i64 x2, .int .i64 y2, .int .i64 0] 72))
  have HB5 := hid (HB4.out.alloc HB4.out.size (.cells #[.string ⟨#[105, 100, 112]⟩, .int .i64 x1, .int .i64 y1, .int .i64 0, .string ⟨#[111, 116, 104, 101, 114]⟩, .int .i64 x2, .int .i64 y2, .int .i64 0] 72))
  have HC5 := hid (HC0.out.below HB5.out)
  have HG5 := hid (u_gr_below HG0.out HB5.out)
  have HR5 := hid (u_blk_below HR0.out HB5.out)
  clear HB4 HC0 HG0 HR0 HB5
  go_wp2_with fail
  refine (cBelow 5 w0 a len cap b _ hlen HCR.out HC5.out (by decide) (by decide)).mono ?_
  rintro e w6 ⟨x, rfl, hx, hC6, hg6⟩
  have HC6 := hid hC6
  have HG6 := hid (gtrans HG5.out hg6)
  have HR6 := hid (blk_draw HR5.out hg6 (HC5.out.neT HR5.out (by decide)))
  have HH6 := hid (hd_two (blk_draw HH4.out hg6 (HC5.out.neT HH4.out (by decide))))
  clear hC6 hg6 HC5 HG5 HR5 HH4
  obtain ⟨m, hm⟩ : ∃ m : Int, (1 : Int) + (x : Int) = m := ⟨_, rfl⟩
  have hm1 : IntKind.i64.wrap m = m := IntWalk.i64_in _ (by omega)
  have hz : HdSz 10 [⟨⟨#[105, 100, 112]⟩, x1, y1, 0⟩, ⟨⟨#[111, 116, 104, 101, 114]⟩, x2, y2, 0⟩] := fun t ht => by
    rcases List.mem_cons.1 ht with rfl | ht
    · show 3 ≤ 10; decide
    · rw [List.mem_singleton.1 ht]; show 5 ≤ 10; decide
  have CN := hid (show Calls Tryz.prog 93 #[.string ⟨#[103, 97, 116, 101]⟩, .slice (some ⟨w4.heap.size, 0, none⟩) 2 2, .int .i64 60, .int .i64 m] w6 _ from cNewGateO ⟨#[103, 97, 116, 101]⟩ [⟨⟨#[105, 100, 112]⟩, x1, y1, 0⟩, ⟨⟨#[111, 116, 104, 101, 114]⟩, x2, y2, 0⟩] (some ⟨w4.heap.size, 0, none⟩) 2 60 m w6 HH6.out (hz.mono (by decide)) (by show 2 ≤ 1048576; decide) (by show 4 ≤ 1048576; decide))
  have HNS := hid (newG_S (x := ⟨#[103, 97, 116, 101]⟩) (sk := 60) (most := m) (show 4 ≤ 10 by decide) (show [(⟨⟨#[105, 100, 112]⟩, x1, y1, 0⟩ : Hd), ⟨⟨#[111, 116, 104, 101, 114]⟩, x2, y2, 0⟩].length ≤ 2 from Nat.le_refl 2) hz)
  have HNN := hid (newG_new ⟨#[103, 97, 116, 101]⟩ [⟨⟨#[105, 100, 112]⟩, x1, y1, 0⟩, ⟨⟨#[111, 116, 104, 101, 114]⟩, x2, y2, 0⟩] 60 m)
  generalize newG ⟨#[103, 97, 116, 101]⟩ [⟨⟨#[105, 100, 112]⟩, x1, y1, 0⟩, ⟨⟨#[111, 116, 104, 101, 114]⟩, x2, y2, 0⟩] 60 m = N at *
  obtain ⟨g, is⟩ := N
  simp only at CN HNS HNN
  unfold gtV at CN
  clear hx hz HH6
  go_wp2_with fail
  refine CN.out.mono ?_
  rintro e w7 ⟨ah, ch, aa, ca, ar, cr, rfl, ho7, hb7⟩
  have HZ := hid ((Below.refl w7.heap.size w7).alloc (Nat.le_refl _) (.cells #[.string g.name, .slice ah g.hands.length ch, .int .i64 g.skew, .int .i64 g.now, .int .i64 g.ask.most, .slice aa g.ask.rows.length ca, .int .i64 g.hrd.most, .slice ar g.hrd.rows.length cr] 29))
  have HS7 := hid (show GrSt w0 a len cap b w (w7.alloc (.cells #[.string g.name, .slice ah g.hands.length ch, .int .i64 g.skew, .int .i64 g.now, .int .i64 g.ask.most, .slice aa g.ask.rows.length ca, .int .i64 g.hrd.most, .slice ar g.hrd.rows.length cr] 29)) w7.heap.size R g ah ch aa ca ar cr from ⟨heap_alloc_new _ _, (ho7.base HG6.out.size).below HZ.out, (HC6.out.below hb7).below HZ.out, u_gr_below HG6.out (bb hb7 HZ.out), u_blk_below (u_blk_below HR6.out hb7) HZ.out⟩)
  have HPw := hid (show w.heap.size ≤ w7.heap.size from Nat.le_trans HG6.out.size hb7.size)
  have HRP := hid (show ¬ R = w7.heap.size by have := lt_of_heap (u_blk_below HR6.out hb7); omega)
  clear ho7 hb7 HC6 HG6 HR6 CN
  go_wp2_with fail
  obtain ⟨W7, hW7⟩ : ∃ W, w7.alloc (.cells #[.string g.name, .slice ah g.hands.length ch, .int .i64 g.skew, .int .i64 g.now, .int .i64 g.ask.most, .slice aa g.ask.rows.length ca, .int .i64 g.hrd.most, .slice ar g.hrd.rows.length cr] 29) = W := ⟨_, rfl⟩
  rw [hW7] at HS7
  simp only [hW7]
  clear hW7 HZ
  obtain ⟨P, hP⟩ : ∃ P, w7.heap.size = P := ⟨_, rfl⟩
  rw [hP] at HS7 HPw HRP
  simp only [hP]
  clear hP
  refine (cBelowAny 400 w0 a len cap b _ hlen HCR.out HS7.out.c (by decide) (by decide)).mono ?_
  rintro e w8 ⟨y, rfl, hy, hC8, hg8⟩
  have HS8 := hid (HS7.out.draw hC8 hg8)
  clear hC8 hg8 HS7
  obtain ⟨d, hd⟩ : ∃ d : Int, (1000 : Int) + (y : Int) = d := ⟨_, rfl⟩
  have hd1 : IntKind.i64.wrap d = d := IntWalk.i64_in _ (by omega)
  have CT := hid (cTickD HS8.out h0 HPw.out HRP.out HNN.out.1 HNN.out.2.1 HNN.out.2.2.1 d (by omega))
  clear hy
  go_wp2_with fail
  refine CT.out.mono ?_
  rintro e w9 ⟨g9, aa9, ca9, ar9, cr9, rfl, hs9, q1, q2, q3, q4⟩
  have HS9 := hid hs9
  have HE9 := hid (show GtS 2 0 0 g9 from ⟨by rw [q1]; exact HNS.out.nm, by rw [q2]; exact HNS.out.hl, by rw [q2]; exact HNS.out.hz, by rw [q3]; exact Nat.le_refl _, by rw [q3]; exact fun y hy => absurd hy List.not_mem_nil, by rw [q4]; exact Nat.le_refl _, by rw [q4]; exact fun y hy => absurd hy List.not_mem_nil⟩)
  clear hs9 q1 q2 q3 q4 CT HS8 HNS HNN hd hd1 hm hm1
  go_wp2_with fail
  refine (cBelow 4 w0 a len cap b _ hlen HCR.out HS9.out.c (by decide) (by decide)).mono ?_
  rintro e w10 ⟨n, rfl, hn, hC10, hg10⟩
  have HSt := hid (HS9.out.draw hC10 hg10)
  clear hC10 hg10 HS9
  go_wp2_with fail
  go_loopw [5] (fun v wr => ∃ (k : Nat) (g : Gt) (ah : Option Addr) (ch : Nat) (aa : Option Addr) (ca : Nat) (ar : Option Addr) (cr : Nat), v = .int .i64 (k : Int) ∧ k ≤ 3 ∧ Hid (GtS 2 (3 - k) 0 g) ∧ Hid (GrSt w0 a len cap b w wr P R g ah ch aa ca ar cr)) (fun v _ => (intOf v).toNat)
  case atStart => exact ⟨n, g9, ah, ch, aa9, ca9, ar9, cr9, rfl, by omega, ⟨HE9.out.nm, HE9.out.hl, HE9.out.hz, Nat.le_trans HE9.out.al (Nat.zero_le _), HE9.out.az, HE9.out.rl, HE9.out.rz⟩, HSt.out⟩
  case round =>
    clear HSt HE9 hn
    obtain ⟨k, g, ah, ch, aa, ca, ar, cr, rfl, hk, HE, HS⟩ := hrel
    by_cases hk0 : k = 0
    case neg =>
      have hkp : (0 : Int) < (k : Int) := by omega
      obtain ⟨k', hk'⟩ : ∃ k', k = k' + 1 := ⟨k - 1, by omega⟩
      have hk1 : (k : Int) - 1 = (k' : Int) := by omega
      have hk2 : IntKind.i64.wrap (k' : Int) = (k' : Int) := IntWalk.i64_in _ (by omega)
      have HKK := hid hk'
      clear hk' hk0
      go_wp2_with fail
      refine (cText ⟨#[49, 50]⟩ 2 w0 a len cap b _ (by decide) (by decide) (by decide) (by decide) hlen HCR.out HS.out.c).mono ?_
      rintro e w4 ⟨t, rfl, ht, hC4, hg4⟩
      have HS4 := hid (HS.out.draw hC4 hg4)
      have HID := hid (show ((⟨#[114]⟩ : ByteArray) ++ t).size ≤ 10 by rw [ByteArray.size_append]; show 1 + t.size ≤ 10; omega)
      have hsz : ¬ 9223372036854775807 < (⟨#[114]⟩ : ByteArray).size + t.size := by show ¬ 9223372036854775807 < 1 + t.size; omega
      obtain ⟨id, hid'⟩ : ∃ id, (⟨#[114]⟩ : ByteArray) ++ t = id := ⟨_, rfl⟩
      rw [hid'] at HID
      clear hC4 hg4 HS ht
      go_wp2_with fail
      refine (cBelowAny 700 w0 a len cap b _ hlen HCR.out HS4.out.c (by decide) (by decide)).mono ?_
      rintro e w5 ⟨u, rfl, hu, hC5, hg5⟩
      have HS5 := hid (HS4.out.draw hC5 hg5)
      obtain ⟨tl, htl⟩ : ∃ tl : Int, (900 : Int) + (u : Int) = tl := ⟨_, rfl⟩
      have htl1 : IntKind.i64.wrap tl = tl := IntWalk.i64_in _ (by omega)
      clear hC5 hg5 HS4 hu hid' hsz
      go_wp2_with fail
      refine (cEnterA HS5.out h0 HPw.out HRP.out (by have := HE.out.al; omega) HE.out.az id tl HID.out).mono ?_
      rintro e w6 ⟨x6, l6, aa6, ca6, rfl, hl6, hz6, hs6⟩
      have HS6 := hid hs6
      have HE6 := hid (show GtS 2 (3 - k') 0 ⟨g.name, g.hands, g.skew, g.now, ⟨g.ask.most, l6⟩, g.hrd⟩ from ⟨HE.out.nm, HE.out.hl, HE.out.hz, by have h1 := HE.out.al; have h2 := HKK.out; show l6.length ≤ _; omega, hz6, HE.out.rl, HE.out.rz⟩)
      have HK5 := hid (show k' ≤ 3 by have h2 := HKK.out; omega)
      clear hs6 hl6 hz6 HS5 HE htl htl1
      go_wp2_with fail
      go_roundw
      case rel => exact ⟨k', _, _, _, _, _, _, _, by go_num, HK5.out, HE6.out, HS6.out⟩
      case measure => simp [intOf]; have := HKK.out; omega
    subst hk0
    have HE2 := hid (show GtS 2 3 0 g from HE.out)
    have HEnd := hid (fun v0 v1 v2 v3 v4 v5 v6 v7 => gr_end HS.out h0 HRw.out HE2.out v0 v1 v2 v3 v4 v5 v6 v7)
    clear HE hk
    obtain ⟨⟨p0, p1, p2, p3, p4, p5, p6, p7⟩, _⟩ := g_box8f HS.out.p
    obtain ⟨⟨r0, r1, r2, r3, r4, r5, r6, r7⟩, rf⟩ := g_box8f HS.out.r
    have rf0 := rf 0
    have rf1 := rf 1
    have rf2 := rf 2
    have rf3 := rf 3
    have rf4 := rf 4
    have rf5 := rf 5
    have rf6 := rf 6
    have rf7 := rf 7
    unfold gtV at HEnd
    clear rf HE2
    generalize g.hands.length = n1 at *
    generalize g.ask.rows.length = n2 at *
    generalize g.hrd.rows.length = n3 at *
    go_wp2_with fail
    refine bodyPost_ret (v := .agg #[.string g.name, .slice ah n1 ch, .int .i64 g.skew, .int .i64 g.now, .int .i64 g.ask.most, .slice aa n2 ca, .int .i64 g.hrd.most, .slice ar n3 cr]) (by simp [results, Tryz.results59, go_sem, r0, r1, r2, r3, r4, r5, r6, r7]) rfl (HEnd.out _ _ _ _ _ _ _ _)

end Go.Proofs.YtgdfeicojgnoaaaGreatDoor

namespace Go.Proofs.YtgdfeicojgnoaaaGreatDoor
open Go.RowKit
set_option linter.unusedVariables false
set_option linter.unusedSimpArgs false

/-- Hands behind themselves, as a run. -/
theorem hd_dup {w : World} {B : Nat} {ah : Option Addr} {ch : Nat} {l : List Hd} (hO : w.ownsRow B 72 4 (.slice ah l.length ch) l.length (hdC l)) (hB : B ≤ w.heap.size) (hl : l.length ≤ 1000) :
    ∃ a8 c8 w8, (Builtin.append_ #[24, 24] 24 #[.slice ah l.length ch, .slice ah l.length ch]).run Tryz.prog w = .ok (.slice a8 (l.length + l.length) c8) w8
      ∧ w8.ownsRow B 72 4 (.slice a8 (l.length + l.length) c8) (l.length + l.length) (hdC (l ++ l)) ∧ w.grownBy w8 (Value.slice ah l.length ch).ownBlock := by
  obtain ⟨i0, hi0, hz0, hz1, hz2⟩ := info_parts infoHd
  obtain ⟨a', c', e', ho⟩ := own_hd hO rfl
  cases e'
  have hS := ho.row.sr (n := l.length) (c := ch) rfl
  obtain ⟨ax, cx, e, hpos⟩ := hS.at_
  cases e
  rcases Nat.eq_zero_or_pos l.length with h0 | h0
  · obtain rfl : l = [] := List.length_eq_zero_iff.1 h0
    have hsrc : Src Tryz.prog i0.size 24 (.slice ah 0 ch) 0 [] w := by
      cases ah with
      | none => exact Src.ofNil _ Tryz.underlying24 ch
      | some ad => exact Src.ofSlice _ Tryz.underlying24 ad 0 ch [] (by simp) (fun j u h => by simp at h) (fun u h => by cases h)
    have hr := run_append_nothing (P := Tryz.prog) w 24 24 24 72 i0 Tryz.underlying24 hi0 ah 0 ch (Nat.zero_le _) _ hsrc
    exact ⟨ah, ch, w, hr, hO, World.grownBy.refl w _⟩
  · obtain ⟨b, o', rfl, hbl, hcs⟩ := hpos h0
    obtain ⟨v8, w8, hrun, r1, r2, _, _⟩ := run_append_own_at (P := Tryz.prog) w B 24 24 72 i0 _ 4 40 Tryz.underlying24 hi0 hz0 hz1 hz2 rfl (by decide) _ l.length (hdC l) hO ⟨b, o', none⟩ l.length ch (hdC l) (hdC_len l) (fun j u hj => by rw [u_add_plainW]; exact hcs j u hj) (hdC_one l) (by unfold maxLen; omega) (by omega) hB
    obtain ⟨a8, c8, rfl⟩ := u_own_len r1
    exact ⟨a8, c8, w8, hrun, by rw [hdC_app]; exact r1, r2⟩

set_option maxRecDepth 8000 in
set_option maxHeartbeats 16000000 in
theorem cDrawAnyD (w0 : World) (a : Option Addr) (len cap b : Nat) (w : World) (hlen : len ≤ 4096) (hcr : CodeRow w0 a len) (hC : Cur w0 a len cap b w) :
    Calls Tryz.prog 24 #[.pointer (some ⟨b, 0, none⟩)] w (GrPost w0 a len cap b 4 6 2 w) := by
  have HCR := hid hcr
  have h0 := hC.size
  have HC0 := hid (hC.alloc (.cells #[.string ⟨#[]⟩, .slice none 0 0, .int .i64 0, .int .i64 0, .int .i64 0, .slice none 0 0, .int .i64 0, .slice none 0 0] 29))
  have HR0 := hid (heap_alloc_new w (.cells #[.string ⟨#[]⟩, .slice none 0 0, .int .i64 0, .int .i64 0, .int .i64 0, .slice none 0 0, .int .i64 0, .slice none 0 0] 29))
  have HG0 := hid (World.grownBy_alloc w (.cells #[.string ⟨#[]⟩, .slice none 0 0, .int .i64 0, .int .i64 0, .int .i64 0, .slice none 0 0, .int .i64 0, .slice none 0 0] 29) (some b))
  clear hcr hC
  go_enter Tryz.func24, Tryz.ntmps24
  go_wp2_with fail
  obtain ⟨W, hW⟩ : ∃ W, w.alloc (.cells #[.string ⟨#[]⟩, .slice none 0 0, .int .i64 0, .int .i64 0, .int .i64 0, .slice none 0 0, .int .i64 0, .slice none 0 0] 29) = W := ⟨_, rfl⟩
  rw [hW] at HC0 HR0 HG0 ⊢
  clear hW
  obtain ⟨R, hR⟩ : ∃ R, w.heap.size = R := ⟨_, rfl⟩
  rw [hR] at HR0 ⊢
  have HRw := hid (show w.heap.size ≤ R by omega)
  refine (cNewGtD w0 a len cap b _ hlen HCR.out HC0.out).mono ?_
  rintro e w7 ⟨g, ah, ch, aa, ca, ar, cr, rfl, ho7, hs7, hC7, hg7⟩
  have HE7 := hid hs7
  have HZ := hid ((Below.refl w7.heap.size w7).alloc (Nat.le_refl _) (.cells #[.string g.name, .slice ah g.hands.length ch, .int .i64 g.skew, .int .i64 g.now, .int .i64 g.ask.most, .slice aa g.ask.rows.length ca, .int .i64 g.hrd.most, .slice ar g.hrd.rows.length cr] 29))
  have HS7 := hid (show GrSt w0 a len cap b w (w7.alloc (.cells #[.string g.name, .slice ah g.hands.length ch, .int .i64 g.skew, .int .i64 g.now, .int .i64 g.ask.most, .slice aa g.ask.rows.length ca, .int .i64 g.hrd.most, .slice ar g.hrd.rows.length cr] 29)) w7.heap.size R g ah ch aa ca ar cr from ⟨heap_alloc_new _ _, (ho7.base HG0.out.size).below HZ.out, hC7.below HZ.out, u_gr_below (gtrans HG0.out hg7) HZ.out, u_blk_below (blk_draw HR0.out hg7 (HC0.out.neT HR0.out (by decide))) HZ.out⟩)
  have HPw := hid (show w.heap.size ≤ w7.heap.size from Nat.le_trans HG0.out.size hg7.size)
  have HRP := hid (show ¬ R = w7.heap.size by have := lt_of_heap (blk_draw HR0.out hg7 (HC0.out.neT HR0.out (by decide))); omega)
  clear ho7 hs7 hC7 hg7 HC0 HR0 HG0
  unfold gtV
  go_wp2_with fail
  obtain ⟨W7, hW7⟩ : ∃ W, w7.alloc (.cells #[.string g.name, .slice ah g.hands.length ch, .int .i64 g.skew, .int .i64 g.now, .int .i64 g.ask.most, .slice aa g.ask.rows.length ca, .int .i64 g.hrd.most, .slice ar g.hrd.rows.length cr] 29) = W := ⟨_, rfl⟩
  rw [hW7] at HS7
  simp only [hW7]
  clear hW7 HZ
  obtain ⟨P, hP⟩ : ∃ P, w7.heap.size = P := ⟨_, rfl⟩
  rw [hP] at HS7 HPw HRP
  simp only [hP]
  clear hP
  refine (cBelow 3 w0 a len cap b _ hlen HCR.out HS7.out.c (by decide) (by decide)).mono ?_
  rintro e w10 ⟨n, rfl, hn, hC10, hg10⟩
  have HSt := hid (HS7.out.draw hC10 hg10)
  clear hC10 hg10 HS7
  go_wp2_with fail
  go_loopw [4] (fun v wr => ∃ (k : Nat) (g : Gt) (ah : Option Addr) (ch : Nat) (aa : Option Addr) (ca : Nat) (ar : Option Addr) (cr : Nat), v = .int .i64 (k : Int) ∧ k ≤ 2 ∧ Hid (GtS 2 3 (2 - k) g) ∧ Hid (GrSt w0 a len cap b w wr P R g ah ch aa ca ar cr)) (fun v _ => (intOf v).toNat)
  case atStart => exact ⟨n, g, ah, ch, aa, ca, ar, cr, rfl, by omega, ⟨HE7.out.nm, HE7.out.hl, HE7.out.hz, HE7.out.al, HE7.out.az, Nat.le_trans HE7.out.rl (Nat.zero_le _), HE7.out.rz⟩, HSt.out⟩
  case round =>
    clear HSt HE7 hn
    obtain ⟨k, g, ah, ch, aa, ca, ar, cr, rfl, hk, HE, HS⟩ := hrel
    by_cases hk0 : k = 0
    case neg =>
      have hkp : (0 : Int) < (k : Int) := by omega
      obtain ⟨k', hk'⟩ : ∃ k', k = k' + 1 := ⟨k - 1, by omega⟩
      have hk1 : (k : Int) - 1 = (k' : Int) := by omega
      have hk2 : IntKind.i64.wrap (k' : Int) = (k' : Int) := IntWalk.i64_in _ (by omega)
      have HKK := hid hk'
      clear hk' hk0
      go_wp2_with fail
      refine (cText ⟨#[48, 49]⟩ 2 w0 a len cap b _ (by decide) (by decide) (by decide) (by decide) hlen HCR.out HS.out.c).mono ?_
      rintro e w4 ⟨t, rfl, ht, hC4, hg4⟩
      have HS4 := hid (HS.out.draw hC4 hg4)
      have HID := hid (show ((⟨#[107]⟩ : ByteArray) ++ t).size ≤ 10 by rw [ByteArray.size_append]; show 1 + t.size ≤ 10; omega)
      have hsz : ¬ 9223372036854775807 < (⟨#[107]⟩ : ByteArray).size + t.size := by show ¬ 9223372036854775807 < 1 + t.size; omega
      obtain ⟨id, hid'⟩ : ∃ id, (⟨#[107]⟩ : ByteArray) ++ t = id := ⟨_, rfl⟩
      rw [hid'] at HID
      clear hC4 hg4 HS ht
      go_wp2_with fail
      refine (cBelowAny 700 w0 a len cap b _ hlen HCR.out HS4.out.c (by decide) (by decide)).mono ?_
      rintro e w5 ⟨u, rfl, hu, hC5, hg5⟩
      have HS5 := hid (HS4.out.draw hC5 hg5)
      obtain ⟨tl, htl⟩ : ∃ tl : Int, (900 : Int) + (u : Int) = tl := ⟨_, rfl⟩
      have htl1 : IntKind.i64.wrap tl = tl := IntWalk.i64_in _ (by omega)
      clear hC5 hg5 HS4 hu hid' hsz
      go_wp2_with fail
      refine (cEnterH HS5.out h0 HPw.out HRP.out (by have := HE.out.rl; omega) HE.out.rz id tl HID.out).mono ?_
      rintro e w6 ⟨x6, l6, ar6, cr6, rfl, hl6, hz6, hs6⟩
      have HS6 := hid hs6
      have HE6 := hid (show GtS 2 3 (2 - k') ⟨g.name, g.hands, g.skew, g.now, g.ask, ⟨g.hrd.most, l6⟩⟩ from ⟨HE.out.nm, HE.out.hl, HE.out.hz, HE.out.al, HE.out.az, by have h1 := HE.out.rl; have h2 := HKK.out; show l6.length ≤ _; omega, hz6⟩)
      have HK5 := hid (show k' ≤ 2 by have h2 := HKK.out; omega)
      clear hs6 hl6 hz6 HS5 HE htl htl1
      go_wp2_with fail
      go_roundw
      case rel => exact ⟨k', _, _, _, _, _, _, _, by go_num, HK5.out, HE6.out, HS6.out⟩
      case measure => simp [intOf]; have := HKK.out; omega
    subst hk0
    have HE2 := hid (show GtS 2 3 2 g from HE.out)
    clear HE hk
    obtain ⟨nm, hs, sk, nw, ⟨am, la⟩, ⟨rm, lr⟩⟩ := g
    go_wp2_with fail
    refine (cOnce 10 w0 a len cap b _ hlen HCR.out HS.out.c (by decide) (by decide)).mono ?_
    rintro e w11 ⟨y, rfl, hC11, hg11⟩
    have HS11 := hid (HS.out.draw hC11 hg11)
    clear hC11 hg11 HS
    have HE3 := hid (show GtS 4 6 2 ⟨nm, hs, sk, nw, ⟨am, la⟩, ⟨rm, lr⟩⟩ from ⟨HE2.out.nm, Nat.le_trans HE2.out.hl (by decide), HE2.out.hz, Nat.le_trans HE2.out.al (by decide), HE2.out.az, HE2.out.rl, HE2.out.rz⟩)
    cases y with
    | false =>
      have HEnd := hid (fun v0 v1 v2 v3 v4 v5 v6 v7 => gr_end HS11.out h0 HRw.out HE3.out v0 v1 v2 v3 v4 v5 v6 v7)
      obtain ⟨⟨p0, p1, p2, p3, p4, p5, p6, p7⟩, _⟩ := g_box8f HS11.out.p
      obtain ⟨⟨r0, r1, r2, r3, r4, r5, r6, r7⟩, rf⟩ := g_box8f HS11.out.r
      have rf0 := rf 0
      have rf1 := rf 1
      have rf2 := rf 2
      have rf3 := rf 3
      have rf4 := rf 4
      have rf5 := rf 5
      have rf6 := rf 6
      have rf7 := rf 7
      unfold gtV at HEnd
      clear rf
      go_wp2_with fail
      refine bodyPost_ret (v := .agg #[.string nm, .slice ah hs.length ch, .int .i64 sk, .int .i64 nw, .int .i64 am, .slice aa la.length ca, .int .i64 rm, .slice ar lr.length cr]) (by simp [results, Tryz.results24, go_sem, r0, r1, r2, r3, r4, r5, r6, r7]) rfl (HEnd.out _ _ _ _ _ _ _ _)
    | true =>
      go_wp2_with fail
      refine (cBelow 6 w0 a len cap b _ hlen HCR.out HS11.out.c (by decide) (by decide)).mono ?_
      rintro e w12 ⟨q, rfl, hq, hC12, hg12⟩
      have HS12 := hid (HS11.out.draw hC12 hg12)
      clear hC12 hg12 HS11
      have hq6 : q = 0 ∨ q = 1 ∨ q = 2 ∨ q = 3 ∨ q = 4 ∨ q = 5 := by omega
      clear hq
      obtain ⟨⟨p0, p1, p2, p3, p4, p5, p6, p7⟩, pf⟩ := g_box8f HS12.out.p
      have pf0 := pf 0
      have pf1 := pf 1
      have pf2 := pf 2
      have pf3 := pf 3
      have pf4 := pf 4
      have pf5 := pf 5
      clear pf
      rcases hq6 with rfl | rfl | rfl | rfl | rfl | rfl
      · go_upto_region 20 with fail
        have HK := hid (u_KeepB.of_set (p := fun k => k = P) w12 (g := P) 0 (.string ⟨#[]⟩) rfl)
        have HS13 := hid (HS12.out.put (g' := ⟨⟨#[]⟩, hs, sk, nw, ⟨am, la⟩, ⟨rm, lr⟩⟩) h0 HPw.out HRP.out HK.out (u_heap_set (i := 0) HS12.out.p _) (let ho := HS12.out.o.keepP HS12.out.p HK.out; ⟨ho.h, ho.a, ho.r⟩))
        have HE4 := hid (show GtS 4 6 2 ⟨⟨#[]⟩, hs, sk, nw, ⟨am, la⟩, ⟨rm, lr⟩⟩ from ⟨Nat.zero_le _, HE3.out.hl, HE3.out.hz, HE3.out.al, HE3.out.az, HE3.out.rl, HE3.out.rz⟩)
        clear p0 p1 p2 p3 p4 p5 p6 p7 pf0 pf1 pf2 pf3 pf4 pf5 HK HS12
        have HEnd := hid (fun v0 v1 v2 v3 v4 v5 v6 v7 => gr_end HS13.out h0 HRw.out HE4.out v0 v1 v2 v3 v4 v5 v6 v7)
        obtain ⟨⟨p0, p1, p2, p3, p4, p5, p6, p7⟩, _⟩ := g_box8f HS13.out.p
        obtain ⟨⟨r0, r1, r2, r3, r4, r5, r6, r7⟩, rf⟩ := g_box8f HS13.out.r
        have rf0 := rf 0
        have rf1 := rf 1
        have rf2 := rf 2
        have rf3 := rf 3
        have rf4 := rf 4
        have rf5 := rf 5
        have rf6 := rf 6
        have rf7 := rf 7
        unfold gtV at HEnd
        clear rf
        go_wp2_with fail
        refine bodyPost_ret (v := .agg #[.string ⟨#[]⟩, .slice ah hs.length ch, .int .i64 sk, .int .i64 nw, .int .i64 am, .slice aa la.length ca, .int .i64 rm, .slice ar lr.length cr]) (by simp [results, Tryz.results24, go_sem, r0, r1, r2, r3, r4, r5, r6, r7]) rfl (HEnd.out _ _ _ _ _ _ _ _)
      · obtain ⟨a8, c8, w13, hrun, ho8, hg8⟩ := hd_dup HS12.out.o.h HS12.out.g.size (Nat.le_trans HE2.out.hl (by decide))
        have HRUN := hid hrun
        have hl8 : (hs ++ hs).length = hs.length + hs.length := List.length_append
        obtain ⟨hp13, hs13⟩ := HS12.out.hands (l' := hs ++ hs) h0 HPw.out HRP.out (by rw [hl8]; exact ho8) hg8
        have HS13 := hid hs13
        have HE4 := hid (show GtS 4 6 2 ⟨nm, hs ++ hs, sk, nw, ⟨am, la⟩, ⟨rm, lr⟩⟩ from ⟨HE3.out.nm, by have := HE2.out.hl; show (hs ++ hs).length ≤ 4; rw [hl8]; show hs.length + hs.length ≤ 4; have h2 : hs.length ≤ 2 := this; omega, fun x hx => by rcases List.mem_append.1 hx with h | h <;> exact HE2.out.hz x h, HE3.out.al, HE3.out.az, HE3.out.rl, HE3.out.rz⟩)
        rw [hl8] at HS13
        have HL8 := hid hl8
        have HP13 := hid hp13
        clear hrun ho8 hg8 hp13 hs13 HE2 HE3
        obtain ⟨_, qf⟩ := g_box8f HP13.out
        have qf1 := qf 1
        clear qf hl8
        go_upto_region 20 with (at_builtin; refine g_wpL_app _ rfl (.tmp 31) (.tmp 33) 24 24 rfl (.slice ah hs.length ch) (.slice ah hs.length ch) rfl rfl HRUN.out ?_)
        clear p0 p1 p2 p3 p4 p5 p6 p7 pf0 pf1 pf2 pf3 pf4 pf5 qf1 HRUN HS12 HP13
        have HEnd := hid (fun v0 v1 v2 v3 v4 v5 v6 v7 => gr_end HS13.out h0 HRw.out HE4.out v0 v1 v2 v3 v4 v5 v6 v7)
        obtain ⟨⟨p0, p1, p2, p3, p4, p5, p6, p7⟩, _⟩ := g_box8f HS13.out.p
        obtain ⟨⟨r0, r1, r2, r3, r4, r5, r6, r7⟩, rf⟩ := g_box8f HS13.out.r
        have rf0 := rf 0
        have rf1 := rf 1
        have rf2 := rf 2
        have rf3 := rf 3
        have rf4 := rf 4
        have rf5 := rf 5
        have rf6 := rf 6
        have rf7 := rf 7
        unfold gtV at HEnd
        simp only [HL8.out] at HEnd
        clear rf
        go_wp2_with fail
        refine bodyPost_ret (v := .agg #[.string nm, .slice a8 (hs.length + hs.length) c8, .int .i64 sk, .int .i64 nw, .int .i64 am, .slice aa la.length ca, .int .i64 rm, .slice ar lr.length cr]) (by simp [results, Tryz.results24, go_sem, r0, r1, r2, r3, r4, r5, r6, r7]) rfl (HEnd.out _ _ _ _ _ _ _ _)
      · have HB13 := hid ((Below.refl w12.heap.size w12).alloc (Nat.le_refl _) (.cells #[.int .i64 (-1), .int .i64 86400, .int .i64 86401] 2))
        have HS13 := hid (HS12.out.below HB13.out)
        have HI13 := hid (heap_alloc_new w12 (.cells #[.int .i64 (-1), .int .i64 86400, .int .i64 86401] 2))
        clear p0 p1 p2 p3 p4 p5 p6 p7 pf0 pf1 pf2 pf3 pf4 pf5 HS12 HB13
        go_wp2_with fail
        refine (cBelow 3 w0 a len cap b _ hlen HCR.out HS13.out.c (by decide) (by decide)).mono ?_
        rintro e w14 ⟨y, rfl, hy, hC14, hg14⟩
        have HS14 := hid (HS13.out.draw hC14 hg14)
        have HI14 := hid (blk_draw HI13.out hg14 (HS13.out.c.neT HI13.out (by decide)))
        clear hC14 hg14 HS13 HI13
        have hyz : ∃ z : Int, w14.cell? ⟨w12.heap.size, y, none⟩ = some (.int .i64 z) := by
          have hy3 : y = 0 ∨ y = 1 ∨ y = 2 := by omega
          rw [Lib.cell_of_heap HI14.out]
          rcases hy3 with rfl | rfl | rfl
          · exact ⟨-1, rfl⟩
          · exact ⟨86400, rfl⟩
          · exact ⟨86401, rfl⟩
        obtain ⟨z, hz7⟩ := hyz
        have hy3 : (y : Int) < 3 := by omega
        clear hy HI14
        obtain ⟨⟨p0, p1, p2, p3, p4, p5, p6, p7⟩, pf⟩ := g_box8f HS14.out.p
        have pf0 := pf 0
        have pf1 := pf 1
        have pf2 := pf 2
        have pf3 := pf 3
        have pf4 := pf 4
        have pf5 := pf 5
        clear pf
        go_upto_region 20 with fail
        have HK := hid (u_KeepB.of_set (p := fun k => k = P) w14 (g := P) 2 (.int .i64 z) rfl)
        have HS15 := hid (HS14.out.put (g' := ⟨nm, hs, z, nw, ⟨am, la⟩, ⟨rm, lr⟩⟩) h0 HPw.out HRP.out HK.out (u_heap_set (i := 2) HS14.out.p _) (let ho := HS14.out.o.keepP HS14.out.p HK.out; ⟨ho.h, ho.a, ho.r⟩))
        have HE4 := hid (show GtS 4 6 2 ⟨nm, hs, z, nw, ⟨am, la⟩, ⟨rm, lr⟩⟩ from ⟨HE3.out.nm, HE3.out.hl, HE3.out.hz, HE3.out.al, HE3.out.az, HE3.out.rl, HE3.out.rz⟩)
        clear p0 p1 p2 p3 p4 p5 p6 p7 pf0 pf1 pf2 pf3 pf4 pf5 HK HS14 hz7
        have HEnd := hid (fun v0 v1 v2 v3 v4 v5 v6 v7 => gr_end HS15.out h0 HRw.out HE4.out v0 v1 v2 v3 v4 v5 v6 v7)
        obtain ⟨⟨p0, p1, p2, p3, p4, p5, p6, p7⟩, _⟩ := g_box8f HS15.out.p
        obtain ⟨⟨r0, r1, r2, r3, r4, r5, r6, r7⟩, rf⟩ := g_box8f HS15.out.r
        have rf0 := rf 0
        have rf1 := rf 1
        have rf2 := rf 2
        have rf3 := rf 3
        have rf4 := rf 4
        have rf5 := rf 5
        have rf6 := rf 6
        have rf7 := rf 7
        unfold gtV at HEnd
        clear rf
        go_wp2_with fail
        refine bodyPost_ret (v := .agg #[.string nm, .slice ah hs.length ch, .int .i64 z, .int .i64 nw, .int .i64 am, .slice aa la.length ca, .int .i64 rm, .slice ar lr.length cr]) (by simp [results, Tryz.results24, go_sem, r0, r1, r2, r3, r4, r5, r6, r7]) rfl (HEnd.out _ _ _ _ _ _ _ _)
      · have HB13 := hid ((Below.refl w12.heap.size w12).alloc (Nat.le_refl _) (.cells #[.int .i64 (-1), .int .i64 3155759999, .int .i64 3155760000] 2))
        have HS13 := hid (HS12.out.below HB13.out)
        have HI13 := hid (heap_alloc_new w12 (.cells #[.int .i64 (-1), .int .i64 3155759999, .int .i64 3155760000] 2))
        clear p0 p1 p2 p3 p4 p5 p6 p7 pf0 pf1 pf2 pf3 pf4 pf5 HS12 HB13
        go_wp2_with fail
        refine (cBelow 3 w0 a len cap b _ hlen HCR.out HS13.out.c (by decide) (by decide)).mono ?_
        rintro e w14 ⟨y, rfl, hy, hC14, hg14⟩
        have HS14 := hid (HS13.out.draw hC14 hg14)
        have HI14 := hid (blk_draw HI13.out hg14 (HS13.out.c.neT HI13.out (by decide)))
        clear hC14 hg14 HS13 HI13
        have hyz : ∃ z : Int, w14.cell? ⟨w12.heap.size, y, none⟩ = some (.int .i64 z) := by
          have hy3 : y = 0 ∨ y = 1 ∨ y = 2 := by omega
          rw [Lib.cell_of_heap HI14.out]
          rcases hy3 with rfl | rfl | rfl
          · exact ⟨-1, rfl⟩
          · exact ⟨3155759999, rfl⟩
          · exact ⟨3155760000, rfl⟩
        obtain ⟨z, hz7⟩ := hyz
        have hy3 : (y : Int) < 3 := by omega
        clear hy HI14
        obtain ⟨⟨p0, p1, p2, p3, p4, p5, p6, p7⟩, pf⟩ := g_box8f HS14.out.p
        have pf0 := pf 0
        have pf1 := pf 1
        have pf2 := pf 2
        have pf3 := pf 3
        have pf4 := pf 4
        have pf5 := pf 5
        clear pf
        go_upto_region 20 with fail
        have HK := hid (u_KeepB.of_set (p := fun k => k = P) w14 (g := P) 3 (.int .i64 z) rfl)
        have HS15 := hid (HS14.out.put (g' := ⟨nm, hs, sk, z, ⟨am, la⟩, ⟨rm, lr⟩⟩) h0 HPw.out HRP.out HK.out (u_heap_set (i := 3) HS14.out.p _) (let ho := HS14.out.o.keepP HS14.out.p HK.out; ⟨ho.h, ho.a, ho.r⟩))
        have HE4 := hid (show GtS 4 6 2 ⟨nm, hs, sk, z, ⟨am, la⟩, ⟨rm, lr⟩⟩ from ⟨HE3.out.nm, HE3.out.hl, HE3.out.hz, HE3.out.al, HE3.out.az, HE3.out.rl, HE3.out.rz⟩)
        clear p0 p1 p2 p3 p4 p5 p6 p7 pf0 pf1 pf2 pf3 pf4 pf5 HK HS14 hz7
        have HEnd := hid (fun v0 v1 v2 v3 v4 v5 v6 v7 => gr_end HS15.out h0 HRw.out HE4.out v0 v1 v2 v3 v4 v5 v6 v7)
        obtain ⟨⟨p0, p1, p2, p3, p4, p5, p6, p7⟩, _⟩ := g_box8f HS15.out.p
        obtain ⟨⟨r0, r1, r2, r3, r4, r5, r6, r7⟩, rf⟩ := g_box8f HS15.out.r
        have rf0 := rf 0
        have rf1 := rf 1
        have rf2 := rf 2
        have rf3 := rf 3
        have rf4 := rf 4
        have rf5 := rf 5
        have rf6 := rf 6
        have rf7 := rf 7
        unfold gtV at HEnd
        clear rf
        go_wp2_with fail
        refine bodyPost_ret (v := .agg #[.string nm, .slice ah hs.length ch, .int .i64 sk, .int .i64 z, .int .i64 am, .slice aa la.length ca, .int .i64 rm, .slice ar lr.length cr]) (by simp [results, Tryz.results24, go_sem, r0, r1, r2, r3, r4, r5, r6, r7]) rfl (HEnd.out _ _ _ _ _ _ _ _)
      · clear p0 p1 p2 p3 p4 p5 p6 p7 pf0 pf1 pf2 pf3 pf4 pf5
        go_wp2_with fail
        refine (cDrawTb w0 a len cap b _ hlen HCR.out HS12.out.c).mono ?_
        rintro e w13 ⟨⟨tm, tl⟩, at13, ct13, rfl, ho13, hn13, hz13, hC13, hg13⟩
        have HS13 := hid (HS12.out.draw hC13 hg13)
        have HO13 := hid (u_own_base ho13 HS12.out.g.size)
        have HE4 := hid (show GtS 4 6 2 ⟨nm, hs, sk, nw, ⟨tm, tl⟩, ⟨rm, lr⟩⟩ from ⟨HE3.out.nm, HE3.out.hl, HE3.out.hz, hn13, hz13, HE3.out.rl, HE3.out.rz⟩)
        clear ho13 hn13 hz13 hC13 hg13 HS12
        unfold tbV
        simp only
        obtain ⟨⟨p0, p1, p2, p3, p4, p5, p6, p7⟩, pf⟩ := g_box8f HS13.out.p
        have pf0 := pf 0
        have pf1 := pf 1
        have pf2 := pf 2
        have pf3 := pf 3
        have pf4 := pf 4
        have pf5 := pf 5
        clear pf
        go_upto_region 20 with fail
        have HK := hid ((u_KeepB.of_set (p := fun k => k = P) w13 (g := P) 4 (.int .i64 tm) rfl).trans (u_KeepB.of_set (p := fun k => k = P) _ (g := P) 5 (.slice at13 tl.length ct13) rfl))
        have HS15 := hid (HS13.out.put (g' := ⟨nm, hs, sk, nw, ⟨tm, tl⟩, ⟨rm, lr⟩⟩) (aa' := at13) (ca' := ct13) h0 HPw.out HRP.out HK.out (u_heap_set (i := 5) (u_heap_set (i := 4) HS13.out.p _) _) (let ho := HS13.out.o.keepP HS13.out.p HK.out; ⟨ho.h, own_kp HO13.out HK.out (own_neT HO13.out HS13.out.p (by decide)), ho.r⟩))
        clear p0 p1 p2 p3 p4 p5 p6 p7 pf0 pf1 pf2 pf3 pf4 pf5 HK HS13
        have HEnd := hid (fun v0 v1 v2 v3 v4 v5 v6 v7 => gr_end HS15.out h0 HRw.out HE4.out v0 v1 v2 v3 v4 v5 v6 v7)
        obtain ⟨⟨p0, p1, p2, p3, p4, p5, p6, p7⟩, _⟩ := g_box8f HS15.out.p
        obtain ⟨⟨r0, r1, r2, r3, r4, r5, r6, r7⟩, rf⟩ := g_box8f HS15.out.r
        have rf0 := rf 0
        have rf1 := rf 1
        have rf2 := rf 2
        have rf3 := rf 3
        have rf4 := rf 4
        have rf5 := rf 5
        have rf6 := rf 6
        have rf7 := rf 7
        unfold gtV at HEnd
        clear rf
        go_wp2_with fail
        refine bodyPost_ret (v := .agg #[.string nm, .slice ah hs.length ch, .int .i64 sk, .int .i64 nw, .int .i64 tm, .slice at13 tl.length ct13, .int .i64 rm, .slice ar lr.length cr]) (by simp [results, Tryz.results24, go_sem, r0, r1, r2, r3, r4, r5, r6, r7]) rfl (HEnd.out _ _ _ _ _ _ _ _)
      · clear p0 p1 p2 p3 p4 p5 p6 p7 pf0 pf1 pf2 pf3 pf4 pf5
        go_wp2_with fail
        refine (cL6Draw w0 a len cap b _ hlen HCR.out HS12.out.c).mono ?_
        rintro e w13 ⟨k0, k1, k2, rfl, _, hC13, hg13⟩
        have HS13 := hid (HS12.out.draw hC13 hg13)
        have HB14 := hid ((Below.refl w13.heap.size w13).alloc (Nat.le_refl _) (.cells #[.string ⟨#[105, 100, 112]⟩, .int .i64 k0, .int .i64 k1, .int .i64 k2] 72))
        have HS14 := hid (HS13.out.below HB14.out)
        have HO14 := hid (show (w13.alloc (.cells #[.string ⟨#[105, 100, 112]⟩, .int .i64 k0, .int .i64 k1, .int .i64 k2] 72)).ownsRow w.heap.size 72 4 (.slice (some ⟨w13.heap.size, 0, none⟩) 1 1) 1 (hdC [⟨⟨#[105, 100, 112]⟩, k0, k1, k2⟩]) from ⟨rfl, .inr ⟨w13.heap.size, 1, _, rfl, HS13.out.g.size, heap_alloc_new _ _, Nat.le_refl _, by decide, rfl, rfl⟩⟩)
        have HE4 := hid (show GtS 4 6 2 ⟨nm, [⟨⟨#[105, 100, 112]⟩, k0, k1, k2⟩], sk, nw, ⟨am, la⟩, ⟨rm, lr⟩⟩ from ⟨HE3.out.nm, by show 1 ≤ 4; decide, fun x hx => by rw [List.mem_singleton.1 hx]; show 3 ≤ 10; decide, HE3.out.al, HE3.out.az, HE3.out.rl, HE3.out.rz⟩)
        clear hC13 hg13 HS12 HB14
        obtain ⟨⟨p0, p1, p2, p3, p4, p5, p6, p7⟩, pf⟩ := g_box8f HS14.out.p
        have pf0 := pf 0
        have pf1 := pf 1
        have pf2 := pf 2
        have pf3 := pf 3
        have pf4 := pf 4
        have pf5 := pf 5
        clear pf
        go_upto_region 20 with fail
        obtain ⟨w14, hw14⟩ : ∃ w14, w13.alloc (.cells #[.string ⟨#[105, 100, 112]⟩, .int .i64 k0, .int .i64 k1, .int .i64 k2] 72) = w14 := ⟨_, rfl⟩
        rw [hw14] at HS14 HO14 ⊢
        clear hw14
        have HK := hid (u_KeepB.of_set (p := fun k => k = P) w14 (g := P) 1 (.slice (some ⟨w13.heap.size, 0, none⟩) 1 1) rfl)
        have HS15 := hid (HS14.out.put (g' := ⟨nm, [⟨⟨#[105, 100, 112]⟩, k0, k1, k2⟩], sk, nw, ⟨am, la⟩, ⟨rm, lr⟩⟩) (ah' := some ⟨w13.heap.size, 0, none⟩) (ch' := 1) h0 HPw.out HRP.out HK.out (u_heap_set (i := 1) HS14.out.p _) (let ho := HS14.out.o.keepP HS14.out.p HK.out; ⟨own_kp HO14.out HK.out (own_neT HO14.out HS14.out.p (by decide)), ho.a, ho.r⟩))
        clear p0 p1 p2 p3 p4 p5 p6 p7 pf0 pf1 pf2 pf3 pf4 pf5 HK HS14 HS13
        have HEnd := hid (fun v0 v1 v2 v3 v4 v5 v6 v7 => gr_end HS15.out h0 HRw.out HE4.out v0 v1 v2 v3 v4 v5 v6 v7)
        obtain ⟨⟨p0, p1, p2, p3, p4, p5, p6, p7⟩, _⟩ := g_box8f HS15.out.p
        obtain ⟨⟨r0, r1, r2, r3, r4, r5, r6, r7⟩, rf⟩ := g_box8f HS15.out.r
        have rf0 := rf 0
        have rf1 := rf 1
        have rf2 := rf 2
        have rf3 := rf 3
        have rf4 := rf 4
        have rf5 := rf 5
        have rf6 := rf 6
        have rf7 := rf 7
        unfold gtV at HEnd
        clear rf
        go_wp2_with fail
        refine bodyPost_ret (v := .agg #[.string nm, .slice (some ⟨w13.heap.size, 0, none⟩) 1 1, .int .i64 sk, .int .i64 nw, .int .i64 am, .slice aa la.length ca, .int .i64 rm, .slice ar lr.length cr]) (by simp [results, Tryz.results24, go_sem, r0, r1, r2, r3, r4, r5, r6, r7]) rfl (HEnd.out _ _ _ _ _ _ _ _)

end Go.Proofs.YtgdfeicojgnoaaaGreatDoor
