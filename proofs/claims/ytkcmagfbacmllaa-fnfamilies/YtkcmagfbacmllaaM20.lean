/- Contract of the grower's read. Contract of l8Draw of the specification (the draw of a tree). Contracts of the draws of a tree that may be bent (l8DrawAny), of a place in it (l8DrawAt), of both (DrawEndOf, DrawKidsOf). -/
import Derived.Test.YtkcmagfbacmllaaM19
import Derived.Test.YtkcmagfbacmllaaM12
import Derived.Test.YtkcmagfbacmllaaM15
import Derived.Deep.CutRange
import Derived.Deep.RegionHeld3
import Derived.Laws.OwnMore
namespace Go.Proofs.Ytkcmagfbacmllaa
open Go.RowKit
set_option linter.unusedVariables false
set_option linter.unusedSimpArgs false

/-- What lies in the grower. -/
structure GrSt (w : World) (B g : Nat) (nv pv : Value) (s : ISt) (es : List Nd.E) : Prop where
  blk : w.heap[g]? = some (.cells #[nv, pv] 92 (0, 0))
  row : Nd.Row w B nv es
  pile : PileE w B g 1 #[nv, pv] 92 pv s.op
  map : es.map (·.t) = s.out

theorem GrSt.below {w w' : World} {B g : Nat} {nv pv : Value} {s : ISt} {es : List Nd.E} (h : GrSt w B g nv pv s es) (hb : Below w.heap.size w w') : GrSt w' B g nv pv s es :=
  ⟨(hb.block g (lt_of_heap h.blk)).trans h.blk, h.row.below hb, h.pile.below hb, h.map⟩

theorem Nd.Row.keepB {w w' : World} {B : Nat} {v : Value} {es : List Nd.E} {p : Nat → Prop} (h : Nd.Row w B v es) (hk : KeepB p w w') (hp : ∀ k, p k → ∀ c e fz, w.heap[k]? = some (.cells c e fz) → e ≠ 34 ∧ e ≠ 115) : Nd.Row w' B v es := by
  refine ⟨⟨h.own.1, ?_⟩, fun e he => ⟨fun hl => ?_, (h.ats e he).2⟩, h.apart⟩
  · rcases h.own.2 with h' | ⟨g, cap, cur, h1, h2, h3, h4⟩
    · exact .inl h'
    · exact .inr ⟨g, cap, cur, h1, h2, (hk.block g (lt_of_heap h3) (fun hpg => (hp g hpg _ _ _ h3).1 rfl)).trans h3, h4⟩
  · obtain ⟨g, o, cu, e1, e2, e3, e4⟩ := (h.ats e he).1 hl
    exact ⟨g, o, cu, e1, e2, (hk.block g (lt_of_heap e3) (fun hpg => (hp g hpg _ _ _ e3).2 rfl)).trans e3, e4⟩

theorem Nd.Row.kind {w : World} {B : Nat} {v : Value} {es : List Nd.E} (h : Nd.Row w B v es) : ∀ k, v.ownBlock = some k → ∃ c fz, w.heap[k]? = some (.cells c 34 fz) := by
  intro k hk
  rcases h.own.2 with ⟨rfl, _⟩ | ⟨g, cap, cur, rfl, _, hh, _⟩
  · cases hk
  · have : g = k := Option.some.inj hk
    subst this
    exact ⟨_, _, hh⟩

theorem join_facts {w1 w3 : World} {B : Nat} {nv : Value} {es : List Nd.E} {P : Int} {nm tx : ByteArray} {l : List At} {a5 : Option Addr} {c5 : Nat} (hrow1 : Nd.Row w1 B nv es) (h13 : Below w1.heap.size w1 w3) (hoa : OwnAts w3 w1.heap.size a5 l) (hB : B ≤ w1.heap.size) :
    Nd.Row (w3.alloc (.cells #[.int .i64 P, .string nm, .slice a5 l.length c5, .string tx] 34)) B nv es
    ∧ (∀ j u, (Nd.cs [⟨⟨P, nm, l, tx⟩, a5, c5⟩])[j]? = some u → (w3.alloc (.cells #[.int .i64 P, .string nm, .slice a5 l.length c5, .string tx] 34)).cell? ((⟨w3.heap.size, 0, none⟩ : Addr).add j) = some u)
    ∧ (∀ e ∈ [(⟨⟨P, nm, l, tx⟩, a5, c5⟩ : Nd.E)], OwnAts (w3.alloc (.cells #[.int .i64 P, .string nm, .slice a5 l.length c5, .string tx] 34)) B e.a e.t.attrs ∧ ∀ g o, 0 < e.t.attrs.length → e.a = some ⟨g, o, none⟩ → ¬ nv.ownBlock = some g)
    ∧ (∀ e ∈ es, ∀ f ∈ [(⟨⟨P, nm, l, tx⟩, a5, c5⟩ : Nd.E)], Nd.Apart e f) ∧ B ≤ (w3.alloc (.cells #[.int .i64 P, .string nm, .slice a5 l.length c5, .string tx] 34)).heap.size := by
  have M6 := heap_alloc_new w3 (.cells #[.int .i64 P, .string nm, .slice a5 l.length c5, .string tx] 34)
  have HL6 := (Below.refl w3.heap.size w3).alloc (Nat.le_refl _) (.cells #[.int .i64 P, .string nm, .slice a5 l.length c5, .string tx] 34)
  have HO6 := Nd.Row.one (B := w1.heap.size) (e := ⟨⟨P, nm, l, tx⟩, a5, c5⟩) h13.size M6 (hoa.below HL6) (fun g o h e => by
    obtain ⟨g', o', cu, e', _, hh, _⟩ := hoa h
    simp only at e
    rw [e] at e'
    cases e'
    have := lt_of_heap hh
    omega)
  obtain ⟨g4, hg4, hone, hcell⟩ := HO6.cells (by simp)
  cases hg4
  obtain ⟨hap, hnb⟩ := hrow1.apart_later HO6 (Nat.le_refl _)
  exact ⟨(hrow1.below h13).below HL6, hcell, fun e he => ⟨((HO6.mono hB).ats e he).1, hnb e he⟩, hap, by simp; have := h13.size; omega⟩

/-- A node is told. -/
theorem GrSt.pushed {W w7 : World} {B g : Nat} {nv pv v7 : Value} {s s' : ISt} {es es7 : List Nd.E} (h : GrSt W B g nv pv s es) (hg : W.grownBy w7 nv.ownBlock) (hr : Nd.Row w7 B v7 es7) (hm : es7.map (·.t) = s'.out) (hop : s'.op = s.op) : GrSt (w7.setCell ⟨g, 0, none⟩ v7) B g v7 pv s' es7 := by
  have hb7 := blk_grownR h.blk hg h.row.kind (by decide)
  have hb8 : (w7.setCell ⟨g, 0, none⟩ v7).heap[g]? = some (.cells #[v7, pv] 92 (0, 0)) := heap_setCell_same w7 g 0 _ _ v7 hb7
  have hp7 := h.pile.grownR hg h.row.kind (by decide) (by decide)
  refine ⟨hb8, hr.keepB (KeepB.of_set (p := fun k => k = g) w7 0 v7 rfl) (fun k hk c e fz hh => ?_), ?_, hm⟩
  · subst hk
    rw [hb7] at hh
    injection hh with hh
    injection hh with _ h2 _
    subst h2
    exact ⟨by decide, by decide⟩
  · rw [hop]
    exact ⟨hp7.ge, hb8, rfl, own_set hp7.row hp7.own_ne 0 v7, hp7.ne⟩

/-- An element is laid on the pile. -/
theorem GrSt.laid {w8 w9 : World} {B g : Nat} {nv pv v9 : Value} {s s' : ISt} {es : List Nd.E} (h : GrSt w8 B g nv pv s es) (hk : KeepB (fun k => k = g ∨ pv.ownBlock = some k) w8 w9) (hp : PileE w9 B g 1 (#[nv, pv].setIfInBounds 1 v9) 92 v9 s'.op) (hm : s'.out = s.out) : GrSt w9 B g nv v9 s' es := by
  refine ⟨hp.blk, h.row.keepB hk (fun k hk c e fz hh => ?_), hp, h.map.trans hm.symm⟩
  rcases hk with hk | hk
  · subst hk
    rw [h.blk] at hh
    injection hh with hh
    injection hh with _ h2 _
    subst h2
    exact ⟨by decide, by decide⟩
  · obtain ⟨c2, fz2, h3⟩ := h.pile.kindR k hk
    rw [h3] at hh
    injection hh with hh
    injection hh with _ h2 _
    subst h2
    exact ⟨by decide, by decide⟩

/-- A block of another kind stands where the pile grows. -/
theorem GrSt.other {w8 w9 : World} {B g b : Nat} {nv pv : Value} {s : ISt} {es : List Nd.E} (h : GrSt w8 B g nv pv s es) (hk : KeepB (fun k => k = g ∨ pv.ownBlock = some k) w8 w9) {c : Array Value} {T : TypeId} (hb : w8.heap[b]? = some (.cells c T (0, 0))) (h1 : ¬ b = g) (h2 : T ≠ 94) : w9.heap[b]? = some (.cells c T (0, 0)) := by
  refine (hk.block b (lt_of_heap hb) (fun hp => ?_)).trans hb
  rcases hp with hp | hp
  · exact h1 hp
  · obtain ⟨c2, fz2, h3⟩ := h.pile.kindR b hp
    rw [h3] at hb
    injection hb with hb
    injection hb with _ h4 _
    exact h2 h4.symm

/-- What read answers, and what it leaves. -/
def ReadPost (B g : Nat) (s : ISt) (t : Tk) (w : World) (e : Ending) (w' : World) : Prop :=
  (e = .returned (.bool false) ∧ iStep s t = none ∧ Below B w w') ∨ ∃ s' nv pv es, e = .returned (.bool true) ∧ iStep s t = some s' ∧ GrSt w' B g nv pv s' es ∧ Below B w w'

set_option maxRecDepth 8000 in
set_option maxHeartbeats 8000000 in
theorem cRead (B g : Nat) (nv pv : Value) (s : ISt) (es : List Nd.E) (t : Tk) (a : Option Addr) (cap : Nat) (w : World) (hS : GrSt w B g nv pv s es) (hR : AtRow w a t.attrs) (hz : TkSz 1048576 t) (hl1 : es.length ≤ 1048576) (hl2 : s.op.length ≤ 1048576) :
    Calls Try.prog 63 #[.pointer (some ⟨g, 0, none⟩), tkV t a cap] w (ReadPost B g s t w) := by
  have HST0 := hid hS
  have hgB := hS.pile.ge
  have hgl := lt_of_heap hS.blk
  have HOP := hid hl2
  obtain ⟨k, nm, l, tx⟩ := t
  have HZ := hid hz
  have z1 := hz.1
  simp only at hR z1
  have HB0 := hid ((Below.refl w.heap.size w).alloc (Nat.le_refl _) (.cells #[.int .i64 k, .string nm, .slice a l.length cap, .string tx] 78))
  have M0 := hid (heap_alloc_new w (.cells #[.int .i64 k, .string nm, .slice a l.length cap, .string tx] 78))
  have CR := hid (hR.below HB0.out)
  have CO := hid (fun wx (h : AtRow wx a l) => cTokenOkI ⟨k, nm, l, tx⟩ a cap wx h HZ.out)
  have CC := hid (fun wx (h : AtRow wx a l) => cCopiedToken ⟨k, nm, l, tx⟩ a cap wx h HZ.out)
  have HB : B ≤ w.heap.size := by omega
  simp only [tkV] at CO CC ⊢
  obtain ⟨n, hn⟩ : ∃ n, l.length = n := ⟨_, rfl⟩
  have HN := hid hn
  rw [hn] at HB0 M0 CR CO CC ⊢
  clear hS hR hz hn hl2
  cases q1 : tokB ⟨k, nm, l, tx⟩
  · rw [q1] at CO
    have HW := hid (iStep_no (s := s) q1)
    clear q1 CC
    go_enter Try.func63, Try.ntmps63
    go_wp2_with fail
    refine (CO.out _ CR.out).mono ?_
    rintro e w1 ⟨rfl, hb1⟩
    have HB1 := hid ((bb HB0.out hb1).mono HB)
    clear hb1
    go_wp2_with fail
    go_ret
    exact .inl ⟨rfl, HW.out, HB1.out⟩
  rw [q1] at CO
  have HQ1 := hid q1
  clear q1
  by_cases hk2 : k = 2
  · subst hk2
    cases hop : s.op with
    | nil =>
      have HW := hid (iStep_end0 (s := s) (k := ⟨2, nm, l, tx⟩) rfl hop)
      go_enter Try.func63, Try.ntmps63
      go_wp2_with fail
      refine (CO.out _ CR.out).mono ?_
      rintro e w1 ⟨rfl, hb1⟩
      have HB1 := hid (bb HB0.out hb1)
      have hp1 := HST0.out.pile.below HB1.out
      rw [hop] at hp1
      have CE := hid (cEnds0 B g _ _ _ nm w1 hp1)
      obtain ⟨⟨x0, x1, x2, x3⟩, _⟩ := box4 (blk_below M0.out hb1)
      clear hb1 hp1 hop
      go_wp2_with fail
      refine CE.out.mono ?_
      rintro e w2 ⟨rfl, hb2⟩
      have HB2 := hid ((bb HB1.out hb2).mono HB)
      clear hb2
      go_wp2_with fail
      go_ret
      exact .inl ⟨rfl, HW.out, HB2.out⟩
    | cons x r =>
      have hr1 : r.length ≤ 1048576 := by have := HOP.out; rw [hop, List.length_cons] at this; omega
      have HOPE := hid hop
      clear hop
      go_enter Try.func63, Try.ntmps63
      go_wp2_with fail
      refine (CO.out _ CR.out).mono ?_
      rintro e w1 ⟨rfl, hb1⟩
      have HB1 := hid (bb HB0.out hb1)
      have HS1 := hid (HST0.out.below HB1.out)
      have hp1 := HS1.out.pile
      rw [HOPE.out] at hp1
      have CE := hid (cEnds B g _ _ _ x r nm w1 hp1 hr1 z1)
      obtain ⟨⟨x0, x1, x2, x3⟩, _⟩ := box4 (blk_below M0.out hb1)
      clear hb1 hp1
      go_wp2_with fail
      refine CE.out.mono ?_
      rintro e w2 ⟨rfl, ⟨v', hp2⟩, hk2⟩
      have HP2 := hid hp2
      have HK2 := hid hk2
      have HB2 := hid ((HB1.out.mono HB).trans (hk2.below (by have := HB1.out.size; omega) (fun k hk => by subst hk; exact hgB)))
      clear hp2 hk2 CE
      by_cases hx : x.2 = nm
      · have HW := hid (iStep_end (s := s) (k := ⟨2, nm, l, tx⟩) HQ1.out rfl HOPE.out hx)
        rw [decide_eq_true hx]
        clear hx
        go_wp2_with fail
        go_ret
        exact .inr ⟨⟨s.out, r⟩, nv, v', es, rfl, HW.out, ⟨HP2.out.blk, HS1.out.row.keepB HK2.out (fun k hk c e fz hh => by
          subst hk
          rw [HS1.out.blk] at hh
          injection hh with hh
          injection hh with _ h2 _
          subst h2
          exact ⟨by decide, by decide⟩), HP2.out, HS1.out.map⟩, HB2.out⟩
      · have HW := hid (iStep_end2 (s := s) (k := ⟨2, nm, l, tx⟩) rfl HOPE.out hx)
        rw [decide_eq_false hx]
        clear hx
        go_wp2_with fail
        go_ret
        exact .inl ⟨rfl, HW.out, HB2.out⟩
  have hdk2 : (k == 2) = false := by simpa using hk2
  have HSTEP := hid (iStep_new (s := s) HQ1.out hk2)
  simp only at HSTEP
  clear hk2
  go_enter Try.func63, Try.ntmps63
  go_wp2_with fail
  refine (CO.out _ CR.out).mono ?_
  rintro e w1 ⟨rfl, hb1⟩
  have HB1 := hid (bb HB0.out hb1)
  have HS1 := hid (HST0.out.below HB1.out)
  have CR1 := hid (CR.out.below hb1)
  have M1 := hid (blk_below M0.out hb1)
  obtain ⟨⟨x0, x1, x2, x3⟩, _⟩ := box4 M1.out
  have hw1 : w.heap.size < w1.heap.size := lt_of_heap M1.out
  clear hb1 CO M0 HB0 CR
  obtain ⟨na, nc, hnv⟩ := HS1.out.row.slice
  obtain ⟨L, hL⟩ : ∃ L, es.length = L := ⟨_, rfl⟩
  have HL := hid hL
  rw [hL] at hnv hl1
  clear hL
  subst hnv
  go_upto_region 5 with fail
  go_cut [5, 6] from 17 to 52 (fun x y wv => ∃ (b5 : Nat) (a5 : Option Addr) (c5 : Nat), x = .pointer (some ⟨b5, 0, none⟩) ∧ y = .int .i64 (L : Int) ∧ Hid (wv.heap[b5]? = some (.cells #[.int .i64 k, .string nm, .slice a5 n c5, .string tx] 78 (0, 0)) ∧ w1.heap.size ≤ b5 ∧ OwnAts wv w1.heap.size a5 l ∧ Below w1.heap.size w1 wv))
  case first =>
    have HBc := hid ((Below.refl w1.heap.size w1).drew)
    obtain ⟨k0, k1, k2, k3, _, _, _, _⟩ := box4_later M1.out
    have R0 := hid k0
    have R1 := hid k1
    have R2 := hid k2
    have R3 := hid k3
    have R4 := hid (fun (W' : World) (h : Below w1.heap.size w1 W') => (h.cell (p := ⟨g, 0, none⟩) (lt_of_heap HS1.out.blk)).trans (box2e HS1.out.blk).1.1)
    have HBz := hid (((Below.refl w1.heap.size w1).alloc (Nat.le_refl _) (.cells #[.int .i64 0, .string ⟨#[]⟩, .slice none 0 0, .string ⟨#[]⟩] 78)).drew)
    have MZ := hid (show (w1.alloc (.cells #[.int .i64 0, .string ⟨#[]⟩, .slice none 0 0, .string ⟨#[]⟩] 78)).drew.heap[w1.heap.size]? = some (.cells #[.int .i64 0, .string ⟨#[]⟩, .slice none 0 0, .string ⟨#[]⟩] 78 (0, 0)) from heap_alloc_new w1 _)
    have hn1 : ¬ w1.heap.size = w.heap.size := by omega
    have hn2 : ¬ w1.heap.size = g := by have := lt_of_heap HS1.out.blk; omega
    clear k0 k1 k2 k3 x0 x1 x2 x3
    go_region_held3 (fun w' => w'.cell? ⟨w.heap.size, 0, none⟩ = some (.int .i64 k) ∧ w'.cell? ⟨w.heap.size, 1, none⟩ = some (.string nm) ∧ w'.cell? ⟨w.heap.size, 2, none⟩ = some (.slice a n cap) ∧ w'.cell? ⟨w.heap.size, 3, none⟩ = some (.string tx) ∧ w'.cell? ⟨g, 0, none⟩ = some (.slice na L nc))
      (first | exact ⟨R0.out _ HBc.out, R1.out _ HBc.out, R2.out _ HBc.out, R3.out _ HBc.out, R4.out _ HBc.out⟩ | exact ⟨R0.out _ (HBc.out.alloc HBc.out.size _), R1.out _ (HBc.out.alloc HBc.out.size _), R2.out _ (HBc.out.alloc HBc.out.size _), R3.out _ (HBc.out.alloc HBc.out.size _), R4.out _ (HBc.out.alloc HBc.out.size _)⟩ | exact ⟨R0.out _ HBz.out, R1.out _ HBz.out, R2.out _ HBz.out, R3.out _ HBz.out, R4.out _ HBz.out⟩ | exact ⟨(set4_far hn1).trans (R0.out _ HBc.out), (set4_far hn1).trans (R1.out _ HBc.out), (set4_far hn1).trans (R2.out _ HBc.out), (set4_far hn1).trans (R3.out _ HBc.out), (set4_far hn2).trans (R4.out _ HBc.out)⟩ | go_keep)
      (first
        | (go_at_call 73; refine (CC.out _ (CR1.out.below HBc.out)).mono ?_; rintro e w2 ⟨a5, c5, rfl, ha5, hb5⟩; have HA5 := hid (ha5.mono HBc.out.size); replace HBc := hid (bb HBc.out hb5); clear hb5 ha5)
        | (go_at_call 73; refine (CC.out _ (CR1.out.below HBz.out)).mono ?_; rintro e w2 ⟨a5, c5, rfl, ha5, hb5⟩; have HA5 := hid (ha5.mono (B := w1.heap.size + 1) (by simp)); have HZ5 := hid (blk_below MZ.out hb5); obtain ⟨⟨z0, z1, z2, z3⟩, zf0, zf1, zf2, zf3⟩ := box4 HZ5.out; replace HBc := hid (bb HBz.out hb5); clear hb5 ha5))
    · go_wp2_with fail
      go_meet
      exact ⟨w2.heap.size, a5, c5, rfl, rfl, heap_alloc_new w2 _, HBc.out.size, HA5.out.below ((Below.refl _ _).alloc (Nat.le_refl _) _), HBc.out.alloc HBc.out.size _⟩
    · go_wp2_with fail
      go_meet
      exact ⟨w1.heap.size, a5, c5, rfl, rfl, box_set4 HZ5.out, Nat.le_refl _, ((((HA5.out.set (Nat.lt_succ_self _) 0 _).set (Nat.lt_succ_self _) 1 _).set (Nat.lt_succ_self _) 2 _).set (Nat.lt_succ_self _) 3 _).mono (Nat.le_succ _), (((HBc.out.setCell (p := ⟨w1.heap.size, 0, none⟩) (Nat.le_refl _) _).setCell (p := ⟨w1.heap.size, 1, none⟩) (Nat.le_refl _) _).setCell (p := ⟨w1.heap.size, 2, none⟩) (Nat.le_refl _) _).setCell (p := ⟨w1.heap.size, 3, none⟩) (Nat.le_refl _) _⟩
  case rest =>
    obtain ⟨b5, a5, c5, rfl, rfl, HX⟩ := hcut
    obtain ⟨hM5, hb5, hoa, hbl⟩ := HX.out
    have hnn := HN.out
    subst hnn
    have HSV := hid (HS1.out.below hbl)
    have M5 := hid hM5
    have HOA := hid hoa
    have HBL := hid hbl
    have M1c := hid (blk_below M1.out hbl)
    obtain ⟨P, hP⟩ : ∃ P, parE s.op = P := ⟨_, rfl⟩
    have HP := hid hP
    have CP := hid (fun wx (h : Below wc.heap.size wc wx) => cParent B g _ _ pv s.op wx (HSV.out.pile.below h) HOP.out)
    rw [hP] at CP
    have hnb5 : ¬ b5 = g := by have := lt_of_heap HS1.out.blk; omega
    have hnb3 : ¬ w.heap.size = g := by omega
    have hBw1 : B ≤ w1.heap.size := by omega
    have hn7 : es.length + [(⟨⟨P, nm, l, tx⟩, a5, c5⟩ : Nd.E)].length ≤ 2097152 := by rw [HL.out]; simp; omega
    have HN7 := hid hn7
    have HL10 := hid (show (es ++ [(⟨⟨P, nm, l, tx⟩, a5, c5⟩ : Nd.E)]).length = L + 1 by rw [List.length_append, HL.out]; rfl)
    clear hM5 hoa hbl HX hP hn7
    go_upto_region 6 with fail
    go_cut [39] from 17 to 52 (fun x wv => ∃ (w3 w7 : World) (a7 : Option Addr) (c7 : Nat), wv = w7.setCell ⟨g, 0, none⟩ (.slice a7 (L + 1) c7) ∧ Hid (Below wc.heap.size wc w3 ∧ Nd.Row w7 B (.slice a7 (L + 1) c7) (es ++ [⟨⟨P, nm, l, tx⟩, a5, c5⟩]) ∧ Below B (w3.alloc (.cells #[.int .i64 P, .string nm, .slice a5 l.length c5, .string tx] 34)) w7 ∧ (w3.alloc (.cells #[.int .i64 P, .string nm, .slice a5 l.length c5, .string tx] 34)).grownBy w7 (Value.slice na L nc).ownBlock))
    case first =>
      have HBc := hid ((Below.refl wc.heap.size wc).drew)
      obtain ⟨k0, k1, k2, k3, _, _, _, _⟩ := box4_later M5.out
      have R1 := hid k1
      have R2 := hid k2
      have R3 := hid k3
      have gc0 := hid (show ∀ W', Below wc.heap.size wc W' → W'.cell? ⟨g, 0, none⟩ = some (.slice na L nc) from fun W' h => (h.cell (p := ⟨g, 0, none⟩) (lt_of_heap HSV.out.blk)).trans (box2e HSV.out.blk).1.1)
      have gcA := gc0.out _ (Below.refl _ _)
      clear k0 k1 k2 k3
      --R6
      refine wp_region_held_drew (S := fun w' => w'.cell? ⟨b5, 1, none⟩ = some (.string nm) ∧ w'.cell? ⟨b5, 2, none⟩ = some (.slice a5 l.length c5) ∧ w'.cell? ⟨b5, 3, none⟩ = some (.string tx)) (by kernel_rfl) ⟨R1.out _ HBc.out, R2.out _ HBc.out, R3.out _ HBc.out⟩ (fun hHeld => ?_)
      refine wpAnyH_take (i := 0) (v := ?_) rfl (by kernel_rfl) (by kernel_rfl) (by kernel_rfl) (fun _ _ _ h => h) (Or.inl ⟨by rfl, ?_⟩) (by assumption) ?_
      rotate_left
      · intro w hSw
        try dsimp only at hSw
        go_simp
        try (with_reducible rfl)
      try simp only [Act.put, List.setIfInBounds_toArray, List.set_cons_zero, List.set_cons_succ]
      refine wpAnyH_take (i := 1) (v := ?_) rfl (by kernel_rfl) (by kernel_rfl) (by kernel_rfl) (fun _ _ _ h => h) (Or.inl ⟨by rfl, ?_⟩) (by assumption) ?_
      rotate_left
      · intro w hSw
        try dsimp only at hSw
        go_simp
        try (with_reducible rfl)
      try simp only [Act.put, List.setIfInBounds_toArray, List.set_cons_zero, List.set_cons_succ]
      refine wpAnyH_take (i := 2) (v := ?_) rfl (by kernel_rfl) (by kernel_rfl) (by kernel_rfl) (fun _ _ _ h => h) (Or.inl ⟨by rfl, ?_⟩) (by assumption) ?_
      rotate_left
      · intro w hSw
        try dsimp only at hSw
        go_simp
        try (with_reducible rfl)
      try simp only [Act.put, List.setIfInBounds_toArray, List.set_cons_zero, List.set_cons_succ]
      refine wpAnyH_take (i := 3) (v := ?_) rfl (by kernel_rfl) (by kernel_rfl) (by kernel_rfl) (fun _ _ _ h => h) (Or.inl ⟨by rfl, ?_⟩) (by assumption) ?_
      rotate_left
      · intro w hSw
        try dsimp only at hSw
        go_simp
        try (with_reducible rfl)
      try simp only [Act.put, List.setIfInBounds_toArray, List.set_cons_zero, List.set_cons_succ]
      refine wpAnyH_take (i := 5) (v := ?_) rfl (by kernel_rfl) (by kernel_rfl) (by kernel_rfl) (fun _ _ _ h => h) (Or.inl ⟨by rfl, ?_⟩) (by assumption) ?_
      rotate_left
      · intro w hSw
        try dsimp only at hSw
        go_simp
        try (with_reducible rfl)
      try simp only [Act.put, List.setIfInBounds_toArray, List.set_cons_zero, List.set_cons_succ]
      refine wpAnyH_take (i := 7) (v := ?_) rfl (by kernel_rfl) (by kernel_rfl) (by kernel_rfl) (fun _ _ _ h => h) (Or.inl ⟨by rfl, ?_⟩) (by assumption) ?_
      rotate_left
      · intro w hSw
        try dsimp only at hSw
        go_simp
        try (with_reducible rfl)
      try simp only [Act.put, List.setIfInBounds_toArray, List.set_cons_zero, List.set_cons_succ]
      refine wpAnyH_take (i := 8) (v := ?_) rfl (by kernel_rfl) (by kernel_rfl) (by kernel_rfl) (fun _ _ _ h => h) (Or.inl ⟨by rfl, ?_⟩) (by assumption) ?_
      rotate_left
      · intro w hSw
        try dsimp only at hSw
        go_simp
        try (with_reducible rfl)
      try simp only [Act.put, List.setIfInBounds_toArray, List.set_cons_zero, List.set_cons_succ]
      refine wpAnyH_take (i := 9) (v := ?_) rfl (by kernel_rfl) (by kernel_rfl) (by kernel_rfl) (fun _ _ _ h => h) (Or.inl ⟨by rfl, ?_⟩) (by assumption) ?_
      rotate_left
      · intro w hSw
        try dsimp only at hSw
        go_simp
        try (with_reducible rfl)
      try simp only [Act.put, List.setIfInBounds_toArray, List.set_cons_zero, List.set_cons_succ]
      refine wpAnyH_take (i := 10) (v := ?_) rfl (by kernel_rfl) (by kernel_rfl) (by kernel_rfl) (fun _ _ _ h => h) (Or.inl ⟨by rfl, ?_⟩) (by assumption) ?_
      rotate_left
      · intro w hSw
        try dsimp only at hSw
        go_simp
        try (with_reducible rfl)
      try simp only [Act.put, List.setIfInBounds_toArray, List.set_cons_zero, List.set_cons_succ]
      refine wpAnyH_take (i := 11) (v := ?_) rfl (by kernel_rfl) (by kernel_rfl) (by kernel_rfl) (fun _ _ _ h => h) (Or.inl ⟨by rfl, ?_⟩) (by assumption) ?_
      rotate_left
      · intro w hSw
        try dsimp only at hSw
        go_simp
        try (with_reducible rfl)
      try simp only [Act.put, List.setIfInBounds_toArray, List.set_cons_zero, List.set_cons_succ]
      refine wpAnyH_take (i := 12) (v := ?_) rfl (by kernel_rfl) (by kernel_rfl) (by kernel_rfl) (fun _ _ _ h => h) (Or.inl ⟨by rfl, ?_⟩) (by assumption) ?_
      rotate_left
      · intro w hSw
        try dsimp only at hSw
        go_simp
        try (with_reducible rfl)
      try simp only [Act.put, List.setIfInBounds_toArray, List.set_cons_zero, List.set_cons_succ]
      refine wpAnyH_ready (rs := [4, 6]) (by kernel_rfl) (by simp) (AllReadyH.cons rfl (fun K hK => ?_) (AllReadyH.cons rfl (fun K hK => ?_) AllReadyH.nil))
      · go_simp
        refine hK.out _ _ ?_ (fun hHeld => ?_)
        · exact ⟨R1.out _ HBc.out, R2.out _ HBc.out, R3.out _ HBc.out⟩
        clear hK K
        try simp only [Act.put, List.setIfInBounds_toArray, List.set_cons_zero, List.set_cons_succ]
        refine wpAnyH_ready (rs := [6]) (by kernel_rfl) (by simp) (AllReadyH.cons rfl (fun K hK => ?_) AllReadyH.nil)
        · go_simp
          refine (CP.out _ HBc.out).mono ?_
          rintro e w3 ⟨rfl, hb3⟩
          replace HBc := hid (bb HBc.out hb3)
          have gc3 := gc0.out _ HBc.out
          have gc4 := gc0.out _ (HBc.out.alloc HBc.out.size (.cells #[.int .i64 P, .string nm, .slice a5 l.length c5, .string tx] 34))
          clear hb3
          go_wp2_with fail
          refine hK.out _ _ ?_ (fun hHeld => ?_)
          · exact ⟨R1.out _ HBc.out, R2.out _ HBc.out, R3.out _ HBc.out⟩
          clear hK K
          try simp only [Act.put, List.setIfInBounds_toArray, List.set_cons_zero, List.set_cons_succ]
          refine wpAnyH_take (i := 13) (v := ?_) rfl (by kernel_rfl) (by kernel_rfl) (by kernel_rfl) (fun _ _ _ h => h) (Or.inl ⟨by rfl, ?_⟩) (by assumption) ?_
          rotate_left
          · intro w hSw
            try dsimp only at hSw
            go_simp
            try (with_reducible rfl)
          try simp only [Act.put, List.setIfInBounds_toArray, List.set_cons_zero, List.set_cons_succ]
          refine wpAnyH_ready (rs := [14]) (by kernel_rfl) (by simp) (AllReadyH.cons rfl (fun K hK => ?_) AllReadyH.nil)
          · go_simp
            refine hK.out _ _ ?_ (fun hHeld => ?_)
            · exact ⟨R1.out _ (HBc.out.alloc HBc.out.size _), R2.out _ (HBc.out.alloc HBc.out.size _), R3.out _ (HBc.out.alloc HBc.out.size _)⟩
            clear hK K
            try simp only [Act.put, List.setIfInBounds_toArray, List.set_cons_zero, List.set_cons_succ]
            refine wpAnyH_ready (rs := [15]) (by kernel_rfl) (by simp) (AllReadyH.cons rfl (fun K hK => ?_) AllReadyH.nil)
            · refine Nd.step_join rfl (.tmp 28) (.tmp 38) rfl B (.slice na L nc) es [⟨⟨P, nm, l, tx⟩, a5, c5⟩] (by simp [Act.eval, Act.put]) (join_facts HS1.out.row (bb HBL.out HBc.out) (HOA.out.below HBc.out) hBw1).1 w3.heap.size 1 1 (by simp [Act.eval, Act.put]) rfl (join_facts HS1.out.row (bb HBL.out HBc.out) (HOA.out.below HBc.out) hBw1).2.1 (join_facts HS1.out.row (bb HBL.out HBc.out) (HOA.out.below HBc.out) hBw1).2.2.1 (List.pairwise_singleton _ _) (join_facts HS1.out.row (bb HBL.out HBc.out) (HOA.out.below HBc.out) hBw1).2.2.2.1 HN7.out (join_facts HS1.out.row (bb HBL.out HBc.out) (HOA.out.below HBc.out) hBw1).2.2.2.2 ?_
              intro a7 c7 w7 hr7 hb7 hg7
              have HR7 := hid hr7
              have HB7 := hid hb7
              have HG7 := hid hg7
              have HL6 := hid ((Below.refl w3.heap.size w3).alloc (Nat.le_refl _) (.cells #[.int .i64 P, .string nm, .slice a5 l.length c5, .string tx] 34))
              have HSW := hid ((HSV.out.below HBc.out).below HL6.out)
              have M57 := hid (blk_grownR (blk_below (blk_below M5.out HBc.out) HL6.out) hg7 HSW.out.row.kind (by decide))
              have hg0 := blk_grownR HSW.out.blk hg7 HSW.out.row.kind (by decide)
              have gc7 := (box2e hg0).1.1
              have gf7 := (box2e hg0).2.1
              have HK7 := hid (And.intro (box4 M57.out).1.2.1 (And.intro (box4 M57.out).1.2.2.1 (box4 M57.out).1.2.2.2))
              clear hr7 hb7 hg7 hg0
              refine hK.out _ _ ?_ (fun hHeld => ?_)
              · exact HK7.out
              clear hK K
              try simp only [Act.put, List.setIfInBounds_toArray, List.set_cons_zero, List.set_cons_succ]
              refine wpAnyH_take (i := 16) (v := ?_) rfl (by kernel_rfl) (by kernel_rfl) (by kernel_rfl) (fun _ _ _ h => h) (Or.inl ⟨by rfl, ?_⟩) (by assumption) ?_
              rotate_left
              · intro w hSw
                try dsimp only at hSw
                go_simp
                try (with_reducible rfl)
              try simp only [Act.put, List.setIfInBounds_toArray, List.set_cons_zero, List.set_cons_succ]
              refine wpAnyH_take (i := 17) (v := ?_) rfl (by kernel_rfl) (by kernel_rfl) (by kernel_rfl) (fun _ _ _ h => h) (Or.inl ⟨by rfl, ?_⟩) (by assumption) ?_
              rotate_left
              · intro w hSw
                try dsimp only at hSw
                go_simp
                try (with_reducible rfl)
              try simp only [Act.put, List.setIfInBounds_toArray, List.set_cons_zero, List.set_cons_succ]
              refine wpAnyH_ready (rs := [18]) (by kernel_rfl) (by simp) (AllReadyH.cons rfl (fun K hK => ?_) AllReadyH.nil)
              · go_simp
                refine hK.out _ _ ?_ (fun hHeld => ?_)
                · exact ⟨(World.cell?_setCell_far _ _ _ _ (fun e => hnb5 e.symm)).trans HK7.out.1, (World.cell?_setCell_far _ _ _ _ (fun e => hnb5 e.symm)).trans HK7.out.2.1, (World.cell?_setCell_far _ _ _ _ (fun e => hnb5 e.symm)).trans HK7.out.2.2⟩
                clear hK K
                try simp only [Act.put, List.setIfInBounds_toArray, List.set_cons_zero, List.set_cons_succ]
                refine wpAnyH_done (by kernel_rfl) ?_ _
                go_wp2_with fail
                go_meet
                exact ⟨w3, w7, a7, c7, by rw [HL.out], ⟨HBc.out, by rw [← HL10.out]; exact HR7.out, HB7.out, HG7.out⟩⟩
      · go_simp
        refine (CP.out _ HBc.out).mono ?_
        rintro e w3 ⟨rfl, hb3⟩
        replace HBc := hid (bb HBc.out hb3)
        have gc3 := gc0.out _ HBc.out
        have gc4 := gc0.out _ (HBc.out.alloc HBc.out.size (.cells #[.int .i64 P, .string nm, .slice a5 l.length c5, .string tx] 34))
        clear hb3
        go_wp2_with fail
        refine hK.out _ _ ?_ (fun hHeld => ?_)
        · exact ⟨R1.out _ HBc.out, R2.out _ HBc.out, R3.out _ HBc.out⟩
        clear hK K
        try simp only [Act.put, List.setIfInBounds_toArray, List.set_cons_zero, List.set_cons_succ]
        refine wpAnyH_take (i := 13) (v := ?_) rfl (by kernel_rfl) (by kernel_rfl) (by kernel_rfl) (fun _ _ _ h => h) (Or.inl ⟨by rfl, ?_⟩) (by assumption) ?_
        rotate_left
        · intro w hSw
          try dsimp only at hSw
          go_simp
          try (with_reducible rfl)
        try simp only [Act.put, List.setIfInBounds_toArray, List.set_cons_zero, List.set_cons_succ]
        refine wpAnyH_ready (rs := [4, 14]) (by kernel_rfl) (by simp) (AllReadyH.cons rfl (fun K hK => ?_) (AllReadyH.cons rfl (fun K hK => ?_) AllReadyH.nil))
        · go_simp
          refine hK.out _ _ ?_ (fun hHeld => ?_)
          · exact ⟨R1.out _ HBc.out, R2.out _ HBc.out, R3.out _ HBc.out⟩
          clear hK K
          try simp only [Act.put, List.setIfInBounds_toArray, List.set_cons_zero, List.set_cons_succ]
          refine wpAnyH_ready (rs := [14]) (by kernel_rfl) (by simp) (AllReadyH.cons rfl (fun K hK => ?_) AllReadyH.nil)
          · go_simp
            refine hK.out _ _ ?_ (fun hHeld => ?_)
            · exact ⟨R1.out _ (HBc.out.alloc HBc.out.size _), R2.out _ (HBc.out.alloc HBc.out.size _), R3.out _ (HBc.out.alloc HBc.out.size _)⟩
            clear hK K
            try simp only [Act.put, List.setIfInBounds_toArray, List.set_cons_zero, List.set_cons_succ]
            refine wpAnyH_ready (rs := [15]) (by kernel_rfl) (by simp) (AllReadyH.cons rfl (fun K hK => ?_) AllReadyH.nil)
            · refine Nd.step_join rfl (.tmp 28) (.tmp 38) rfl B (.slice na L nc) es [⟨⟨P, nm, l, tx⟩, a5, c5⟩] (by simp [Act.eval, Act.put]) (join_facts HS1.out.row (bb HBL.out HBc.out) (HOA.out.below HBc.out) hBw1).1 w3.heap.size 1 1 (by simp [Act.eval, Act.put]) rfl (join_facts HS1.out.row (bb HBL.out HBc.out) (HOA.out.below HBc.out) hBw1).2.1 (join_facts HS1.out.row (bb HBL.out HBc.out) (HOA.out.below HBc.out) hBw1).2.2.1 (List.pairwise_singleton _ _) (join_facts HS1.out.row (bb HBL.out HBc.out) (HOA.out.below HBc.out) hBw1).2.2.2.1 HN7.out (join_facts HS1.out.row (bb HBL.out HBc.out) (HOA.out.below HBc.out) hBw1).2.2.2.2 ?_
              intro a7 c7 w7 hr7 hb7 hg7
              have HR7 := hid hr7
              have HB7 := hid hb7
              have HG7 := hid hg7
              have HL6 := hid ((Below.refl w3.heap.size w3).alloc (Nat.le_refl _) (.cells #[.int .i64 P, .string nm, .slice a5 l.length c5, .string tx] 34))
              have HSW := hid ((HSV.out.below HBc.out).below HL6.out)
              have M57 := hid (blk_grownR (blk_below (blk_below M5.out HBc.out) HL6.out) hg7 HSW.out.row.kind (by decide))
              have hg0 := blk_grownR HSW.out.blk hg7 HSW.out.row.kind (by decide)
              have gc7 := (box2e hg0).1.1
              have gf7 := (box2e hg0).2.1
              have HK7 := hid (And.intro (box4 M57.out).1.2.1 (And.intro (box4 M57.out).1.2.2.1 (box4 M57.out).1.2.2.2))
              clear hr7 hb7 hg7 hg0
              refine hK.out _ _ ?_ (fun hHeld => ?_)
              · exact HK7.out
              clear hK K
              try simp only [Act.put, List.setIfInBounds_toArray, List.set_cons_zero, List.set_cons_succ]
              refine wpAnyH_take (i := 16) (v := ?_) rfl (by kernel_rfl) (by kernel_rfl) (by kernel_rfl) (fun _ _ _ h => h) (Or.inl ⟨by rfl, ?_⟩) (by assumption) ?_
              rotate_left
              · intro w hSw
                try dsimp only at hSw
                go_simp
                try (with_reducible rfl)
              try simp only [Act.put, List.setIfInBounds_toArray, List.set_cons_zero, List.set_cons_succ]
              refine wpAnyH_take (i := 17) (v := ?_) rfl (by kernel_rfl) (by kernel_rfl) (by kernel_rfl) (fun _ _ _ h => h) (Or.inl ⟨by rfl, ?_⟩) (by assumption) ?_
              rotate_left
              · intro w hSw
                try dsimp only at hSw
                go_simp
                try (with_reducible rfl)
              try simp only [Act.put, List.setIfInBounds_toArray, List.set_cons_zero, List.set_cons_succ]
              refine wpAnyH_ready (rs := [18]) (by kernel_rfl) (by simp) (AllReadyH.cons rfl (fun K hK => ?_) AllReadyH.nil)
              · go_simp
                refine hK.out _ _ ?_ (fun hHeld => ?_)
                · exact ⟨(World.cell?_setCell_far _ _ _ _ (fun e => hnb5 e.symm)).trans HK7.out.1, (World.cell?_setCell_far _ _ _ _ (fun e => hnb5 e.symm)).trans HK7.out.2.1, (World.cell?_setCell_far _ _ _ _ (fun e => hnb5 e.symm)).trans HK7.out.2.2⟩
                clear hK K
                try simp only [Act.put, List.setIfInBounds_toArray, List.set_cons_zero, List.set_cons_succ]
                refine wpAnyH_done (by kernel_rfl) ?_ _
                go_wp2_with fail
                go_meet
                exact ⟨w3, w7, a7, c7, by rw [HL.out], ⟨HBc.out, by rw [← HL10.out]; exact HR7.out, HB7.out, HG7.out⟩⟩
        · go_simp
          refine hK.out _ _ ?_ (fun hHeld => ?_)
          · exact ⟨R1.out _ (HBc.out.alloc HBc.out.size _), R2.out _ (HBc.out.alloc HBc.out.size _), R3.out _ (HBc.out.alloc HBc.out.size _)⟩
          clear hK K
          try simp only [Act.put, List.setIfInBounds_toArray, List.set_cons_zero, List.set_cons_succ]
          refine wpAnyH_ready (rs := [4]) (by kernel_rfl) (by simp) (AllReadyH.cons rfl (fun K hK => ?_) AllReadyH.nil)
          · go_simp
            refine hK.out _ _ ?_ (fun hHeld => ?_)
            · exact ⟨R1.out _ (HBc.out.alloc HBc.out.size _), R2.out _ (HBc.out.alloc HBc.out.size _), R3.out _ (HBc.out.alloc HBc.out.size _)⟩
            clear hK K
            try simp only [Act.put, List.setIfInBounds_toArray, List.set_cons_zero, List.set_cons_succ]
            refine wpAnyH_ready (rs := [15]) (by kernel_rfl) (by simp) (AllReadyH.cons rfl (fun K hK => ?_) AllReadyH.nil)
            · refine Nd.step_join rfl (.tmp 28) (.tmp 38) rfl B (.slice na L nc) es [⟨⟨P, nm, l, tx⟩, a5, c5⟩] (by simp [Act.eval, Act.put]) (join_facts HS1.out.row (bb HBL.out HBc.out) (HOA.out.below HBc.out) hBw1).1 w3.heap.size 1 1 (by simp [Act.eval, Act.put]) rfl (join_facts HS1.out.row (bb HBL.out HBc.out) (HOA.out.below HBc.out) hBw1).2.1 (join_facts HS1.out.row (bb HBL.out HBc.out) (HOA.out.below HBc.out) hBw1).2.2.1 (List.pairwise_singleton _ _) (join_facts HS1.out.row (bb HBL.out HBc.out) (HOA.out.below HBc.out) hBw1).2.2.2.1 HN7.out (join_facts HS1.out.row (bb HBL.out HBc.out) (HOA.out.below HBc.out) hBw1).2.2.2.2 ?_
              intro a7 c7 w7 hr7 hb7 hg7
              have HR7 := hid hr7
              have HB7 := hid hb7
              have HG7 := hid hg7
              have HL6 := hid ((Below.refl w3.heap.size w3).alloc (Nat.le_refl _) (.cells #[.int .i64 P, .string nm, .slice a5 l.length c5, .string tx] 34))
              have HSW := hid ((HSV.out.below HBc.out).below HL6.out)
              have M57 := hid (blk_grownR (blk_below (blk_below M5.out HBc.out) HL6.out) hg7 HSW.out.row.kind (by decide))
              have hg0 := blk_grownR HSW.out.blk hg7 HSW.out.row.kind (by decide)
              have gc7 := (box2e hg0).1.1
              have gf7 := (box2e hg0).2.1
              have HK7 := hid (And.intro (box4 M57.out).1.2.1 (And.intro (box4 M57.out).1.2.2.1 (box4 M57.out).1.2.2.2))
              clear hr7 hb7 hg7 hg0
              refine hK.out _ _ ?_ (fun hHeld => ?_)
              · exact HK7.out
              clear hK K
              try simp only [Act.put, List.setIfInBounds_toArray, List.set_cons_zero, List.set_cons_succ]
              refine wpAnyH_take (i := 16) (v := ?_) rfl (by kernel_rfl) (by kernel_rfl) (by kernel_rfl) (fun _ _ _ h => h) (Or.inl ⟨by rfl, ?_⟩) (by assumption) ?_
              rotate_left
              · intro w hSw
                try dsimp only at hSw
                go_simp
                try (with_reducible rfl)
              try simp only [Act.put, List.setIfInBounds_toArray, List.set_cons_zero, List.set_cons_succ]
              refine wpAnyH_take (i := 17) (v := ?_) rfl (by kernel_rfl) (by kernel_rfl) (by kernel_rfl) (fun _ _ _ h => h) (Or.inl ⟨by rfl, ?_⟩) (by assumption) ?_
              rotate_left
              · intro w hSw
                try dsimp only at hSw
                go_simp
                try (with_reducible rfl)
              try simp only [Act.put, List.setIfInBounds_toArray, List.set_cons_zero, List.set_cons_succ]
              refine wpAnyH_ready (rs := [18]) (by kernel_rfl) (by simp) (AllReadyH.cons rfl (fun K hK => ?_) AllReadyH.nil)
              · go_simp
                refine hK.out _ _ ?_ (fun hHeld => ?_)
                · exact ⟨(World.cell?_setCell_far _ _ _ _ (fun e => hnb5 e.symm)).trans HK7.out.1, (World.cell?_setCell_far _ _ _ _ (fun e => hnb5 e.symm)).trans HK7.out.2.1, (World.cell?_setCell_far _ _ _ _ (fun e => hnb5 e.symm)).trans HK7.out.2.2⟩
                clear hK K
                try simp only [Act.put, List.setIfInBounds_toArray, List.set_cons_zero, List.set_cons_succ]
                refine wpAnyH_done (by kernel_rfl) ?_ _
                go_wp2_with fail
                go_meet
                exact ⟨w3, w7, a7, c7, by rw [HL.out], ⟨HBc.out, by rw [← HL10.out]; exact HR7.out, HB7.out, HG7.out⟩⟩
      --R6END
    case rest =>
      obtain ⟨w3, w7, a7, c7, rfl, HX⟩ := hcut
      obtain ⟨hb3, hr7, hb7, hg7⟩ := HX.out
      have HL6 := hid ((Below.refl w3.heap.size w3).alloc (Nat.le_refl _) (.cells #[.int .i64 P, .string nm, .slice a5 l.length c5, .string tx] 34))
      have HSW := hid ((HSV.out.below hb3).below HL6.out)
      have HOUT := hid (show (es ++ [(⟨⟨P, nm, l, tx⟩, a5, c5⟩ : Nd.E)]).map (·.t) = s.out ++ [⟨P, nm, l, tx⟩] by rw [List.map_append, HS1.out.map]; rfl)
      have HS8 := hid (HSW.out.pushed (s' := ⟨s.out ++ [⟨P, nm, l, tx⟩], s.op⟩) hg7 hr7 HOUT.out rfl)
      have HB8 := hid (((((HB1.out.trans (HBL.out.mono (Nat.le_of_lt hw1))).trans (hb3.mono (by have := HBL.out.size; omega))).alloc (by have := HBL.out.size; have := hb3.size; omega) (.cells #[.int .i64 P, .string nm, .slice a5 l.length c5, .string tx] 34)).mono HB).trans hb7)
      have HB9 := hid (HB8.out.setCell (p := ⟨g, 0, none⟩) hgB (.slice a7 (L + 1) c7))
      have M38 := hid ((heap_setCell_other w7 ⟨g, 0, none⟩ w.heap.size (.slice a7 (L + 1) c7) hnb3).trans (blk_grownR (blk_below (blk_below M1c.out hb3) HL6.out) hg7 HSW.out.row.kind (by decide)))
      have HOL := hid (show s.out.length = L by rw [← HS1.out.map, List.length_map]; exact HL.out)
      clear hb3 hr7 hb7 hg7 HX HB8
      generalize w7.setCell ⟨g, 0, none⟩ (.slice a7 (L + 1) c7) = w8 at *
      obtain ⟨⟨y0, y1, y2, y3⟩, _⟩ := box4 M38.out
      rw [HP.out] at HSTEP
      by_cases hk1 : k = 1
      · subst hk1
        rw [if_pos rfl, HOL.out] at HSTEP
        have CL := hid (fun wx (h : Below w8.heap.size w8 wx) => cPeLay B g 1 _ _ pv (L, nm) s.op wx (HS8.out.pile.below h) HOP.out)
        simp only at CL
        go_wp2_with fail
        have HBc := hid ((Below.refl w8.heap.size w8).drew)
        go_region_held3 (fun w' => w'.cell? ⟨w.heap.size, 1, none⟩ = some (.string nm)) (first | exact (HBc.out.cell (p := ⟨w.heap.size, 1, none⟩) (lt_of_heap M38.out)).trans (box4 M38.out).1.2.1 | exact HK9.out | go_keep)
          (first
            | (go_at_call 74; refine (CL.out _ HBc.out).mono ?_; rintro e w9 ⟨rfl, ⟨v9, hp9, _⟩, hk9⟩; have HP9 := hid hp9; have HKB := hid hk9; have HK9 := hid (box4 ((HS8.out.below HBc.out).other hk9 (blk_below M38.out HBc.out) hnb3 (by decide))).1.2.1; clear hp9 hk9))
        have HS9 := hid ((HS8.out.below HBc.out).laid (s' := ⟨s.out ++ [⟨P, nm, l, tx⟩], (L, nm) :: s.op⟩) HKB.out HP9.out rfl)
        have HB10 := hid ((HB9.out.trans (HBc.out.mono (by have := HB9.out.size; omega))).trans (HKB.out.below (B := B) (by have := HB9.out.size; have := HBc.out.size; omega) (fun k hk => by
          rcases hk with hk | hk
          · subst hk; exact hgB
          · exact (HS8.out.pile.row.lt k hk).1)))
        go_wp2_with fail
        go_ret
        exact .inr ⟨_, _, _, _, rfl, HSTEP.out, HS9.out, HB10.out⟩
      · have hdk1 : (k == 1) = false := by simpa using hk1
        rw [if_neg hk1] at HSTEP
        clear hk1
        go_wp2_with fail
        go_ret
        exact .inr ⟨_, _, _, _, rfl, HSTEP.out, HS8.out, HB9.out⟩

end Go.Proofs.Ytkcmagfbacmllaa

namespace Go.Proofs.Ytkcmagfbacmllaa
open Go.RowKit
set_option linter.unusedVariables false
set_option linter.unusedSimpArgs false

theorem tab2_at (w : World) (B x : Nat) (hx : x < 2) (h : w.heap[B]? = some (.cells #[.string ⟨#[97]⟩, .string ⟨#[112, 58, 97]⟩] 9 (0, 0))) : ∃ t : ByteArray, w.cell? ⟨B, x, none⟩ = some (.string t) ∧ t.size ≤ 3 ∧ ¬ t.size = 0 := by
  rw [Lib.cell_of_heap h]
  rcases (show x = 0 ∨ x = 1 from by omega) with rfl | rfl
  all_goals exact ⟨_, rfl, by decide, by decide⟩

theorem tab5_at (w : World) (B x : Nat) (hx : x < 5) (h : w.heap[B]? = some (.cells #[.string ⟨#[97]⟩, .string ⟨#[98]⟩, .string ⟨#[112, 58, 97]⟩, .string ⟨#[113, 58, 98]⟩, .string ⟨#[99]⟩] 9 (0, 0))) : ∃ t : ByteArray, w.cell? ⟨B, x, none⟩ = some (.string t) ∧ t.size ≤ 3 ∧ ¬ t.size = 0 := by
  rw [Lib.cell_of_heap h]
  rcases (show x = 0 ∨ x = 1 ∨ x = 2 ∨ x = 3 ∨ x = 4 from by omega) with rfl | rfl | rfl | rfl | rfl
  all_goals exact ⟨_, rfl, by decide, by decide⟩

/-- The cursor, and what was there. -/
structure CSt (w0 : World) (a : Option Addr) (len cap b : Nat) (w wr : World) : Prop where
  cur : Cur w0 a len cap b wr
  gr : w.grownBy wr (some b)
  lt : b < w.heap.size
  le : w0.heap.size ≤ w.heap.size

theorem CSt.draw {w0 : World} {a : Option Addr} {len cap b : Nat} {w wr w1 : World} (h : CSt w0 a len cap b w wr) (hC : Cur w0 a len cap b w1) (g : wr.grownBy w1 (some b)) : CSt w0 a len cap b w w1 := ⟨hC, gtrans h.gr g, h.lt, h.le⟩

theorem CSt.alloc {w0 : World} {a : Option Addr} {len cap b : Nat} {w wr : World} (h : CSt w0 a len cap b w wr) (o : Obj) : CSt w0 a len cap b w (wr.alloc o) := h.draw (h.cur.alloc o) (World.grownBy_alloc wr o _)

theorem CSt.drewN {w0 : World} {a : Option Addr} {len cap b : Nat} {w wr : World} (h : CSt w0 a len cap b w wr) (n : Nat) : CSt w0 a len cap b w (wr.drewN n) := ⟨h.cur.drewN n, g_drewN h.gr n, h.lt, h.le⟩

theorem dst_own {w0 : World} {a : Option Addr} {len cap b : Nat} {w W W3 : World} {a5 : Option Addr} {c5 : Nat} {l : List At} (h : DSt w0 a len cap b W W3 (.slice a5 l.length c5) l) (hw : w.heap.size ≤ W.heap.size) : OwnAts W3 w.heap.size a5 l := by
  obtain ⟨a', c', e, ho⟩ := h.row
  cases e
  exact ho.mono hw

theorem own_mono {w : World} {B B' n s : Nat} {v : Value} {xs : List Value} {e : TypeId} (h : w.ownsRow B' e s v n xs) (hB : B ≤ B') : w.ownsRow B e s v n xs := by
  refine ⟨h.1, ?_⟩
  rcases h.2 with h' | ⟨g, cap, cur, h1, h2, h3⟩
  · exact .inl h'
  · exact .inr ⟨g, cap, cur, h1, Nat.le_trans hB h2, h3⟩

theorem own_grownR {w w' : World} {B n s : Nat} {v : Value} {xs : List Value} {E e : TypeId} {row : Option Nat} (h : w.ownsRow B E s v n xs) (hg : w.grownBy w' row) (hr : ∀ k, row = some k → ∃ c fz, w.heap[k]? = some (.cells c e fz)) (hE : E ≠ e) : w'.ownsRow B E s v n xs := by
  refine ⟨h.1, ?_⟩
  rcases h.2 with h' | ⟨g, cap, cur, h1, h2, h3, h4⟩
  · exact .inl h'
  · exact .inr ⟨g, cap, cur, h1, h2, blk_grownR h3 hg hr hE, h4⟩

/-- The nodes so far, the cursor, who is open. -/
structure NSt (w0 : World) (a : Option Addr) (len cap b : Nat) (w wr : World) (v : Value) (es : List Nd.E) (at_ : Nat) : Prop where
  c : CSt w0 a len cap b w wr
  row : Nd.Row wr w.heap.size v es
  sz : ∀ e ∈ es, TkSz 20 e.t
  grn : Grn (es.map (·.t)) at_
  own : ∀ e ∈ es, wr.ownsRow w.heap.size 115 2 (.slice e.a e.t.attrs.length e.cap) e.t.attrs.length (atC e.t.attrs)
  apo : es.Pairwise fun e f => ∀ k, (Value.slice e.a e.t.attrs.length e.cap).ownBlock = some k → ¬ (Value.slice f.a f.t.attrs.length f.cap).ownBlock = some k

theorem apo_of {W W3 : World} {B : Nat} {es : List Nd.E} {a5 : Option Addr} {l5 : List At} {c5 : Nat} (h : ∀ e ∈ es, W.ownsRow B 115 2 (.slice e.a e.t.attrs.length e.cap) e.t.attrs.length (atC e.t.attrs)) (h5 : W3.ownsRow W.heap.size 115 2 (.slice a5 l5.length c5) l5.length (atC l5)) :
    ∀ e ∈ es, ∀ k, (Value.slice e.a e.t.attrs.length e.cap).ownBlock = some k → ¬ (Value.slice a5 l5.length c5).ownBlock = some k := fun e he k e1 e2 => by
  have := ((h e he).lt k e1).2
  have := (h5.lt k e2).1
  omega

theorem cur_row {w0 : World} {a : Option Addr} {len cap b : Nat} {wr w1 : World} {B : Nat} {v : Value} {es : List Nd.E} (hc : Cur w0 a len cap b wr) (h : Nd.Row wr B v es) (g : wr.grownBy w1 (some b)) : Nd.Row w1 B v es := by
  obtain ⟨_, _, i, hh, _, _, hb⟩ := hc
  exact h.keepB (KeepB.of_grown (p := fun k => k = b) g rfl) (fun k hk c e fz hx => by
    subst hk
    rw [hb] at hx
    injection hx with hx
    injection hx with _ h2 _
    subst h2
    exact ⟨by decide, by decide⟩)

section
variable {w0 : World} {a : Option Addr} {len cap b : Nat} {w wr w1 : World} {v : Value} {es : List Nd.E} {at_ : Nat}

theorem NSt.draw (h : NSt w0 a len cap b w wr v es at_) (hC : Cur w0 a len cap b w1) (g : wr.grownBy w1 (some b)) : NSt w0 a len cap b w w1 v es at_ :=
  ⟨h.c.draw hC g, cur_row h.c.cur h.row g, h.sz, h.grn, fun e he => (h.own e he).kept g (.inr (fun x => by have := ((h.own e he).lt b x).1; have := h.c.lt; omega)), h.apo⟩

theorem NSt.alloc (h : NSt w0 a len cap b w wr v es at_) (o : Obj) : NSt w0 a len cap b w (wr.alloc o) v es at_ :=
  ⟨h.c.alloc o, h.row.below ((Below.refl _ _).alloc (Nat.le_refl _) o), h.sz, h.grn, fun e he => (h.own e he).alloc o, h.apo⟩

theorem NSt.drewN (h : NSt w0 a len cap b w wr v es at_) (n : Nat) : NSt w0 a len cap b w (wr.drewN n) v es at_ :=
  ⟨h.c.drewN n, h.row.below (below_drewN (Below.refl _ _) n), h.sz, h.grn, fun e he => ownsRow_below (h.own e he) (below_drewN (Below.refl _ _) n), h.apo⟩

/-- One more. -/
theorem NSt.join (h : NSt w0 a len cap b w wr v es at_) {v' : Value} {e : Nd.E} {at' : Nat} (hr : Nd.Row w1 w.heap.size v' (es ++ [e])) (g : wr.grownBy w1 v.ownBlock) (hoe : wr.ownsRow w.heap.size 115 2 (.slice e.a e.t.attrs.length e.cap) e.t.attrs.length (atC e.t.attrs)) (hap : ∀ e' ∈ es, ∀ k, (Value.slice e'.a e'.t.attrs.length e'.cap).ownBlock = some k → ¬ (Value.slice e.a e.t.attrs.length e.cap).ownBlock = some k) (hz : TkSz 20 e.t) (hg : Grn (es.map (·.t) ++ [e.t]) at') : NSt w0 a len cap b w w1 v' (es ++ [e]) at' := by
  refine ⟨⟨h.c.cur.grown g (fun x => ?_) (fun k x => ?_), ⟨g.os.trans h.c.gr.os, g.tape.trans h.c.gr.tape, g.output.trans h.c.gr.output, Nat.le_trans h.c.gr.size g.size, fun i hi hr => (g.block i (Nat.lt_of_lt_of_le hi h.c.gr.size) (fun x => ?_)).trans (h.c.gr.block i hi hr)⟩, h.c.lt, h.c.le⟩, hr, fun x hx => ?_, by rw [List.map_append]; exact hg, fun x hx => ?_, List.pairwise_append.2 ⟨h.apo, List.pairwise_singleton _ _, fun x hx y hy => by rw [List.mem_singleton] at hy; subst hy; exact hap x hx⟩⟩
  · have := (h.row.own.lt b x.symm).1
    have := h.c.lt
    omega
  · have := (h.row.own.lt k x).1
    have := h.c.le
    omega
  · have := (h.row.own.lt i x.symm).1
    omega
  · rcases List.mem_append.1 hx with h' | h'
    · exact h.sz x h'
    · rw [List.mem_singleton] at h'
      subst h'
      exact hz
  · rcases List.mem_append.1 hx with h' | h'
    · exact own_grownR (h.own x h') g h.row.kind (by decide)
    · rw [List.mem_singleton] at h'
      subst h'
      exact own_grownR hoe g h.row.kind (by decide)

end

theorem nst_one {w0 : World} {a : Option Addr} {len cap b : Nat} {w W : World} {tA : ByteArray} {l5 : List At} {a5 : Option Addr} {c5 : Nat} (hs : CSt w0 a len cap b w (W.alloc (.cells #[.int .i64 (-1), .string tA, .slice a5 l5.length c5, .string ⟨#[]⟩] 34)))
    (hm : (W.alloc (.cells #[.int .i64 (-1), .string tA, .slice a5 l5.length c5, .string ⟨#[]⟩] 34)).heap[W.heap.size]? = some (.cells #[.int .i64 (-1), .string tA, .slice a5 l5.length c5, .string ⟨#[]⟩] 34 (0, 0)))
    (ho : OwnAts (W.alloc (.cells #[.int .i64 (-1), .string tA, .slice a5 l5.length c5, .string ⟨#[]⟩] 34)) w.heap.size a5 l5) (how : (W.alloc (.cells #[.int .i64 (-1), .string tA, .slice a5 l5.length c5, .string ⟨#[]⟩] 34)).ownsRow w.heap.size 115 2 (.slice a5 l5.length c5) l5.length (atC l5)) (hw : w.heap.size ≤ W.heap.size) (hn : ¬ tA.size = 0) (hz : TkSz 20 ⟨-1, tA, l5, ⟨#[]⟩⟩) :
    NSt w0 a len cap b w (W.alloc (.cells #[.int .i64 (-1), .string tA, .slice a5 l5.length c5, .string ⟨#[]⟩] 34)) (.slice (some ⟨W.heap.size, 0, none⟩) 1 1) [⟨⟨-1, tA, l5, ⟨#[]⟩⟩, a5, c5⟩] 0 :=
  ⟨hs, Nd.Row.one (e := ⟨⟨-1, tA, l5, ⟨#[]⟩⟩, a5, c5⟩) hw hm ho (fun g o h e => by
    obtain ⟨g', o', cu, e', _, hh, _⟩ := ho h
    simp only at e
    rw [e] at e'
    cases e'
    rintro rfl
    rw [hm] at hh
    injection hh with hh
    injection hh with _ h2 _
    exact absurd h2 (by decide)), fun e he => by
    rw [List.mem_singleton] at he
    subst he
    exact hz, Grn.start rfl hn, fun e he => by
    rw [List.mem_singleton] at he
    subst he
    exact how, List.pairwise_singleton _ _⟩

theorem ap_of {Wx W3 : World} {B : Nat} {v : Value} {es : List Nd.E} {a5 : Option Addr} {l5 : List At} (hrow : Nd.Row Wx B v es) (ho : OwnAts W3 Wx.heap.size a5 l5) :
    (∀ e ∈ es, ∀ (t : Tk) (c : Nat), t.attrs = l5 → Nd.Apart e ⟨t, a5, c⟩) ∧ (∀ g o, 0 < l5.length → a5 = some ⟨g, o, none⟩ → ¬ v.ownBlock = some g) := by
  refine ⟨fun e he t c ht hl hl' g o g' o' e1 e2 x => ?_, fun g o hl e1 x => ?_⟩
  · subst x
    subst ht
    obtain ⟨g1, o1, cu, a1, _, a3, _⟩ := (hrow.ats e he).1 hl
    obtain ⟨g2, o2, cu2, b1, b2, _⟩ := ho hl'
    rw [e1] at a1
    simp only at e2
    rw [e2] at b1
    cases a1
    cases b1
    have := lt_of_heap a3
    omega
  · obtain ⟨g2, o2, cu2, b1, b2, _⟩ := ho hl
    rw [e1] at b1
    cases b1
    have := (hrow.own.lt g x).2
    omega

theorem one_cells {W : World} {gn : Nat} {P : Int} {nm tx : ByteArray} {l5 : List At} {a5 : Option Addr} {c5 : Nat} (hm : W.heap[gn]? = some (.cells #[.int .i64 P, .string nm, .slice a5 l5.length c5, .string tx] 34 (0, 0))) :
    ∀ j u, (Nd.cs [⟨⟨P, nm, l5, tx⟩, a5, c5⟩])[j]? = some u → W.cell? ((⟨gn, 0, none⟩ : Addr).add j) = some u := by
  intro j u hj
  have e : Nd.cs [(⟨⟨P, nm, l5, tx⟩, a5, c5⟩ : Nd.E)] = [.int .i64 P, .string nm, .slice a5 l5.length c5, .string tx] := rfl
  rw [e] at hj
  rw [add_plainW, Lib.cell_of_heap hm, Nat.zero_add, ← hj]
  simp

theorem one_hf {W : World} {B : Nat} {v : Value} {P : Int} {nm tx : ByteArray} {l5 : List At} {a5 : Option Addr} {c5 : Nat} (ho : OwnAts W B a5 l5) (h : ∀ g o, 0 < l5.length → a5 = some ⟨g, o, none⟩ → ¬ v.ownBlock = some g) :
    ∀ e ∈ [(⟨⟨P, nm, l5, tx⟩, a5, c5⟩ : Nd.E)], OwnAts W B e.a e.t.attrs ∧ ∀ g o, 0 < e.t.attrs.length → e.a = some ⟨g, o, none⟩ → ¬ v.ownBlock = some g := by
  intro e he
  rw [List.mem_singleton] at he
  subst he
  exact ⟨ho, h⟩

theorem one_ap {es : List Nd.E} {P : Int} {nm tx : ByteArray} {l5 : List At} {a5 : Option Addr} {c5 : Nat} (h : ∀ e ∈ es, ∀ (t : Tk) (c : Nat), t.attrs = l5 → Nd.Apart e ⟨t, a5, c⟩) : ∀ e ∈ es, ∀ f ∈ [(⟨⟨P, nm, l5, tx⟩, a5, c5⟩ : Nd.E)], Nd.Apart e f := by
  intro e he f hf
  rw [List.mem_singleton] at hf
  subst hf
  exact h e he _ _ rfl

set_option maxRecDepth 8000 in
set_option maxHeartbeats 8000000 in
theorem cDraw8 (w0 : World) (a : Option Addr) (len cap b : Nat) (w : World) (hlen : len ≤ 4096) (hcr : CodeRow w0 a len) (hC : Cur w0 a len cap b w) :
    Calls Try.prog 105 #[.pointer (some ⟨b, 0, none⟩)] w fun e w' => ∃ a' c' es at_, e = .returned (.slice a' (es : List Nd.E).length c') ∧ 1 ≤ es.length ∧ es.length ≤ 11 ∧ NSt w0 a len cap b w w' (.slice a' es.length c') es at_ := by
  have HR := hid hcr
  have hbl : b < w.heap.size := by obtain ⟨i, h, _, _, hh⟩ := hC.2.2; exact lt_of_heap hh
  have HS0 := hid (show CSt w0 a len cap b w w from ⟨hC, ⟨rfl, rfl, rfl, Nat.le_refl _, fun _ _ _ => rfl⟩, hbl, hC.2.1.size⟩)
  clear hcr hC hbl
  go_enter Try.func105, Try.ntmps105
  go_upto_region 1 with fail
  go_cut [3] from 8 to 90 (fun x wv => ∃ (gn : Nat) (e : Nd.E), x = .slice (some ⟨gn, 0, none⟩) 1 1 ∧ Hid (NSt w0 a len cap b w wv (.slice (some ⟨gn, 0, none⟩) 1 1) [e] 0))
  case first =>
    refine wp_region_held_drew (S := fun _ => True) (by kernel_rfl) trivial (fun _ => ?_)
    have HS := hid (show CSt w0 a len cap b w w.drew from HS0.out.drewN 1)
    generalize w.drew = W at *
    refine wpAnyH_take (i := 1) (v := ?_) rfl (by kernel_rfl) (by kernel_rfl) (by kernel_rfl) (fun _ _ _ h => h) (Or.inl ⟨by rfl, ?_⟩) trivial ?_
    rotate_left
    · intro w hSw
      go_simp
      try (with_reducible rfl)
    try simp only [Act.put, List.setIfInBounds_toArray, List.set_cons_zero, List.set_cons_succ]
    refine wpAnyH_take (i := 5) (v := ?_) rfl (by kernel_rfl) (by kernel_rfl) (by kernel_rfl) (fun _ _ _ h => h) (Or.inl ⟨by rfl, ?_⟩) trivial ?_
    rotate_left
    · intro w hSw
      go_simp
      try (with_reducible rfl)
    try simp only [Act.put, List.setIfInBounds_toArray, List.set_cons_zero, List.set_cons_succ]
    refine wpAnyH_ready (rs := [0, 2]) (by kernel_rfl) (by simp) (AllReadyH.cons rfl (fun K hK => ?_) (AllReadyH.cons rfl (fun K hK => ?_) AllReadyH.nil))
    · have HTB := hid (show ¬ W.heap.size = b by have := HS.out.gr.size; have := HS.out.lt; omega)
      go_simp
      refine hK.out _ _ trivial (fun _ => ?_)
      clear hK K
      try simp only [Act.put, List.setIfInBounds_toArray, List.set_cons_zero, List.set_cons_succ]
      have HT := hid (heap_alloc_new W (.cells #[.string ⟨#[97]⟩, .string ⟨#[112, 58, 97]⟩] 9))
      replace HS := hid (HS.out.alloc (.cells #[.string ⟨#[97]⟩, .string ⟨#[112, 58, 97]⟩] 9))
      generalize W.heap.size = tb at *
      generalize W.alloc (.cells #[.string ⟨#[97]⟩, .string ⟨#[112, 58, 97]⟩] 9) = W at *
      refine wpAnyH_ready (rs := [2]) (by kernel_rfl) (by simp) (AllReadyH.cons rfl (fun K hK => ?_) AllReadyH.nil)
      · go_simp
        refine (cBelow 2 w0 a len cap b _ hlen HR.out HS.out.cur (by omega) (by omega)).mono ?_
        rintro e W2 ⟨x, rfl, hx, hC, hG⟩
        replace HT := hid ((hG.block tb (lt_of_heap HT.out) (fun e => HTB.out (Option.some.inj e))).trans HT.out)
        replace HS := hid (HS.out.draw hC hG)
        have hxn : (x : Int) < 2 := by omega
        clear hC hG
        go_wp2_with fail
        refine hK.out _ _ trivial (fun _ => ?_)
        clear hK K
        try simp only [Act.put, List.setIfInBounds_toArray, List.set_cons_zero, List.set_cons_succ]
        generalize W2 = W at *
        refine wpAnyH_take (i := 3) (v := ?_) rfl (by kernel_rfl) (by kernel_rfl) (by kernel_rfl) (fun _ _ _ h => h) (Or.inl ⟨by rfl, ?_⟩) trivial ?_
        rotate_left
        · intro w hSw
          go_simp
          try (with_reducible rfl)
        try simp only [Act.put, List.setIfInBounds_toArray, List.set_cons_zero, List.set_cons_succ]
        refine wpAnyH_ready (rs := [4, 6]) (by kernel_rfl) (by simp) (AllReadyH.cons rfl (fun K hK => ?_) (AllReadyH.cons rfl (fun K hK => ?_) AllReadyH.nil))
        · obtain ⟨tA, hcA, htA, htP⟩ := tab2_at _ tb x hx HT.out
          go_simp
          refine hK.out _ _ trivial (fun _ => ?_)
          clear hK K
          try simp only [Act.put, List.setIfInBounds_toArray, List.set_cons_zero, List.set_cons_succ]
          clear hcA
          refine wpAnyH_ready (rs := [6]) (by kernel_rfl) (by simp) (AllReadyH.cons rfl (fun K hK => ?_) AllReadyH.nil)
          · go_simp
            refine (cDrawAttrs true w0 a len cap b _ hlen HR.out HS.out.cur).mono ?_
            rintro e W3 ⟨a5, c5, l5, rfl, hl5, hd5⟩
            have HOA := hid (dst_own hd5 HS.out.gr.size)
            have HOW := hid (own_mono hd5.own HS.out.gr.size)
            have HSZ5 := hid hd5.sz
            replace HT := hid ((hd5.gr.block tb (lt_of_heap HT.out) (fun e => HTB.out (Option.some.inj e))).trans HT.out)
            replace HS := hid (HS.out.draw hd5.cur hd5.gr)
            clear hd5
            go_wp2_with fail
            refine hK.out _ _ trivial (fun _ => ?_)
            clear hK K
            try simp only [Act.put, List.setIfInBounds_toArray, List.set_cons_zero, List.set_cons_succ]
            generalize W3 = W at *
            refine wpAnyH_take (i := 7) (v := ?_) rfl (by kernel_rfl) (by kernel_rfl) (by kernel_rfl) (fun _ _ _ h => h) (Or.inl ⟨by rfl, ?_⟩) trivial ?_
            rotate_left
            · intro w hSw
              go_simp
              try (with_reducible rfl)
            try simp only [Act.put, List.setIfInBounds_toArray, List.set_cons_zero, List.set_cons_succ]
            refine wpAnyH_ready (rs := [8]) (by kernel_rfl) (by simp) (AllReadyH.cons rfl (fun K hK => ?_) AllReadyH.nil)
            · have HM := hid (heap_alloc_new W (.cells #[.int .i64 (-1), .string tA, .slice a5 l5.length c5, .string ⟨#[]⟩] 34))
              have HSA := hid (HS.out.alloc (.cells #[.int .i64 (-1), .string tA, .slice a5 l5.length c5, .string ⟨#[]⟩] 34))
              have HOA2 := hid (HOA.out.below ((Below.refl _ _).alloc (Nat.le_refl _) (.cells #[.int .i64 (-1), .string tA, .slice a5 l5.length c5, .string ⟨#[]⟩] 34)))
              have HOW2 := hid (HOW.out.alloc (.cells #[.int .i64 (-1), .string tA, .slice a5 l5.length c5, .string ⟨#[]⟩] 34))
              go_simp
              refine hK.out _ _ trivial (fun _ => ?_)
              clear hK K
              try simp only [Act.put, List.setIfInBounds_toArray, List.set_cons_zero, List.set_cons_succ]
              refine wpAnyH_ready (rs := [9]) (by kernel_rfl) (by simp) (AllReadyH.cons rfl (fun K hK => ?_) AllReadyH.nil)
              · go_simp
                refine hK.out _ _ trivial (fun _ => ?_)
                clear hK K
                try simp only [Act.put, List.setIfInBounds_toArray, List.set_cons_zero, List.set_cons_succ]
                refine wpAnyH_done (by kernel_rfl) ?_ _
                go_wp2_with fail
                go_meet
                exact ⟨_, ⟨⟨-1, tA, l5, ⟨#[]⟩⟩, a5, c5⟩, rfl, nst_one HSA.out HM.out HOA2.out HOW2.out HS.out.gr.size htP ⟨by show tA.size ≤ 20; omega, by show l5.length ≤ 20; omega, HSZ5.out, Nat.zero_le _⟩⟩
        · go_simp
          refine (cDrawAttrs true w0 a len cap b _ hlen HR.out HS.out.cur).mono ?_
          rintro e W3 ⟨a5, c5, l5, rfl, hl5, hd5⟩
          have HOA := hid (dst_own hd5 HS.out.gr.size)
          have HOW := hid (own_mono hd5.own HS.out.gr.size)
          have HSZ5 := hid hd5.sz
          replace HT := hid ((hd5.gr.block tb (lt_of_heap HT.out) (fun e => HTB.out (Option.some.inj e))).trans HT.out)
          replace HS := hid (HS.out.draw hd5.cur hd5.gr)
          clear hd5
          go_wp2_with fail
          refine hK.out _ _ trivial (fun _ => ?_)
          clear hK K
          try simp only [Act.put, List.setIfInBounds_toArray, List.set_cons_zero, List.set_cons_succ]
          generalize W3 = W at *
          refine wpAnyH_ready (rs := [4]) (by kernel_rfl) (by simp) (AllReadyH.cons rfl (fun K hK => ?_) AllReadyH.nil)
          · obtain ⟨tA, hcA, htA, htP⟩ := tab2_at _ tb x hx HT.out
            go_simp
            refine hK.out _ _ trivial (fun _ => ?_)
            clear hK K
            try simp only [Act.put, List.setIfInBounds_toArray, List.set_cons_zero, List.set_cons_succ]
            clear hcA
            refine wpAnyH_take (i := 7) (v := ?_) rfl (by kernel_rfl) (by kernel_rfl) (by kernel_rfl) (fun _ _ _ h => h) (Or.inl ⟨by rfl, ?_⟩) trivial ?_
            rotate_left
            · intro w hSw
              go_simp
              try (with_reducible rfl)
            try simp only [Act.put, List.setIfInBounds_toArray, List.set_cons_zero, List.set_cons_succ]
            refine wpAnyH_ready (rs := [8]) (by kernel_rfl) (by simp) (AllReadyH.cons rfl (fun K hK => ?_) AllReadyH.nil)
            · have HM := hid (heap_alloc_new W (.cells #[.int .i64 (-1), .string tA, .slice a5 l5.length c5, .string ⟨#[]⟩] 34))
              have HSA := hid (HS.out.alloc (.cells #[.int .i64 (-1), .string tA, .slice a5 l5.length c5, .string ⟨#[]⟩] 34))
              have HOA2 := hid (HOA.out.below ((Below.refl _ _).alloc (Nat.le_refl _) (.cells #[.int .i64 (-1), .string tA, .slice a5 l5.length c5, .string ⟨#[]⟩] 34)))
              have HOW2 := hid (HOW.out.alloc (.cells #[.int .i64 (-1), .string tA, .slice a5 l5.length c5, .string ⟨#[]⟩] 34))
              go_simp
              refine hK.out _ _ trivial (fun _ => ?_)
              clear hK K
              try simp only [Act.put, List.setIfInBounds_toArray, List.set_cons_zero, List.set_cons_succ]
              refine wpAnyH_ready (rs := [9]) (by kernel_rfl) (by simp) (AllReadyH.cons rfl (fun K hK => ?_) AllReadyH.nil)
              · go_simp
                refine hK.out _ _ trivial (fun _ => ?_)
                clear hK K
                try simp only [Act.put, List.setIfInBounds_toArray, List.set_cons_zero, List.set_cons_succ]
                refine wpAnyH_done (by kernel_rfl) ?_ _
                go_wp2_with fail
                go_meet
                exact ⟨_, ⟨⟨-1, tA, l5, ⟨#[]⟩⟩, a5, c5⟩, rfl, nst_one HSA.out HM.out HOA2.out HOW2.out HS.out.gr.size htP ⟨by show tA.size ≤ 20; omega, by show l5.length ≤ 20; omega, HSZ5.out, Nat.zero_le _⟩⟩
    · go_simp
      refine (cBelow 2 w0 a len cap b _ hlen HR.out HS.out.cur (by omega) (by omega)).mono ?_
      rintro e W2 ⟨x, rfl, hx, hC, hG⟩
      replace HS := hid (HS.out.draw hC hG)
      have hxn : (x : Int) < 2 := by omega
      clear hC hG
      go_wp2_with fail
      refine hK.out _ _ trivial (fun _ => ?_)
      clear hK K
      try simp only [Act.put, List.setIfInBounds_toArray, List.set_cons_zero, List.set_cons_succ]
      generalize W2 = W at *
      refine wpAnyH_ready (rs := [0, 6]) (by kernel_rfl) (by simp) (AllReadyH.cons rfl (fun K hK => ?_) (AllReadyH.cons rfl (fun K hK => ?_) AllReadyH.nil))
      · have HTB := hid (show ¬ W.heap.size = b by have := HS.out.gr.size; have := HS.out.lt; omega)
        go_simp
        refine hK.out _ _ trivial (fun _ => ?_)
        clear hK K
        try simp only [Act.put, List.setIfInBounds_toArray, List.set_cons_zero, List.set_cons_succ]
        have HT := hid (heap_alloc_new W (.cells #[.string ⟨#[97]⟩, .string ⟨#[112, 58, 97]⟩] 9))
        replace HS := hid (HS.out.alloc (.cells #[.string ⟨#[97]⟩, .string ⟨#[112, 58, 97]⟩] 9))
        generalize W.heap.size = tb at *
        generalize W.alloc (.cells #[.string ⟨#[97]⟩, .string ⟨#[112, 58, 97]⟩] 9) = W at *
        refine wpAnyH_take (i := 3) (v := ?_) rfl (by kernel_rfl) (by kernel_rfl) (by kernel_rfl) (fun _ _ _ h => h) (Or.inl ⟨by rfl, ?_⟩) trivial ?_
        rotate_left
        · intro w hSw
          go_simp
          try (with_reducible rfl)
        try simp only [Act.put, List.setIfInBounds_toArray, List.set_cons_zero, List.set_cons_succ]
        refine wpAnyH_ready (rs := [4, 6]) (by kernel_rfl) (by simp) (AllReadyH.cons rfl (fun K hK => ?_) (AllReadyH.cons rfl (fun K hK => ?_) AllReadyH.nil))
        · obtain ⟨tA, hcA, htA, htP⟩ := tab2_at _ tb x hx HT.out
          go_simp
          refine hK.out _ _ trivial (fun _ => ?_)
          clear hK K
          try simp only [Act.put, List.setIfInBounds_toArray, List.set_cons_zero, List.set_cons_succ]
          clear hcA
          refine wpAnyH_ready (rs := [6]) (by kernel_rfl) (by simp) (AllReadyH.cons rfl (fun K hK => ?_) AllReadyH.nil)
          · go_simp
            refine (cDrawAttrs true w0 a len cap b _ hlen HR.out HS.out.cur).mono ?_
            rintro e W3 ⟨a5, c5, l5, rfl, hl5, hd5⟩
            have HOA := hid (dst_own hd5 HS.out.gr.size)
            have HOW := hid (own_mono hd5.own HS.out.gr.size)
            have HSZ5 := hid hd5.sz
            replace HT := hid ((hd5.gr.block tb (lt_of_heap HT.out) (fun e => HTB.out (Option.some.inj e))).trans HT.out)
            replace HS := hid (HS.out.draw hd5.cur hd5.gr)
            clear hd5
            go_wp2_with fail
            refine hK.out _ _ trivial (fun _ => ?_)
            clear hK K
            try simp only [Act.put, List.setIfInBounds_toArray, List.set_cons_zero, List.set_cons_succ]
            generalize W3 = W at *
            refine wpAnyH_take (i := 7) (v := ?_) rfl (by kernel_rfl) (by kernel_rfl) (by kernel_rfl) (fun _ _ _ h => h) (Or.inl ⟨by rfl, ?_⟩) trivial ?_
            rotate_left
            · intro w hSw
              go_simp
              try (with_reducible rfl)
            try simp only [Act.put, List.setIfInBounds_toArray, List.set_cons_zero, List.set_cons_succ]
            refine wpAnyH_ready (rs := [8]) (by kernel_rfl) (by simp) (AllReadyH.cons rfl (fun K hK => ?_) AllReadyH.nil)
            · have HM := hid (heap_alloc_new W (.cells #[.int .i64 (-1), .string tA, .slice a5 l5.length c5, .string ⟨#[]⟩] 34))
              have HSA := hid (HS.out.alloc (.cells #[.int .i64 (-1), .string tA, .slice a5 l5.length c5, .string ⟨#[]⟩] 34))
              have HOA2 := hid (HOA.out.below ((Below.refl _ _).alloc (Nat.le_refl _) (.cells #[.int .i64 (-1), .string tA, .slice a5 l5.length c5, .string ⟨#[]⟩] 34)))
              have HOW2 := hid (HOW.out.alloc (.cells #[.int .i64 (-1), .string tA, .slice a5 l5.length c5, .string ⟨#[]⟩] 34))
              go_simp
              refine hK.out _ _ trivial (fun _ => ?_)
              clear hK K
              try simp only [Act.put, List.setIfInBounds_toArray, List.set_cons_zero, List.set_cons_succ]
              refine wpAnyH_ready (rs := [9]) (by kernel_rfl) (by simp) (AllReadyH.cons rfl (fun K hK => ?_) AllReadyH.nil)
              · go_simp
                refine hK.out _ _ trivial (fun _ => ?_)
                clear hK K
                try simp only [Act.put, List.setIfInBounds_toArray, List.set_cons_zero, List.set_cons_succ]
                refine wpAnyH_done (by kernel_rfl) ?_ _
                go_wp2_with fail
                go_meet
                exact ⟨_, ⟨⟨-1, tA, l5, ⟨#[]⟩⟩, a5, c5⟩, rfl, nst_one HSA.out HM.out HOA2.out HOW2.out HS.out.gr.size htP ⟨by show tA.size ≤ 20; omega, by show l5.length ≤ 20; omega, HSZ5.out, Nat.zero_le _⟩⟩
        · go_simp
          refine (cDrawAttrs true w0 a len cap b _ hlen HR.out HS.out.cur).mono ?_
          rintro e W3 ⟨a5, c5, l5, rfl, hl5, hd5⟩
          have HOA := hid (dst_own hd5 HS.out.gr.size)
          have HOW := hid (own_mono hd5.own HS.out.gr.size)
          have HSZ5 := hid hd5.sz
          replace HT := hid ((hd5.gr.block tb (lt_of_heap HT.out) (fun e => HTB.out (Option.some.inj e))).trans HT.out)
          replace HS := hid (HS.out.draw hd5.cur hd5.gr)
          clear hd5
          go_wp2_with fail
          refine hK.out _ _ trivial (fun _ => ?_)
          clear hK K
          try simp only [Act.put, List.setIfInBounds_toArray, List.set_cons_zero, List.set_cons_succ]
          generalize W3 = W at *
          refine wpAnyH_ready (rs := [4]) (by kernel_rfl) (by simp) (AllReadyH.cons rfl (fun K hK => ?_) AllReadyH.nil)
          · obtain ⟨tA, hcA, htA, htP⟩ := tab2_at _ tb x hx HT.out
            go_simp
            refine hK.out _ _ trivial (fun _ => ?_)
            clear hK K
            try simp only [Act.put, List.setIfInBounds_toArray, List.set_cons_zero, List.set_cons_succ]
            clear hcA
            refine wpAnyH_take (i := 7) (v := ?_) rfl (by kernel_rfl) (by kernel_rfl) (by kernel_rfl) (fun _ _ _ h => h) (Or.inl ⟨by rfl, ?_⟩) trivial ?_
            rotate_left
            · intro w hSw
              go_simp
              try (with_reducible rfl)
            try simp only [Act.put, List.setIfInBounds_toArray, List.set_cons_zero, List.set_cons_succ]
            refine wpAnyH_ready (rs := [8]) (by kernel_rfl) (by simp) (AllReadyH.cons rfl (fun K hK => ?_) AllReadyH.nil)
            · have HM := hid (heap_alloc_new W (.cells #[.int .i64 (-1), .string tA, .slice a5 l5.length c5, .string ⟨#[]⟩] 34))
              have HSA := hid (HS.out.alloc (.cells #[.int .i64 (-1), .string tA, .slice a5 l5.length c5, .string ⟨#[]⟩] 34))
              have HOA2 := hid (HOA.out.below ((Below.refl _ _).alloc (Nat.le_refl _) (.cells #[.int .i64 (-1), .string tA, .slice a5 l5.length c5, .string ⟨#[]⟩] 34)))
              have HOW2 := hid (HOW.out.alloc (.cells #[.int .i64 (-1), .string tA, .slice a5 l5.length c5, .string ⟨#[]⟩] 34))
              go_simp
              refine hK.out _ _ trivial (fun _ => ?_)
              clear hK K
              try simp only [Act.put, List.setIfInBounds_toArray, List.set_cons_zero, List.set_cons_succ]
              refine wpAnyH_ready (rs := [9]) (by kernel_rfl) (by simp) (AllReadyH.cons rfl (fun K hK => ?_) AllReadyH.nil)
              · go_simp
                refine hK.out _ _ trivial (fun _ => ?_)
                clear hK K
                try simp only [Act.put, List.setIfInBounds_toArray, List.set_cons_zero, List.set_cons_succ]
                refine wpAnyH_done (by kernel_rfl) ?_ _
                go_wp2_with fail
                go_meet
                exact ⟨_, ⟨⟨-1, tA, l5, ⟨#[]⟩⟩, a5, c5⟩, rfl, nst_one HSA.out HM.out HOA2.out HOW2.out HS.out.gr.size htP ⟨by show tA.size ≤ 20; omega, by show l5.length ≤ 20; omega, HSZ5.out, Nat.zero_le _⟩⟩
      · go_simp
        refine (cDrawAttrs true w0 a len cap b _ hlen HR.out HS.out.cur).mono ?_
        rintro e W3 ⟨a5, c5, l5, rfl, hl5, hd5⟩
        have HOA := hid (dst_own hd5 HS.out.gr.size)
        have HOW := hid (own_mono hd5.own HS.out.gr.size)
        have HSZ5 := hid hd5.sz
        replace HS := hid (HS.out.draw hd5.cur hd5.gr)
        clear hd5
        go_wp2_with fail
        refine hK.out _ _ trivial (fun _ => ?_)
        clear hK K
        try simp only [Act.put, List.setIfInBounds_toArray, List.set_cons_zero, List.set_cons_succ]
        generalize W3 = W at *
        refine wpAnyH_ready (rs := [0]) (by kernel_rfl) (by simp) (AllReadyH.cons rfl (fun K hK => ?_) AllReadyH.nil)
        · have HTB := hid (show ¬ W.heap.size = b by have := HS.out.gr.size; have := HS.out.lt; omega)
          go_simp
          refine hK.out _ _ trivial (fun _ => ?_)
          clear hK K
          try simp only [Act.put, List.setIfInBounds_toArray, List.set_cons_zero, List.set_cons_succ]
          have HT := hid (heap_alloc_new W (.cells #[.string ⟨#[97]⟩, .string ⟨#[112, 58, 97]⟩] 9))
          replace HS := hid (HS.out.alloc (.cells #[.string ⟨#[97]⟩, .string ⟨#[112, 58, 97]⟩] 9))
          replace HOA := hid (HOA.out.below ((Below.refl _ _).alloc (Nat.le_refl _) (.cells #[.string ⟨#[97]⟩, .string ⟨#[112, 58, 97]⟩] 9)))
          replace HOW := hid (HOW.out.alloc (.cells #[.string ⟨#[97]⟩, .string ⟨#[112, 58, 97]⟩] 9))
          generalize W.heap.size = tb at *
          generalize W.alloc (.cells #[.string ⟨#[97]⟩, .string ⟨#[112, 58, 97]⟩] 9) = W at *
          refine wpAnyH_take (i := 3) (v := ?_) rfl (by kernel_rfl) (by kernel_rfl) (by kernel_rfl) (fun _ _ _ h => h) (Or.inl ⟨by rfl, ?_⟩) trivial ?_
          rotate_left
          · intro w hSw
            go_simp
            try (with_reducible rfl)
          try simp only [Act.put, List.setIfInBounds_toArray, List.set_cons_zero, List.set_cons_succ]
          refine wpAnyH_ready (rs := [4]) (by kernel_rfl) (by simp) (AllReadyH.cons rfl (fun K hK => ?_) AllReadyH.nil)
          · obtain ⟨tA, hcA, htA, htP⟩ := tab2_at _ tb x hx HT.out
            go_simp
            refine hK.out _ _ trivial (fun _ => ?_)
            clear hK K
            try simp only [Act.put, List.setIfInBounds_toArray, List.set_cons_zero, List.set_cons_succ]
            clear hcA
            refine wpAnyH_take (i := 7) (v := ?_) rfl (by kernel_rfl) (by kernel_rfl) (by kernel_rfl) (fun _ _ _ h => h) (Or.inl ⟨by rfl, ?_⟩) trivial ?_
            rotate_left
            · intro w hSw
              go_simp
              try (with_reducible rfl)
            try simp only [Act.put, List.setIfInBounds_toArray, List.set_cons_zero, List.set_cons_succ]
            refine wpAnyH_ready (rs := [8]) (by kernel_rfl) (by simp) (AllReadyH.cons rfl (fun K hK => ?_) AllReadyH.nil)
            · have HM := hid (heap_alloc_new W (.cells #[.int .i64 (-1), .string tA, .slice a5 l5.length c5, .string ⟨#[]⟩] 34))
              have HSA := hid (HS.out.alloc (.cells #[.int .i64 (-1), .string tA, .slice a5 l5.length c5, .string ⟨#[]⟩] 34))
              have HOA2 := hid (HOA.out.below ((Below.refl _ _).alloc (Nat.le_refl _) (.cells #[.int .i64 (-1), .string tA, .slice a5 l5.length c5, .string ⟨#[]⟩] 34)))
              have HOW2 := hid (HOW.out.alloc (.cells #[.int .i64 (-1), .string tA, .slice a5 l5.length c5, .string ⟨#[]⟩] 34))
              go_simp
              refine hK.out _ _ trivial (fun _ => ?_)
              clear hK K
              try simp only [Act.put, List.setIfInBounds_toArray, List.set_cons_zero, List.set_cons_succ]
              refine wpAnyH_ready (rs := [9]) (by kernel_rfl) (by simp) (AllReadyH.cons rfl (fun K hK => ?_) AllReadyH.nil)
              · go_simp
                refine hK.out _ _ trivial (fun _ => ?_)
                clear hK K
                try simp only [Act.put, List.setIfInBounds_toArray, List.set_cons_zero, List.set_cons_succ]
                refine wpAnyH_done (by kernel_rfl) ?_ _
                go_wp2_with fail
                go_meet
                exact ⟨_, ⟨⟨-1, tA, l5, ⟨#[]⟩⟩, a5, c5⟩, rfl, nst_one HSA.out HM.out HOA2.out HOW2.out HS.out.gr.size htP ⟨by show tA.size ≤ 20; omega, by show l5.length ≤ 20; omega, HSZ5.out, Nat.zero_le _⟩⟩
  obtain ⟨gn, e1, rfl, HN1⟩ := hcut
  clear HS0
  go_wp2_with fail
  refine (cBelow 10 w0 a len cap b _ hlen HR.out HN1.out.c.cur (by omega) (by omega)).mono ?_
  rintro e w2 ⟨y, rfl, hy, hC2, hG2⟩
  have HN2 := hid (HN1.out.draw hC2 hG2)
  clear hC2 hG2 HN1
  go_wp2_with fail
  go_loopw [3, 4, 5] (fun v x y wr => ∃ (k : Nat) (es : List Nd.E) (at_ : Nat), y = .int .i64 (k : Int) ∧ k ≤ 9 ∧ x = .int .i64 (at_ : Int) ∧ es.length + k ≤ 10 ∧ Hid (NSt w0 a len cap b w wr v es at_)) (fun _ _ y _ => (intOf y).toNat)
  case atStart => exact ⟨y, [e1], 0, rfl, by omega, rfl, by show 1 + y ≤ 10; omega, HN2.out⟩
  case round =>
    clear HN2
    obtain ⟨k, es, at_, rfl, hk, rfl, hek, HN⟩ := hrel
    obtain ⟨av, cv, hv, htk⟩ := HN.out.row.tkRow
    have hpos : 1 ≤ es.length := by have := HN.out.grn.pos; rw [List.length_map] at this; exact this
    subst hv
    by_cases h0 : k = 0
    · subst h0
      clear htk
      go_wp2_with fail
      go_ret
      exact ⟨av, cv, es, at_, rfl, hpos, by omega, HN.out⟩
    obtain ⟨k1, rfl⟩ : ∃ k1, k = k1 + 1 := ⟨k - 1, by omega⟩
    obtain ⟨m, hm⟩ : ∃ m, es.length = m + 1 := ⟨es.length - 1, by omega⟩
    have HL := hid hm
    have hlm : (es.map (·.t)).length = m + 1 := by rw [List.length_map]; exact hm
    have hat : at_ < m + 1 := by have := HN.out.grn.lt; rw [hlm] at this; exact this
    have HLM := hid hlm
    obtain ⟨bb5, o5, aa, ca, ea, hb5, c0, c1, c2, c3, cr5⟩ := htk m (by omega)
    clear cr5
    have HTK := hid htk
    have HB5 := hid hb5
    subst ea
    obtain ⟨tl, htl⟩ : ∃ t, (es.map (·.t))[m] = t := ⟨_, rfl⟩
    have hz5 := (show TkSz 20 tl from by
      rw [← htl, List.getElem_map]
      exact HN.out.sz _ (List.getElem_mem (by omega)))
    rw [htl] at c0 c1 c2 c3
    obtain ⟨tk, tn, tat, tx⟩ := tl
    have z1 : tn.size ≤ 20 := hz5.1
    simp only at c0 c1 c2 c3
    have M1 := hid (heap_alloc_new wr (.cells #[.int .i64 tk, .string tn, .slice aa tat.length ca, .string tx] 34))
    have HNA := hid (HN.out.alloc (.cells #[.int .i64 tk, .string tn, .slice aa tat.length ca, .string tx] 34))
    have hbw : ¬ wr.heap.size = b := by have := HN.out.c.gr.size; have := HN.out.c.lt; omega
    have HNL := hid (show es.length + [(⟨⟨0, ⟨#[]⟩, [], ⟨#[]⟩⟩, none, 0⟩ : Nd.E)].length ≤ 2097152 by rw [hm]; simp; omega)
    rw [hm] at HN HNA hek ⊢
    obtain ⟨q, hq⟩ : ∃ q, tat.length = q := ⟨_, rfl⟩
    rw [hq] at c2 M1 HNA
    clear htl hlm hm htk hz5 hq hpos
    go_wp2_with fail
    refine (cBelow 5 w0 a len cap b _ hlen HR.out HNA.out.c.cur (by omega) (by omega)).mono ?_
    rintro e w3 ⟨x, rfl, hx, hC3, hG3⟩
    have HN3 := hid (HNA.out.draw hC3 hG3)
    have M3 := hid ((hG3.block wr.heap.size (lt_of_heap M1.out) (fun e => hbw (Option.some.inj e))).trans M1.out)
    clear hC3 hG3 c0 c1 c2 c3 HNA M1
    obtain ⟨⟨x0, x1, x2, x3⟩, _⟩ := box4 M3.out
    by_cases hx2 : x < 2
    · have hd2 : decide ((x : Int) < 2) = true := decide_eq_true (by omega)
      have E1 := empty_is tn
      obtain ⟨B1, hB1⟩ : ∃ B, decide (tn.size = 0) = B := ⟨_, rfl⟩
      rw [hB1] at E1
      obtain ⟨B2, hB2⟩ : ∃ B : Bool, (tk == (at_ : Int)) = B := ⟨_, rfl⟩
      clear hB1
      go_upto_region 12 with fail
      go_cut [67] from 57 to 89 (fun x wv => x = .bool (B1 && B2) ∧ wv = w3)
      case first =>
        cases B1
        · go_wp2_with fail
          go_meet
          exact ⟨rfl, rfl⟩
        · go_wp2_with fail
          go_meet
          exact ⟨rfl, rfl⟩
      obtain ⟨rfl, rfl⟩ := hcut
      obtain ⟨BB, hBB⟩ : ∃ B, (B1 && B2) = B := ⟨_, rfl⟩
      rw [hBB]
      clear hBB hB2 E1
      cases BB
      · go_wp2_with fail
        refine (cText ⟨#[97, 98, 60, 38, 62, 32, 10]⟩ 4 w0 a len cap b _ (by omega) (by omega) (by decide) (by decide) hlen HR.out HN3.out.c.cur).mono ?_
        rintro e w4 ⟨t5, rfl, ht5, hC4, hG4⟩
        have HN4 := hid (HN3.out.draw hC4 hG4)
        obtain ⟨S5, hS5⟩ : ∃ S, (⟨#[116]⟩ : ByteArray) ++ t5 = S := ⟨_, rfl⟩
        have hz6 : S5.size ≤ 20 := by rw [← hS5, ByteArray.size_append, show (⟨#[116]⟩ : ByteArray).size = 1 from rfl]; omega
        have hov : ¬ 9223372036854775807 < (⟨#[116]⟩ : ByteArray).size + t5.size := by rw [show (⟨#[116]⟩ : ByteArray).size = 1 from rfl]; omega
        have HMN := hid (heap_alloc_new w4 (.cells #[.int .i64 (at_ : Int), .string ⟨#[]⟩, .slice none 0 0, .string S5] 34))
        have HSA := hid (HN4.out.alloc (.cells #[.int .i64 (at_ : Int), .string ⟨#[]⟩, .slice none 0 0, .string S5] 34))
        have HCL := hid (one_cells (l5 := []) HMN.out)
        have hw4 := HN4.out.c.gr.size
        clear hC4 hG4 x0 x1 x2 x3
        go_wp2_with (at_builtin; refine Nd.wpL_join _ rfl _ _ rfl w.heap.size _ es [⟨⟨(at_ : Int), ⟨#[]⟩, [], S5⟩, none, 0⟩] rfl HSA.out.row w4.heap.size 1 1 rfl rfl HCL.out (fun y hy => ?d1) (List.pairwise_singleton _ _) (fun e he y hy => ?d2) ?d3 ?d4 ?_)
        case d1 =>
          rw [List.mem_singleton] at hy
          subst hy
          exact ⟨fun h => absurd h (Nat.not_lt_zero _), fun g o h => absurd h (Nat.not_lt_zero _)⟩
        case d2 =>
          rw [List.mem_singleton] at hy
          subst hy
          exact fun _ h => absurd h (Nat.not_lt_zero _)
        case d3 => exact HNL.out
        case d4 => simp; omega
        intro a7 c7 w7 hr7 hb7 hg7
        have HN7 := hid (HSA.out.join (e := ⟨⟨(at_ : Int), ⟨#[]⟩, [], S5⟩, none, 0⟩) hr7 hg7 (World.ownsRow_nil _ _ _ _) (fun _ _ _ _ e => nomatch (show (none : Option Nat) = some _ from e)) ⟨Nat.zero_le _, Nat.zero_le _, fun y hy => absurd hy List.not_mem_nil, hz6⟩ (HSA.out.grn.keep rfl))
        clear hr7 hb7 hg7
        go_wp2_with fail
        go_roundw
        case rel => exact ⟨k1, es ++ [⟨⟨(at_ : Int), ⟨#[]⟩, [], S5⟩, none, 0⟩], at_, by go_num, by omega, rfl, by rw [List.length_append, HL.out]; simp; omega, hid (by simpa using HN7.out)⟩
        case measure => first | (simp [intOf]; omega) | simp [intOf]
      · go_wp2_with fail
        go_roundw
        case rel => exact ⟨k1, es, at_, by go_num, by omega, rfl, by rw [HL.out]; omega, HN3.out⟩
        case measure => first | (simp [intOf]; omega) | simp [intOf]
    have hd2 : decide ((x : Int) < 2) = false := decide_eq_false (by omega)
    by_cases hx4 : x = 4
    · subst hx4
      obtain ⟨av2, cv2, ev2, htk3⟩ := HN3.out.row.tkRow
      obtain ⟨rfl, rfl⟩ : some (⟨bb5, o5, none⟩ : Addr) = av2 ∧ cv = cv2 := by injection ev2 with h1 _ h3; exact ⟨h1, h3⟩
      obtain ⟨b6, o6, ea6, y0, _⟩ := htk3.kindAt at_ (by rw [HLM.out]; exact hat)
      obtain ⟨rfl, rfl⟩ : bb5 = b6 ∧ o5 = o6 := by cases ea6; exact ⟨rfl, rfl⟩
      have hatn : (at_ : Int) < ((m + 1 : Nat) : Int) := by omega
      obtain ⟨P, hP⟩ : ∃ P, parI (es.map (·.t)) at_ = P := ⟨_, rfl⟩
      have HP := hid hP
      rw [hP] at y0
      clear hP htk3 ev2 ea6
      by_cases hp0 : 0 ≤ P
      · have HG := hid (HN3.out.grn.outer (by rw [HP.out]; exact hp0))
        rw [HP.out] at HG
        obtain ⟨pn, hpn⟩ : ∃ pn : Nat, P = (pn : Int) := ⟨P.toNat, by omega⟩
        subst hpn
        rw [Int.toNat_natCast] at HG
        go_wp2_with fail
        go_roundw
        case rel => exact ⟨k1, es, pn, by go_num, by omega, rfl, by rw [HL.out]; omega, ⟨HN3.out.c, HN3.out.row, HN3.out.sz, HG.out, HN3.out.own, HN3.out.apo⟩⟩
        case measure => first | (simp [intOf]; omega) | simp [intOf]
      · have hp1 : P < 0 := by omega
        go_wp2_with fail
        go_roundw
        case rel => exact ⟨k1, es, at_, by go_num, by omega, rfl, by rw [HL.out]; omega, HN3.out⟩
        case measure => first | (simp [intOf]; omega) | simp [intOf]
    · have hd4 : ((x : Int) == 4) = false := by simp; omega
      generalize some (⟨bb5, o5, none⟩ : Addr) = av at *
      have HL2 := hid (show ∀ e : Nd.E, (es ++ [e]).length = m + 1 + 1 from fun e => by rw [List.length_append, HL.out]; rfl)
      clear hx2
      go_upto_region 8 with fail
      go_cut [3] from 31 to 89 (fun x wv => ∃ (a7 : Option Addr) (c7 : Nat) (e : Nd.E), x = .slice a7 (m + 1 + 1) c7 ∧ e.t.kind = (at_ : Int) ∧ ¬ e.t.name.size = 0 ∧ Hid (NSt w0 a len cap b w wv (.slice a7 (m + 1 + 1) c7) (es ++ [e]) at_))
      case first =>
          refine wp_region_held_drew (S := fun _ => True) (by kernel_rfl) trivial (fun _ => ?_)
          have HS := hid (show NSt w0 a len cap b w w3.drew (.slice av (m + 1) cv) es at_ from HN3.out.drewN 1)
          generalize w3.drew = W at *
          refine wpAnyH_take (i := 0) (v := ?_) rfl (by kernel_rfl) (by kernel_rfl) (by kernel_rfl) (fun _ _ _ h => h) (Or.inl ⟨by rfl, ?_⟩) trivial ?_
          rotate_left
          · intro w hSw
            go_simp
            try (with_reducible rfl)
          try simp only [Act.put, List.setIfInBounds_toArray, List.set_cons_zero, List.set_cons_succ]
          refine wpAnyH_take (i := 1) (v := ?_) rfl (by kernel_rfl) (by kernel_rfl) (by kernel_rfl) (fun _ _ _ h => h) (Or.inl ⟨by rfl, ?_⟩) trivial ?_
          rotate_left
          · intro w hSw
            go_simp
            try (with_reducible rfl)
          try simp only [Act.put, List.setIfInBounds_toArray, List.set_cons_zero, List.set_cons_succ]
          refine wpAnyH_take (i := 3) (v := ?_) rfl (by kernel_rfl) (by kernel_rfl) (by kernel_rfl) (fun _ _ _ h => h) (Or.inl ⟨by rfl, ?_⟩) trivial ?_
          rotate_left
          · intro w hSw
            go_simp
            try (with_reducible rfl)
          try simp only [Act.put, List.setIfInBounds_toArray, List.set_cons_zero, List.set_cons_succ]
          refine wpAnyH_take (i := 7) (v := ?_) rfl (by kernel_rfl) (by kernel_rfl) (by kernel_rfl) (fun _ _ _ h => h) (Or.inl ⟨by rfl, ?_⟩) trivial ?_
          rotate_left
          · intro w hSw
            go_simp
            try (with_reducible rfl)
          try simp only [Act.put, List.setIfInBounds_toArray, List.set_cons_zero, List.set_cons_succ]
          refine wpAnyH_ready (rs := [2, 4]) (by kernel_rfl) (by simp) (AllReadyH.cons rfl (fun K hK => ?_) (AllReadyH.cons rfl (fun K hK => ?_) AllReadyH.nil))
          · have HTB := hid (show ¬ W.heap.size = b by have := HS.out.c.gr.size; have := HS.out.c.lt; omega)
            go_simp
            refine hK.out _ _ trivial (fun _ => ?_)
            clear hK K
            try simp only [Act.put, List.setIfInBounds_toArray, List.set_cons_zero, List.set_cons_succ]
            have HT := hid (heap_alloc_new W (.cells #[.string ⟨#[97]⟩, .string ⟨#[98]⟩, .string ⟨#[112, 58, 97]⟩, .string ⟨#[113, 58, 98]⟩, .string ⟨#[99]⟩] 9))
            replace HS := hid (HS.out.alloc (.cells #[.string ⟨#[97]⟩, .string ⟨#[98]⟩, .string ⟨#[112, 58, 97]⟩, .string ⟨#[113, 58, 98]⟩, .string ⟨#[99]⟩] 9))
            generalize W.heap.size = tb at *
            generalize W.alloc (.cells #[.string ⟨#[97]⟩, .string ⟨#[98]⟩, .string ⟨#[112, 58, 97]⟩, .string ⟨#[113, 58, 98]⟩, .string ⟨#[99]⟩] 9) = W at *
            refine wpAnyH_ready (rs := [4]) (by kernel_rfl) (by simp) (AllReadyH.cons rfl (fun K hK => ?_) AllReadyH.nil)
            · go_simp
              refine (cBelow 5 w0 a len cap b _ hlen HR.out HS.out.c.cur (by omega) (by omega)).mono ?_
              rintro e W2 ⟨x, rfl, hx, hC, hG⟩
              replace HT := hid ((hG.block tb (lt_of_heap HT.out) (fun e => HTB.out (Option.some.inj e))).trans HT.out)
              replace HS := hid (HS.out.draw hC hG)
              have hxn : (x : Int) < 5 := by omega
              clear hC hG
              go_wp2_with fail
              refine hK.out _ _ trivial (fun _ => ?_)
              clear hK K
              try simp only [Act.put, List.setIfInBounds_toArray, List.set_cons_zero, List.set_cons_succ]
              generalize W2 = W at *
              refine wpAnyH_take (i := 5) (v := ?_) rfl (by kernel_rfl) (by kernel_rfl) (by kernel_rfl) (fun _ _ _ h => h) (Or.inl ⟨by rfl, ?_⟩) trivial ?_
              rotate_left
              · intro w hSw
                go_simp
                try (with_reducible rfl)
              try simp only [Act.put, List.setIfInBounds_toArray, List.set_cons_zero, List.set_cons_succ]
              refine wpAnyH_ready (rs := [6, 8]) (by kernel_rfl) (by simp) (AllReadyH.cons rfl (fun K hK => ?_) (AllReadyH.cons rfl (fun K hK => ?_) AllReadyH.nil))
              · obtain ⟨tA, hcA, htA, htP⟩ := tab5_at _ tb x hx HT.out
                go_simp
                refine hK.out _ _ trivial (fun _ => ?_)
                clear hK K
                try simp only [Act.put, List.setIfInBounds_toArray, List.set_cons_zero, List.set_cons_succ]
                clear hcA
                refine wpAnyH_ready (rs := [8]) (by kernel_rfl) (by simp) (AllReadyH.cons rfl (fun K hK => ?_) AllReadyH.nil)
                · go_simp
                  refine (cDrawAttrs false w0 a len cap b _ hlen HR.out HS.out.c.cur).mono ?_
                  rintro e W3 ⟨a5, c5, l5, rfl, hl5, hd5⟩
                  have HOA := hid (dst_own hd5 HS.out.c.gr.size)
                  have HOW := hid (own_mono hd5.own HS.out.c.gr.size)
                  have HSZ5 := hid hd5.sz
                  have HAP := hid (ap_of HS.out.row (dst_own hd5 (Nat.le_refl _)))
                  have HAO := hid (apo_of HS.out.own hd5.own)
                  replace HT := hid ((hd5.gr.block tb (lt_of_heap HT.out) (fun e => HTB.out (Option.some.inj e))).trans HT.out)
                  replace HS := hid (HS.out.draw hd5.cur hd5.gr)
                  clear hd5
                  go_wp2_with fail
                  refine hK.out _ _ trivial (fun _ => ?_)
                  clear hK K
                  try simp only [Act.put, List.setIfInBounds_toArray, List.set_cons_zero, List.set_cons_succ]
                  generalize W3 = W at *
                  refine wpAnyH_take (i := 9) (v := ?_) rfl (by kernel_rfl) (by kernel_rfl) (by kernel_rfl) (fun _ _ _ h => h) (Or.inl ⟨by rfl, ?_⟩) trivial ?_
                  rotate_left
                  · intro w hSw
                    go_simp
                    try (with_reducible rfl)
                  try simp only [Act.put, List.setIfInBounds_toArray, List.set_cons_zero, List.set_cons_succ]
                  refine wpAnyH_ready (rs := [10]) (by kernel_rfl) (by simp) (AllReadyH.cons rfl (fun K hK => ?_) AllReadyH.nil)
                  · have HMN := hid (heap_alloc_new W (.cells #[.int .i64 (at_ : Int), .string tA, .slice a5 l5.length c5, .string ⟨#[]⟩] 34))
                    have HSA := hid (HS.out.alloc (.cells #[.int .i64 (at_ : Int), .string tA, .slice a5 l5.length c5, .string ⟨#[]⟩] 34))
                    have HOA2 := hid (HOA.out.below ((Below.refl _ _).alloc (Nat.le_refl _) (.cells #[.int .i64 (at_ : Int), .string tA, .slice a5 l5.length c5, .string ⟨#[]⟩] 34)))
                    have HOW2 := hid (HOW.out.alloc (.cells #[.int .i64 (at_ : Int), .string tA, .slice a5 l5.length c5, .string ⟨#[]⟩] 34))
                    have HZW := hid (show w.heap.size ≤ (W.alloc (.cells #[.int .i64 (at_ : Int), .string tA, .slice a5 l5.length c5, .string ⟨#[]⟩] 34)).heap.size from HSA.out.c.gr.size)
                    go_simp
                    refine hK.out _ _ trivial (fun _ => ?_)
                    clear hK K
                    try simp only [Act.put, List.setIfInBounds_toArray, List.set_cons_zero, List.set_cons_succ]
                    generalize W.heap.size = gn at *
                    generalize W.alloc (.cells #[.int .i64 (at_ : Int), .string tA, .slice a5 l5.length c5, .string ⟨#[]⟩] 34) = W at *
                    refine wpAnyH_ready (rs := [11]) (by kernel_rfl) (by simp) (AllReadyH.cons rfl (fun K hK => ?_) AllReadyH.nil)
                    · refine Nd.step_join rfl (.tmp 31) (.tmp 41) rfl w.heap.size (.slice av (m + 1) cv) es [⟨⟨(at_ : Int), tA, l5, ⟨#[]⟩⟩, a5, c5⟩] (by simp [Act.eval, Act.put]) HSA.out.row gn 1 1 (by simp [Act.eval, Act.put]) rfl (one_cells HMN.out) (one_hf HOA2.out HAP.out.2) (List.pairwise_singleton _ _) (one_ap HAP.out.1) HNL.out HZW.out ?_
                      intro a7 c7 w7 hr7 hb7 hg7
                      have HR7 := hid hr7
                      have HG7 := hid hg7
                      clear hr7 hb7 hg7
                      refine hK.out _ _ trivial (fun _ => ?_)
                      clear hK K
                      try simp only [Act.put, List.setIfInBounds_toArray, List.set_cons_zero, List.set_cons_succ]
                      refine wpAnyH_ready (rs := [12]) (by kernel_rfl) (by simp) (AllReadyH.cons rfl (fun K hK => ?_) AllReadyH.nil)
                      · go_simp
                        refine hK.out _ _ trivial (fun _ => ?_)
                        clear hK K
                        try simp only [Act.put, List.setIfInBounds_toArray, List.set_cons_zero, List.set_cons_succ]
                        refine wpAnyH_done (by kernel_rfl) ?_ _
                        go_wp2_with fail
                        go_meet
                        exact ⟨a7, c7, ⟨⟨(at_ : Int), tA, l5, ⟨#[]⟩⟩, a5, c5⟩, by rw [HL.out], rfl, htP, by rw [← HL2.out ⟨⟨(at_ : Int), tA, l5, ⟨#[]⟩⟩, a5, c5⟩]; exact HSA.out.join HR7.out HG7.out HOW2.out HAO.out ⟨by show tA.size ≤ 20; omega, by show l5.length ≤ 20; omega, HSZ5.out, Nat.zero_le _⟩ (HSA.out.grn.keep rfl)⟩
              · go_simp
                refine (cDrawAttrs false w0 a len cap b _ hlen HR.out HS.out.c.cur).mono ?_
                rintro e W3 ⟨a5, c5, l5, rfl, hl5, hd5⟩
                have HOA := hid (dst_own hd5 HS.out.c.gr.size)
                have HOW := hid (own_mono hd5.own HS.out.c.gr.size)
                have HSZ5 := hid hd5.sz
                have HAP := hid (ap_of HS.out.row (dst_own hd5 (Nat.le_refl _)))
                have HAO := hid (apo_of HS.out.own hd5.own)
                replace HT := hid ((hd5.gr.block tb (lt_of_heap HT.out) (fun e => HTB.out (Option.some.inj e))).trans HT.out)
                replace HS := hid (HS.out.draw hd5.cur hd5.gr)
                clear hd5
                go_wp2_with fail
                refine hK.out _ _ trivial (fun _ => ?_)
                clear hK K
                try simp only [Act.put, List.setIfInBounds_toArray, List.set_cons_zero, List.set_cons_succ]
                generalize W3 = W at *
                refine wpAnyH_ready (rs := [6]) (by kernel_rfl) (by simp) (AllReadyH.cons rfl (fun K hK => ?_) AllReadyH.nil)
                · obtain ⟨tA, hcA, htA, htP⟩ := tab5_at _ tb x hx HT.out
                  go_simp
                  refine hK.out _ _ trivial (fun _ => ?_)
                  clear hK K
                  try simp only [Act.put, List.setIfInBounds_toArray, List.set_cons_zero, List.set_cons_succ]
                  clear hcA
                  refine wpAnyH_take (i := 9) (v := ?_) rfl (by kernel_rfl) (by kernel_rfl) (by kernel_rfl) (fun _ _ _ h => h) (Or.inl ⟨by rfl, ?_⟩) trivial ?_
                  rotate_left
                  · intro w hSw
                    go_simp
                    try (with_reducible rfl)
                  try simp only [Act.put, List.setIfInBounds_toArray, List.set_cons_zero, List.set_cons_succ]
                  refine wpAnyH_ready (rs := [10]) (by kernel_rfl) (by simp) (AllReadyH.cons rfl (fun K hK => ?_) AllReadyH.nil)
                  · have HMN := hid (heap_alloc_new W (.cells #[.int .i64 (at_ : Int), .string tA, .slice a5 l5.length c5, .string ⟨#[]⟩] 34))
                    have HSA := hid (HS.out.alloc (.cells #[.int .i64 (at_ : Int), .string tA, .slice a5 l5.length c5, .string ⟨#[]⟩] 34))
                    have HOA2 := hid (HOA.out.below ((Below.refl _ _).alloc (Nat.le_refl _) (.cells #[.int .i64 (at_ : Int), .string tA, .slice a5 l5.length c5, .string ⟨#[]⟩] 34)))
                    have HOW2 := hid (HOW.out.alloc (.cells #[.int .i64 (at_ : Int), .string tA, .slice a5 l5.length c5, .string ⟨#[]⟩] 34))
                    have HZW := hid (show w.heap.size ≤ (W.alloc (.cells #[.int .i64 (at_ : Int), .string tA, .slice a5 l5.length c5, .string ⟨#[]⟩] 34)).heap.size from HSA.out.c.gr.size)
                    go_simp
                    refine hK.out _ _ trivial (fun _ => ?_)
                    clear hK K
                    try simp only [Act.put, List.setIfInBounds_toArray, List.set_cons_zero, List.set_cons_succ]
                    generalize W.heap.size = gn at *
                    generalize W.alloc (.cells #[.int .i64 (at_ : Int), .string tA, .slice a5 l5.length c5, .string ⟨#[]⟩] 34) = W at *
                    refine wpAnyH_ready (rs := [11]) (by kernel_rfl) (by simp) (AllReadyH.cons rfl (fun K hK => ?_) AllReadyH.nil)
                    · refine Nd.step_join rfl (.tmp 31) (.tmp 41) rfl w.heap.size (.slice av (m + 1) cv) es [⟨⟨(at_ : Int), tA, l5, ⟨#[]⟩⟩, a5, c5⟩] (by simp [Act.eval, Act.put]) HSA.out.row gn 1 1 (by simp [Act.eval, Act.put]) rfl (one_cells HMN.out) (one_hf HOA2.out HAP.out.2) (List.pairwise_singleton _ _) (one_ap HAP.out.1) HNL.out HZW.out ?_
                      intro a7 c7 w7 hr7 hb7 hg7
                      have HR7 := hid hr7
                      have HG7 := hid hg7
                      clear hr7 hb7 hg7
                      refine hK.out _ _ trivial (fun _ => ?_)
                      clear hK K
                      try simp only [Act.put, List.setIfInBounds_toArray, List.set_cons_zero, List.set_cons_succ]
                      refine wpAnyH_ready (rs := [12]) (by kernel_rfl) (by simp) (AllReadyH.cons rfl (fun K hK => ?_) AllReadyH.nil)
                      · go_simp
                        refine hK.out _ _ trivial (fun _ => ?_)
                        clear hK K
                        try simp only [Act.put, List.setIfInBounds_toArray, List.set_cons_zero, List.set_cons_succ]
                        refine wpAnyH_done (by kernel_rfl) ?_ _
                        go_wp2_with fail
                        go_meet
                        exact ⟨a7, c7, ⟨⟨(at_ : Int), tA, l5, ⟨#[]⟩⟩, a5, c5⟩, by rw [HL.out], rfl, htP, by rw [← HL2.out ⟨⟨(at_ : Int), tA, l5, ⟨#[]⟩⟩, a5, c5⟩]; exact HSA.out.join HR7.out HG7.out HOW2.out HAO.out ⟨by show tA.size ≤ 20; omega, by show l5.length ≤ 20; omega, HSZ5.out, Nat.zero_le _⟩ (HSA.out.grn.keep rfl)⟩
          · go_simp
            refine (cBelow 5 w0 a len cap b _ hlen HR.out HS.out.c.cur (by omega) (by omega)).mono ?_
            rintro e W2 ⟨x, rfl, hx, hC, hG⟩
            replace HS := hid (HS.out.draw hC hG)
            have hxn : (x : Int) < 5 := by omega
            clear hC hG
            go_wp2_with fail
            refine hK.out _ _ trivial (fun _ => ?_)
            clear hK K
            try simp only [Act.put, List.setIfInBounds_toArray, List.set_cons_zero, List.set_cons_succ]
            generalize W2 = W at *
            refine wpAnyH_ready (rs := [2, 8]) (by kernel_rfl) (by simp) (AllReadyH.cons rfl (fun K hK => ?_) (AllReadyH.cons rfl (fun K hK => ?_) AllReadyH.nil))
            · have HTB := hid (show ¬ W.heap.size = b by have := HS.out.c.gr.size; have := HS.out.c.lt; omega)
              go_simp
              refine hK.out _ _ trivial (fun _ => ?_)
              clear hK K
              try simp only [Act.put, List.setIfInBounds_toArray, List.set_cons_zero, List.set_cons_succ]
              have HT := hid (heap_alloc_new W (.cells #[.string ⟨#[97]⟩, .string ⟨#[98]⟩, .string ⟨#[112, 58, 97]⟩, .string ⟨#[113, 58, 98]⟩, .string ⟨#[99]⟩] 9))
              replace HS := hid (HS.out.alloc (.cells #[.string ⟨#[97]⟩, .string ⟨#[98]⟩, .string ⟨#[112, 58, 97]⟩, .string ⟨#[113, 58, 98]⟩, .string ⟨#[99]⟩] 9))
              generalize W.heap.size = tb at *
              generalize W.alloc (.cells #[.string ⟨#[97]⟩, .string ⟨#[98]⟩, .string ⟨#[112, 58, 97]⟩, .string ⟨#[113, 58, 98]⟩, .string ⟨#[99]⟩] 9) = W at *
              refine wpAnyH_take (i := 5) (v := ?_) rfl (by kernel_rfl) (by kernel_rfl) (by kernel_rfl) (fun _ _ _ h => h) (Or.inl ⟨by rfl, ?_⟩) trivial ?_
              rotate_left
              · intro w hSw
                go_simp
                try (with_reducible rfl)
              try simp only [Act.put, List.setIfInBounds_toArray, List.set_cons_zero, List.set_cons_succ]
              refine wpAnyH_ready (rs := [6, 8]) (by kernel_rfl) (by simp) (AllReadyH.cons rfl (fun K hK => ?_) (AllReadyH.cons rfl (fun K hK => ?_) AllReadyH.nil))
              · obtain ⟨tA, hcA, htA, htP⟩ := tab5_at _ tb x hx HT.out
                go_simp
                refine hK.out _ _ trivial (fun _ => ?_)
                clear hK K
                try simp only [Act.put, List.setIfInBounds_toArray, List.set_cons_zero, List.set_cons_succ]
                clear hcA
                refine wpAnyH_ready (rs := [8]) (by kernel_rfl) (by simp) (AllReadyH.cons rfl (fun K hK => ?_) AllReadyH.nil)
                · go_simp
                  refine (cDrawAttrs false w0 a len cap b _ hlen HR.out HS.out.c.cur).mono ?_
                  rintro e W3 ⟨a5, c5, l5, rfl, hl5, hd5⟩
                  have HOA := hid (dst_own hd5 HS.out.c.gr.size)
                  have HOW := hid (own_mono hd5.own HS.out.c.gr.size)
                  have HSZ5 := hid hd5.sz
                  have HAP := hid (ap_of HS.out.row (dst_own hd5 (Nat.le_refl _)))
                  have HAO := hid (apo_of HS.out.own hd5.own)
                  replace HT := hid ((hd5.gr.block tb (lt_of_heap HT.out) (fun e => HTB.out (Option.some.inj e))).trans HT.out)
                  replace HS := hid (HS.out.draw hd5.cur hd5.gr)
                  clear hd5
                  go_wp2_with fail
                  refine hK.out _ _ trivial (fun _ => ?_)
                  clear hK K
                  try simp only [Act.put, List.setIfInBounds_toArray, List.set_cons_zero, List.set_cons_succ]
                  generalize W3 = W at *
                  refine wpAnyH_take (i := 9) (v := ?_) rfl (by kernel_rfl) (by kernel_rfl) (by kernel_rfl) (fun _ _ _ h => h) (Or.inl ⟨by rfl, ?_⟩) trivial ?_
                  rotate_left
                  · intro w hSw
                    go_simp
                    try (with_reducible rfl)
                  try simp only [Act.put, List.setIfInBounds_toArray, List.set_cons_zero, List.set_cons_succ]
                  refine wpAnyH_ready (rs := [10]) (by kernel_rfl) (by simp) (AllReadyH.cons rfl (fun K hK => ?_) AllReadyH.nil)
                  · have HMN := hid (heap_alloc_new W (.cells #[.int .i64 (at_ : Int), .string tA, .slice a5 l5.length c5, .string ⟨#[]⟩] 34))
                    have HSA := hid (HS.out.alloc (.cells #[.int .i64 (at_ : Int), .string tA, .slice a5 l5.length c5, .string ⟨#[]⟩] 34))
                    have HOA2 := hid (HOA.out.below ((Below.refl _ _).alloc (Nat.le_refl _) (.cells #[.int .i64 (at_ : Int), .string tA, .slice a5 l5.length c5, .string ⟨#[]⟩] 34)))
                    have HOW2 := hid (HOW.out.alloc (.cells #[.int .i64 (at_ : Int), .string tA, .slice a5 l5.length c5, .string ⟨#[]⟩] 34))
                    have HZW := hid (show w.heap.size ≤ (W.alloc (.cells #[.int .i64 (at_ : Int), .string tA, .slice a5 l5.length c5, .string ⟨#[]⟩] 34)).heap.size from HSA.out.c.gr.size)
                    go_simp
                    refine hK.out _ _ trivial (fun _ => ?_)
                    clear hK K
                    try simp only [Act.put, List.setIfInBounds_toArray, List.set_cons_zero, List.set_cons_succ]
                    generalize W.heap.size = gn at *
                    generalize W.alloc (.cells #[.int .i64 (at_ : Int), .string tA, .slice a5 l5.length c5, .string ⟨#[]⟩] 34) = W at *
                    refine wpAnyH_ready (rs := [11]) (by kernel_rfl) (by simp) (AllReadyH.cons rfl (fun K hK => ?_) AllReadyH.nil)
                    · refine Nd.step_join rfl (.tmp 31) (.tmp 41) rfl w.heap.size (.slice av (m + 1) cv) es [⟨⟨(at_ : Int), tA, l5, ⟨#[]⟩⟩, a5, c5⟩] (by simp [Act.eval, Act.put]) HSA.out.row gn 1 1 (by simp [Act.eval, Act.put]) rfl (one_cells HMN.out) (one_hf HOA2.out HAP.out.2) (List.pairwise_singleton _ _) (one_ap HAP.out.1) HNL.out HZW.out ?_
                      intro a7 c7 w7 hr7 hb7 hg7
                      have HR7 := hid hr7
                      have HG7 := hid hg7
                      clear hr7 hb7 hg7
                      refine hK.out _ _ trivial (fun _ => ?_)
                      clear hK K
                      try simp only [Act.put, List.setIfInBounds_toArray, List.set_cons_zero, List.set_cons_succ]
                      refine wpAnyH_ready (rs := [12]) (by kernel_rfl) (by simp) (AllReadyH.cons rfl (fun K hK => ?_) AllReadyH.nil)
                      · go_simp
                        refine hK.out _ _ trivial (fun _ => ?_)
                        clear hK K
                        try simp only [Act.put, List.setIfInBounds_toArray, List.set_cons_zero, List.set_cons_succ]
                        refine wpAnyH_done (by kernel_rfl) ?_ _
                        go_wp2_with fail
                        go_meet
                        exact ⟨a7, c7, ⟨⟨(at_ : Int), tA, l5, ⟨#[]⟩⟩, a5, c5⟩, by rw [HL.out], rfl, htP, by rw [← HL2.out ⟨⟨(at_ : Int), tA, l5, ⟨#[]⟩⟩, a5, c5⟩]; exact HSA.out.join HR7.out HG7.out HOW2.out HAO.out ⟨by show tA.size ≤ 20; omega, by show l5.length ≤ 20; omega, HSZ5.out, Nat.zero_le _⟩ (HSA.out.grn.keep rfl)⟩
              · go_simp
                refine (cDrawAttrs false w0 a len cap b _ hlen HR.out HS.out.c.cur).mono ?_
                rintro e W3 ⟨a5, c5, l5, rfl, hl5, hd5⟩
                have HOA := hid (dst_own hd5 HS.out.c.gr.size)
                have HOW := hid (own_mono hd5.own HS.out.c.gr.size)
                have HSZ5 := hid hd5.sz
                have HAP := hid (ap_of HS.out.row (dst_own hd5 (Nat.le_refl _)))
                have HAO := hid (apo_of HS.out.own hd5.own)
                replace HT := hid ((hd5.gr.block tb (lt_of_heap HT.out) (fun e => HTB.out (Option.some.inj e))).trans HT.out)
                replace HS := hid (HS.out.draw hd5.cur hd5.gr)
                clear hd5
                go_wp2_with fail
                refine hK.out _ _ trivial (fun _ => ?_)
                clear hK K
                try simp only [Act.put, List.setIfInBounds_toArray, List.set_cons_zero, List.set_cons_succ]
                generalize W3 = W at *
                refine wpAnyH_ready (rs := [6]) (by kernel_rfl) (by simp) (AllReadyH.cons rfl (fun K hK => ?_) AllReadyH.nil)
                · obtain ⟨tA, hcA, htA, htP⟩ := tab5_at _ tb x hx HT.out
                  go_simp
                  refine hK.out _ _ trivial (fun _ => ?_)
                  clear hK K
                  try simp only [Act.put, List.setIfInBounds_toArray, List.set_cons_zero, List.set_cons_succ]
                  clear hcA
                  refine wpAnyH_take (i := 9) (v := ?_) rfl (by kernel_rfl) (by kernel_rfl) (by kernel_rfl) (fun _ _ _ h => h) (Or.inl ⟨by rfl, ?_⟩) trivial ?_
                  rotate_left
                  · intro w hSw
                    go_simp
                    try (with_reducible rfl)
                  try simp only [Act.put, List.setIfInBounds_toArray, List.set_cons_zero, List.set_cons_succ]
                  refine wpAnyH_ready (rs := [10]) (by kernel_rfl) (by simp) (AllReadyH.cons rfl (fun K hK => ?_) AllReadyH.nil)
                  · have HMN := hid (heap_alloc_new W (.cells #[.int .i64 (at_ : Int), .string tA, .slice a5 l5.length c5, .string ⟨#[]⟩] 34))
                    have HSA := hid (HS.out.alloc (.cells #[.int .i64 (at_ : Int), .string tA, .slice a5 l5.length c5, .string ⟨#[]⟩] 34))
                    have HOA2 := hid (HOA.out.below ((Below.refl _ _).alloc (Nat.le_refl _) (.cells #[.int .i64 (at_ : Int), .string tA, .slice a5 l5.length c5, .string ⟨#[]⟩] 34)))
                    have HOW2 := hid (HOW.out.alloc (.cells #[.int .i64 (at_ : Int), .string tA, .slice a5 l5.length c5, .string ⟨#[]⟩] 34))
                    have HZW := hid (show w.heap.size ≤ (W.alloc (.cells #[.int .i64 (at_ : Int), .string tA, .slice a5 l5.length c5, .string ⟨#[]⟩] 34)).heap.size from HSA.out.c.gr.size)
                    go_simp
                    refine hK.out _ _ trivial (fun _ => ?_)
                    clear hK K
                    try simp only [Act.put, List.setIfInBounds_toArray, List.set_cons_zero, List.set_cons_succ]
                    generalize W.heap.size = gn at *
                    generalize W.alloc (.cells #[.int .i64 (at_ : Int), .string tA, .slice a5 l5.length c5, .string ⟨#[]⟩] 34) = W at *
                    refine wpAnyH_ready (rs := [11]) (by kernel_rfl) (by simp) (AllReadyH.cons rfl (fun K hK => ?_) AllReadyH.nil)
                    · refine Nd.step_join rfl (.tmp 31) (.tmp 41) rfl w.heap.size (.slice av (m + 1) cv) es [⟨⟨(at_ : Int), tA, l5, ⟨#[]⟩⟩, a5, c5⟩] (by simp [Act.eval, Act.put]) HSA.out.row gn 1 1 (by simp [Act.eval, Act.put]) rfl (one_cells HMN.out) (one_hf HOA2.out HAP.out.2) (List.pairwise_singleton _ _) (one_ap HAP.out.1) HNL.out HZW.out ?_
                      intro a7 c7 w7 hr7 hb7 hg7
                      have HR7 := hid hr7
                      have HG7 := hid hg7
                      clear hr7 hb7 hg7
                      refine hK.out _ _ trivial (fun _ => ?_)
                      clear hK K
                      try simp only [Act.put, List.setIfInBounds_toArray, List.set_cons_zero, List.set_cons_succ]
                      refine wpAnyH_ready (rs := [12]) (by kernel_rfl) (by simp) (AllReadyH.cons rfl (fun K hK => ?_) AllReadyH.nil)
                      · go_simp
                        refine hK.out _ _ trivial (fun _ => ?_)
                        clear hK K
                        try simp only [Act.put, List.setIfInBounds_toArray, List.set_cons_zero, List.set_cons_succ]
                        refine wpAnyH_done (by kernel_rfl) ?_ _
                        go_wp2_with fail
                        go_meet
                        exact ⟨a7, c7, ⟨⟨(at_ : Int), tA, l5, ⟨#[]⟩⟩, a5, c5⟩, by rw [HL.out], rfl, htP, by rw [← HL2.out ⟨⟨(at_ : Int), tA, l5, ⟨#[]⟩⟩, a5, c5⟩]; exact HSA.out.join HR7.out HG7.out HOW2.out HAO.out ⟨by show tA.size ≤ 20; omega, by show l5.length ≤ 20; omega, HSZ5.out, Nat.zero_le _⟩ (HSA.out.grn.keep rfl)⟩
            · go_simp
              refine (cDrawAttrs false w0 a len cap b _ hlen HR.out HS.out.c.cur).mono ?_
              rintro e W3 ⟨a5, c5, l5, rfl, hl5, hd5⟩
              have HOA := hid (dst_own hd5 HS.out.c.gr.size)
              have HOW := hid (own_mono hd5.own HS.out.c.gr.size)
              have HSZ5 := hid hd5.sz
              have HAP := hid (ap_of HS.out.row (dst_own hd5 (Nat.le_refl _)))
              have HAO := hid (apo_of HS.out.own hd5.own)
              replace HS := hid (HS.out.draw hd5.cur hd5.gr)
              clear hd5
              go_wp2_with fail
              refine hK.out _ _ trivial (fun _ => ?_)
              clear hK K
              try simp only [Act.put, List.setIfInBounds_toArray, List.set_cons_zero, List.set_cons_succ]
              generalize W3 = W at *
              refine wpAnyH_ready (rs := [2]) (by kernel_rfl) (by simp) (AllReadyH.cons rfl (fun K hK => ?_) AllReadyH.nil)
              · have HTB := hid (show ¬ W.heap.size = b by have := HS.out.c.gr.size; have := HS.out.c.lt; omega)
                go_simp
                refine hK.out _ _ trivial (fun _ => ?_)
                clear hK K
                try simp only [Act.put, List.setIfInBounds_toArray, List.set_cons_zero, List.set_cons_succ]
                have HT := hid (heap_alloc_new W (.cells #[.string ⟨#[97]⟩, .string ⟨#[98]⟩, .string ⟨#[112, 58, 97]⟩, .string ⟨#[113, 58, 98]⟩, .string ⟨#[99]⟩] 9))
                replace HS := hid (HS.out.alloc (.cells #[.string ⟨#[97]⟩, .string ⟨#[98]⟩, .string ⟨#[112, 58, 97]⟩, .string ⟨#[113, 58, 98]⟩, .string ⟨#[99]⟩] 9))
                replace HOA := hid (HOA.out.below ((Below.refl _ _).alloc (Nat.le_refl _) (.cells #[.string ⟨#[97]⟩, .string ⟨#[98]⟩, .string ⟨#[112, 58, 97]⟩, .string ⟨#[113, 58, 98]⟩, .string ⟨#[99]⟩] 9)))
                replace HOW := hid (HOW.out.alloc (.cells #[.string ⟨#[97]⟩, .string ⟨#[98]⟩, .string ⟨#[112, 58, 97]⟩, .string ⟨#[113, 58, 98]⟩, .string ⟨#[99]⟩] 9))
                generalize W.heap.size = tb at *
                generalize W.alloc (.cells #[.string ⟨#[97]⟩, .string ⟨#[98]⟩, .string ⟨#[112, 58, 97]⟩, .string ⟨#[113, 58, 98]⟩, .string ⟨#[99]⟩] 9) = W at *
                refine wpAnyH_take (i := 5) (v := ?_) rfl (by kernel_rfl) (by kernel_rfl) (by kernel_rfl) (fun _ _ _ h => h) (Or.inl ⟨by rfl, ?_⟩) trivial ?_
                rotate_left
                · intro w hSw
                  go_simp
                  try (with_reducible rfl)
                try simp only [Act.put, List.setIfInBounds_toArray, List.set_cons_zero, List.set_cons_succ]
                refine wpAnyH_ready (rs := [6]) (by kernel_rfl) (by simp) (AllReadyH.cons rfl (fun K hK => ?_) AllReadyH.nil)
                · obtain ⟨tA, hcA, htA, htP⟩ := tab5_at _ tb x hx HT.out
                  go_simp
                  refine hK.out _ _ trivial (fun _ => ?_)
                  clear hK K
                  try simp only [Act.put, List.setIfInBounds_toArray, List.set_cons_zero, List.set_cons_succ]
                  clear hcA
                  refine wpAnyH_take (i := 9) (v := ?_) rfl (by kernel_rfl) (by kernel_rfl) (by kernel_rfl) (fun _ _ _ h => h) (Or.inl ⟨by rfl, ?_⟩) trivial ?_
                  rotate_left
                  · intro w hSw
                    go_simp
                    try (with_reducible rfl)
                  try simp only [Act.put, List.setIfInBounds_toArray, List.set_cons_zero, List.set_cons_succ]
                  refine wpAnyH_ready (rs := [10]) (by kernel_rfl) (by simp) (AllReadyH.cons rfl (fun K hK => ?_) AllReadyH.nil)
                  · have HMN := hid (heap_alloc_new W (.cells #[.int .i64 (at_ : Int), .string tA, .slice a5 l5.length c5, .string ⟨#[]⟩] 34))
                    have HSA := hid (HS.out.alloc (.cells #[.int .i64 (at_ : Int), .string tA, .slice a5 l5.length c5, .string ⟨#[]⟩] 34))
                    have HOA2 := hid (HOA.out.below ((Below.refl _ _).alloc (Nat.le_refl _) (.cells #[.int .i64 (at_ : Int), .string tA, .slice a5 l5.length c5, .string ⟨#[]⟩] 34)))
                    have HOW2 := hid (HOW.out.alloc (.cells #[.int .i64 (at_ : Int), .string tA, .slice a5 l5.length c5, .string ⟨#[]⟩] 34))
                    have HZW := hid (show w.heap.size ≤ (W.alloc (.cells #[.int .i64 (at_ : Int), .string tA, .slice a5 l5.length c5, .string ⟨#[]⟩] 34)).heap.size from HSA.out.c.gr.size)
                    go_simp
                    refine hK.out _ _ trivial (fun _ => ?_)
                    clear hK K
                    try simp only [Act.put, List.setIfInBounds_toArray, List.set_cons_zero, List.set_cons_succ]
                    generalize W.heap.size = gn at *
                    generalize W.alloc (.cells #[.int .i64 (at_ : Int), .string tA, .slice a5 l5.length c5, .string ⟨#[]⟩] 34) = W at *
                    refine wpAnyH_ready (rs := [11]) (by kernel_rfl) (by simp) (AllReadyH.cons rfl (fun K hK => ?_) AllReadyH.nil)
                    · refine Nd.step_join rfl (.tmp 31) (.tmp 41) rfl w.heap.size (.slice av (m + 1) cv) es [⟨⟨(at_ : Int), tA, l5, ⟨#[]⟩⟩, a5, c5⟩] (by simp [Act.eval, Act.put]) HSA.out.row gn 1 1 (by simp [Act.eval, Act.put]) rfl (one_cells HMN.out) (one_hf HOA2.out HAP.out.2) (List.pairwise_singleton _ _) (one_ap HAP.out.1) HNL.out HZW.out ?_
                      intro a7 c7 w7 hr7 hb7 hg7
                      have HR7 := hid hr7
                      have HG7 := hid hg7
                      clear hr7 hb7 hg7
                      refine hK.out _ _ trivial (fun _ => ?_)
                      clear hK K
                      try simp only [Act.put, List.setIfInBounds_toArray, List.set_cons_zero, List.set_cons_succ]
                      refine wpAnyH_ready (rs := [12]) (by kernel_rfl) (by simp) (AllReadyH.cons rfl (fun K hK => ?_) AllReadyH.nil)
                      · go_simp
                        refine hK.out _ _ trivial (fun _ => ?_)
                        clear hK K
                        try simp only [Act.put, List.setIfInBounds_toArray, List.set_cons_zero, List.set_cons_succ]
                        refine wpAnyH_done (by kernel_rfl) ?_ _
                        go_wp2_with fail
                        go_meet
                        exact ⟨a7, c7, ⟨⟨(at_ : Int), tA, l5, ⟨#[]⟩⟩, a5, c5⟩, by rw [HL.out], rfl, htP, by rw [← HL2.out ⟨⟨(at_ : Int), tA, l5, ⟨#[]⟩⟩, a5, c5⟩]; exact HSA.out.join HR7.out HG7.out HOW2.out HAO.out ⟨by show tA.size ≤ 20; omega, by show l5.length ≤ 20; omega, HSZ5.out, Nat.zero_le _⟩ (HSA.out.grn.keep rfl)⟩
      obtain ⟨a7, c7, e7, rfl, hk7, hn7, HN7⟩ := hcut
      have HNT := hid (show es.map (·.t) ++ [e7.t] = (es ++ [e7]).map (·.t) by rw [List.map_append]; rfl)
      have hl7 : (es ++ [e7]).length = m + 1 + 1 := by rw [List.length_append, HL.out]; rfl
      have HL7 := hid hl7
      clear hl7 HN3 M3 x0 x1 x2 x3
      go_wp2_with fail
      refine (cOnce 2 w0 a len cap b _ hlen HR.out HN7.out.c.cur (by omega) (by omega)).mono ?_
      rintro e w8 ⟨B8, rfl, hC8, hG8⟩
      have HN8 := hid (HN7.out.draw hC8 hG8)
      clear hC8 hG8
      cases B8
      · go_wp2_with fail
        go_roundw
        case rel => exact ⟨k1, es ++ [e7], at_, by go_num, by omega, rfl, by rw [HL7.out]; omega, HN8.out⟩
        case measure => first | (simp [intOf]; omega) | simp [intOf]
      · obtain ⟨av2, cv2, ev2, htk8⟩ := HN8.out.row.tkRow
        obtain ⟨rfl, rfl⟩ : a7 = av2 ∧ c7 = cv2 := by injection ev2 with h1 _ h3; exact ⟨h1, h3⟩
        have hl8 : ((es ++ [e7]).map (·.t)).length = m + 1 + 1 := by rw [List.length_map]; exact HL7.out
        have CD := hid (cDepthS a7 c7 ((es ++ [e7]).map (·.t)) (m + 1) w8 htk8 (by omega) (by omega) (fun t ht => by
          obtain ⟨e, he, rfl⟩ := List.mem_map.1 ht
          obtain ⟨g1, g2, g3, g4⟩ := HN8.out.sz e he
          exact ⟨by omega, by omega, fun x hx => by have := g3 x hx; omega, by omega⟩) HN8.out.grn.p0 (fun j hj => HN8.out.grn.up j (by omega)))
        rw [hl8] at CD
        generalize depI ((es ++ [e7]).map (·.t)) (m + 1) = D at *
        have hm2 : ((m + 1 + 1 : Nat) : Int) - 1 = ((m + 1 : Nat) : Int) := by omega
        clear htk8 ev2 hl8
        by_cases h9 : D < 9
        · have hd9 : decide (D < 9) = true := decide_eq_true h9
          have HG9 := hid (show Grn ((es ++ [e7]).map (·.t)) (m + 1) by
            rw [← HNT.out]
            have h := HN.out.grn.into hk7 hn7
            rw [HLM.out] at h
            exact h)
          go_wp2_with fail
          refine CD.out.mono ?_
          rintro e w9 ⟨rfl, rfl⟩
          go_wp2_with fail
          go_roundw
          case rel => exact ⟨k1, es ++ [e7], m + 1, by go_num, by omega, by go_num, by rw [HL7.out]; omega, ⟨HN8.out.c, HN8.out.row, HN8.out.sz, HG9.out, HN8.out.own, HN8.out.apo⟩⟩
          case measure => first | (simp [intOf]; omega) | simp [intOf]
        · have hd9 : decide (D < 9) = false := decide_eq_false h9
          go_wp2_with fail
          refine CD.out.mono ?_
          rintro e w9 ⟨rfl, rfl⟩
          go_wp2_with fail
          go_roundw
          case rel => exact ⟨k1, es ++ [e7], at_, by go_num, by omega, rfl, by rw [HL7.out]; omega, HN8.out⟩
          case measure => first | (simp [intOf]; omega) | simp [intOf]

end Go.Proofs.Ytkcmagfbacmllaa

namespace Go.Proofs.Ytkcmagfbacmllaa
open Go.RowKit
set_option linter.unusedVariables false
set_option linter.unusedSimpArgs false

set_option maxHeartbeats 2000000 in
theorem cFromA (lo : Int) (n : Nat) (hi : Int) (hlo : -100 ≤ lo) (hlo2 : lo ≤ 100) (hn : hi - lo + 1 = (n : Int)) (hn0 : 1 ≤ n) (hn1 : n ≤ 256) (w0 : World) (a : Option Addr) (len cap b : Nat) (w : World) (hlen : len ≤ 4096) (hcr : CodeRow w0 a len) (hC : Cur w0 a len cap b w) :
    Calls Try.prog 108 #[.pointer (some ⟨b, 0, none⟩), .int .i64 lo, .int .i64 hi] w fun e w' => ∃ x : Int, e = .returned (.int .i64 x) ∧ lo ≤ x ∧ x ≤ hi ∧ Cur w0 a len cap b w' ∧ w.grownBy w' (some b) := by
  have HR : Hid (CodeRow w0 a len) := hcr
  have HC : Hid (Cur w0 a len cap b w) := hC
  have HNN := hid hn
  have hi1 : hi ≤ 1000 := by omega
  have hi2 : -1000 ≤ hi := by omega
  have C := hid (cBelow n w0 a len cap b w hlen HR.out HC.out hn0 hn1)
  rw [← hn] at C
  clear hcr hC hn
  go_enter Try.func108, Try.ntmps108
  go_wp2_with fail
  refine C.out.mono ?_
  rintro e w1 ⟨x, rfl, hx, hC1, hG1⟩
  have hx2 : (x : Int) < 300 := by omega
  have HX := hid hx
  have HC1 := hid hC1
  have HG1 := hid hG1
  clear hC1 hG1 C hx
  go_wp2_with fail
  go_ret
  exact ⟨_, rfl, by omega, by have := HNN.out; have := HX.out; omega, HC1.out, HG1.out⟩

/-- A drawn tree, well laid. -/
def DrawnT (w0 : World) (a : Option Addr) (len cap b : Nat) (w : World) (e : Ending) (w' : World) : Prop :=
  ∃ a' c' ts, e = .returned (.slice a' (ts : List Tk).length c') ∧ TkRow w' a' ts ∧ ts.length ≤ 11 ∧ TksSz 40 ts ∧ Cur w0 a len cap b w' ∧ w.grownBy w' (some b)

theorem cs_set {es : List Nd.E} : ∀ {x : Nat} (hx : x < es.length) {f : Nat} (hf : f < 4) {u : Value} {e' : Nd.E}, Nd.c1 e' = (Nd.c1 es[x]).set f u → (Nd.cs es).set (x * 4 + f) u = Nd.cs (es.set x e') := by
  induction es with
  | nil => intro x hx; simp at hx
  | cons y es ih =>
    intro x hx f hf u e' he
    have e1 : Nd.cs (y :: es) = Nd.c1 y ++ Nd.cs es := rfl
    have hl : (Nd.c1 y).length = 4 := rfl
    match x with
    | 0 =>
      simp only [List.getElem_cons_zero] at he
      have e2 : Nd.cs ((y :: es).set 0 e') = Nd.c1 e' ++ Nd.cs es := rfl
      rw [e1, e2, he, Nat.zero_mul, Nat.zero_add, List.set_append, if_pos (by rw [hl]; exact hf)]
    | x + 1 =>
      have e2 : Nd.cs ((y :: es).set (x + 1) e') = Nd.c1 y ++ Nd.cs (es.set x e') := rfl
      rw [e1, e2, List.set_append, if_neg (by rw [hl]; omega), hl, show (x + 1) * 4 + f - 4 = x * 4 + f by omega, ih (by simpa using hx) hf (by simpa using he)]

/-- A row of nodes that is owned, its lists read. -/
theorem own_tkRow {w : World} {B g n cap : Nat} {es : List Nd.E} (h : w.ownsRow B 34 4 (.slice (some ⟨g, 0, none⟩) n cap) n (Nd.cs es)) (hn : es.length = n) (ha : ∀ e ∈ es, AtRow w e.a e.t.attrs) : TkRow w (some ⟨g, 0, none⟩) (es.map (·.t)) := by
  intro j hj
  rw [List.length_map] at hj
  obtain ⟨k0, k1, k2, k3⟩ := Nd.cs_get es j hj
  have hg : g < w.heap.size := (h.lt g rfl).2
  have hx : ∀ k u, k < n * 4 → (Nd.cs es)[k]? = some u → w.cell? ⟨g, 0 + k, none⟩ = some u := fun k u hk hu => by rw [Nat.zero_add, h.cellAt k hk]; exact hu
  rw [List.getElem_map]
  exact ⟨g, 0, es[j].a, es[j].cap, rfl, hg, hx _ _ (by omega) k0, hx _ _ (by omega) k1, hx _ _ (by omega) k2, hx _ _ (by omega) k3, ha _ (List.getElem_mem hj)⟩

/-- The cells of one node. -/
theorem slot_at {w : World} {B g n cap x : Nat} {es : List Nd.E} (h : Nd.Row w B (.slice (some ⟨g, 0, none⟩) n cap) es) (hn : es.length = n) (hx : x < es.length) :
    w.cell? ⟨g, x * 4, none⟩ = some (.int .i64 es[x].t.kind) ∧ w.cell? ⟨g, x * 4 + 1, none⟩ = some (.string es[x].t.name) ∧ w.cell? ⟨g, x * 4 + 2, none⟩ = some (.slice es[x].a es[x].t.attrs.length es[x].cap) ∧ w.cell? ⟨g, x * 4 + 3, none⟩ = some (.string es[x].t.text) := by
  obtain ⟨k0, k1, k2, k3⟩ := Nd.cs_get es x hx
  have ho := h.own
  rw [hn] at ho
  exact ⟨by rw [ho.cellAt _ (by omega)]; exact k0, by rw [ho.cellAt _ (by omega)]; exact k1, by rw [ho.cellAt _ (by omega)]; exact k2, by rw [ho.cellAt _ (by omega)]; exact k3⟩

section
variable {w0 : World} {a : Option Addr} {len cap b : Nat} {w wr : World} {es : List Nd.E} {at_ g L cv x : Nat}

/-- One field of one node is set, not its list. -/
theorem any_set (h : NSt w0 a len cap b w wr (.slice (some ⟨g, 0, none⟩) L cv) es at_) (hL : es.length = L) (hx : x < es.length) (h11 : L ≤ 11) {f : Nat} (hf : f < 4) {u : Value} {t' : Tk} (ht : t'.attrs = es[x].t.attrs) (hc : Nd.c1 ⟨t', es[x].a, es[x].cap⟩ = (Nd.c1 es[x]).set f u) (hz : TkSz 40 t') (r : Ending) (hr : r = .returned (.slice (some ⟨g, 0, none⟩) L cv)) :
    DrawnT w0 a len cap b w r (wr.setCell ⟨g, x * 4 + f, none⟩ u) := by
  have ho := h.row.own
  rw [hL] at ho
  obtain ⟨ho', hg'⟩ := ho.stored (x * 4 + f) u
  have hge := (ho.lt g rfl).1
  rw [cs_set hx hf hc] at ho'
  have hlen : (es.set x ⟨t', es[x].a, es[x].cap⟩).length = L := by rw [List.length_set]; exact hL
  refine ⟨some ⟨g, 0, none⟩, cv, (es.set x ⟨t', es[x].a, es[x].cap⟩).map (·.t), by rw [hr, List.length_map, hlen], own_tkRow ho' hlen (fun e he => ?_), by rw [List.length_map, hlen]; exact h11, fun t htt => ?_, h.c.cur.grown hg' (fun e => by have := Option.some.inj e; have := h.c.lt; omega) (fun k e => by have := Option.some.inj e; have := h.c.le; omega), g_later h.c.gr hg' hge⟩
  · have key : ∀ e0 ∈ es, AtRow (wr.setCell ⟨g, x * 4 + f, none⟩ u) e0.a e0.t.attrs := fun e0 he0 j hj => by
      obtain ⟨g1, o1, e1, hl1, q1, q2⟩ := (h.row.ats e0 he0).1.atRow j hj
      have hne : ¬ g = g1 := fun e2 => (h.row.ats e0 he0).2 g1 o1 (by omega) e1 (by rw [e2]; rfl)
      exact ⟨g1, o1, e1, by simpa using hl1, (World.cell?_setCell_far _ _ _ _ hne).trans q1, (World.cell?_setCell_far _ _ _ _ hne).trans q2⟩
    rcases List.mem_or_eq_of_mem_set he with h' | h'
    · exact key e h'
    · subst h'
      show AtRow _ es[x].a t'.attrs
      rw [ht]
      exact key _ (List.getElem_mem hx)
  · obtain ⟨e, he, rfl⟩ := List.mem_map.1 htt
    rcases List.mem_or_eq_of_mem_set he with h' | h'
    · obtain ⟨q1, q2, q3, q4⟩ := h.sz e h'
      exact ⟨by omega, by omega, fun y hy => by have := q3 y hy; omega, by omega⟩
    · subst h'
      exact hz

/-- As it was drawn. -/
theorem any_same (h : NSt w0 a len cap b w wr (.slice (some ⟨g, 0, none⟩) L cv) es at_) (hL : es.length = L) (h11 : L ≤ 11) (r : Ending) (hr : r = .returned (.slice (some ⟨g, 0, none⟩) L cv)) : DrawnT w0 a len cap b w r wr := by
  obtain ⟨a', c', e1, ht⟩ := h.row.tkRow
  rw [hL] at e1
  cases e1
  refine ⟨_, _, es.map (·.t), by rw [hr, List.length_map, hL], ht, by rw [List.length_map, hL]; exact h11, fun t htt => ?_, h.c.cur, h.c.gr⟩
  obtain ⟨e, he, rfl⟩ := List.mem_map.1 htt
  obtain ⟨q1, q2, q3, q4⟩ := h.sz e he
  exact ⟨by omega, by omega, fun y hy => by have := q3 y hy; omega, by omega⟩

/-- Without the first. -/
theorem any_less {m : Nat} (h : NSt w0 a len cap b w wr (.slice (some ⟨g, 0, none⟩) (m + 1) cv) es at_) (hL : es.length = m + 1) (h11 : m + 1 ≤ 11) (c2 : Nat) (r : Ending) (hr : r = .returned (.slice (some ⟨g, 4, none⟩) m c2)) : DrawnT w0 a len cap b w r wr := by
  obtain ⟨a', c', e1, ht⟩ := h.row.tkRow
  rw [hL] at e1
  cases e1
  have hl : ((es.map (·.t)).drop 1).length = m := by rw [List.length_drop, List.length_map, hL]; omega
  refine ⟨some ⟨g, 4, none⟩, c2, (es.map (·.t)).drop 1, by rw [hr, hl], fun j hj => ?_, by omega, fun t htt => ?_, h.c.cur, h.c.gr⟩
  · have hj2 : 1 + j < (es.map (·.t)).length := by rw [List.length_map, hL]; omega
    obtain ⟨b1, o1, aa, ca, e1, hb1, q0, q1, q2, q3, q4⟩ := ht (1 + j) hj2
    cases e1
    rw [List.getElem_drop]
    exact ⟨g, 4, aa, ca, rfl, hb1, by rw [show 4 + j * 4 = 0 + (1 + j) * 4 by omega]; exact q0, by rw [show 4 + j * 4 + 1 = 0 + (1 + j) * 4 + 1 by omega]; exact q1, by rw [show 4 + j * 4 + 2 = 0 + (1 + j) * 4 + 2 by omega]; exact q2, by rw [show 4 + j * 4 + 3 = 0 + (1 + j) * 4 + 3 by omega]; exact q3, q4⟩
  · obtain ⟨e, he, rfl⟩ := List.mem_map.1 (List.mem_of_mem_drop htt)
    obtain ⟨q1, q2, q3, q4⟩ := h.sz e he
    exact ⟨by omega, by omega, fun y hy => by have := q3 y hy; omega, by omega⟩

end

theorem own_atR {w : World} {B : Nat} {a : Option Addr} {c n : Nat} {l : List At} (h : w.ownsRow B 115 2 (.slice a n c) n (atC l)) (hl : l.length = n) : OwnAts w B a l := by
  rcases h.2 with ⟨_, h0⟩ | ⟨g, cp, cur, e, hg, hh, hn, hc, hs, ht⟩
  · exact fun hl => by omega
  · cases e
    refine fun _ => ⟨g, 0, cur, rfl, hg, hh, fun j hj => ?_⟩
    obtain ⟨g1, g2⟩ := atC_get l j hj
    rw [← ht, List.getElem?_take] at g1 g2
    refine ⟨?_, ?_⟩
    · rw [Nat.zero_add, ← Array.getElem?_toList]
      split at g1
      · exact g1
      · cases g1
    · rw [Nat.zero_add, ← Array.getElem?_toList]
      split at g2
      · exact g2
      · cases g2

theorem own_kind {w : World} {B n s : Nat} {v : Value} {xs : List Value} {E : TypeId} (h : w.ownsRow B E s v n xs) : ∀ k, v.ownBlock = some k → ∃ c fz, w.heap[k]? = some (.cells c E fz) := by
  intro k hk
  rcases h.2 with ⟨rfl, _⟩ | ⟨g, cp, cur, rfl, hg, hh, _⟩
  · cases hk
  · cases hk
    exact ⟨_, _, hh⟩

theorem g_own {w wr w1 : World} {b : Nat} {row : Option Nat} (h : w.grownBy wr (some b)) (k : wr.grownBy w1 row) (hg : ∀ i, row = some i → w.heap.size ≤ i) : w.grownBy w1 (some b) :=
  ⟨k.os.trans h.os, k.tape.trans h.tape, k.output.trans h.output, Nat.le_trans h.size k.size, fun i hi hr => (k.block i (Nat.lt_of_lt_of_le hi h.size) (fun e => by have := hg i e.symm; omega)).trans (h.block i hi hr)⟩

/-- The cells of one node, of a row that is owned. -/
theorem slot_own {w : World} {B g n cap x : Nat} {es : List Nd.E} (ho : w.ownsRow B 34 4 (.slice (some ⟨g, 0, none⟩) n cap) n (Nd.cs es)) (hn : es.length = n) (hx : x < es.length) :
    (w.cell? ⟨g, x * 4, none⟩ = some (.int .i64 es[x].t.kind) ∧ w.cell? ⟨g, x * 4 + 1, none⟩ = some (.string es[x].t.name) ∧ w.cell? ⟨g, x * 4 + 2, none⟩ = some (.slice es[x].a es[x].t.attrs.length es[x].cap) ∧ w.cell? ⟨g, x * 4 + 3, none⟩ = some (.string es[x].t.text)) ∧ ∀ j, w.frozen? ⟨g, j, none⟩ = false := by
  obtain ⟨k0, k1, k2, k3⟩ := Nd.cs_get es x hx
  exact ⟨⟨by rw [ho.cellAt _ (by omega)]; exact k0, by rw [ho.cellAt _ (by omega)]; exact k1, by rw [ho.cellAt _ (by omega)]; exact k2, by rw [ho.cellAt _ (by omega)]; exact k3⟩, fun j => ho.frozenAt j⟩

theorem any_nil {w0 : World} {a : Option Addr} {len cap b : Nat} {w wr : World} {v : Value} {es : List Nd.E} {at_ : Nat} (h : NSt w0 a len cap b w wr v es at_) (a2 : Option Addr) (c2 : Nat) (r : Ending) (hr : r = .returned (.slice a2 0 c2)) : DrawnT w0 a len cap b w r wr :=
  ⟨a2, c2, [], hr, fun j hj => absurd hj (Nat.not_lt_zero _), Nat.zero_le _, fun t ht => absurd ht List.not_mem_nil, h.c.cur, h.c.gr⟩

theorem two_one (t : ByteArray) : ∀ u ∈ [Value.string t, .string ⟨#[118]⟩], u.oneCell' = true := by
  intro u hu
  simp only [List.mem_cons, List.not_mem_nil, or_false] at hu
  rcases hu with rfl | rfl <;> rfl

section
variable {w0 : World} {a : Option Addr} {len cap b : Nat} {w wr : World} {es : List Nd.E} {at_ g L cv x : Nat}

theorem slot_of (h : NSt w0 a len cap b w wr (.slice (some ⟨g, 0, none⟩) L cv) es at_) (hL : es.length = L) (hx : x < es.length) :
    (wr.cell? ⟨g, x * 4, none⟩ = some (.int .i64 es[x].t.kind) ∧ wr.cell? ⟨g, x * 4 + 1, none⟩ = some (.string es[x].t.name) ∧ wr.cell? ⟨g, x * 4 + 2, none⟩ = some (.slice es[x].a es[x].t.attrs.length es[x].cap) ∧ wr.cell? ⟨g, x * 4 + 3, none⟩ = some (.string es[x].t.text)) ∧ ∀ j, wr.frozen? ⟨g, j, none⟩ = false := by
  have ho := h.row.own
  rw [hL] at ho
  exact slot_own ho hL hx

theorem slot_grown {w7 : World} (h : NSt w0 a len cap b w wr (.slice (some ⟨g, 0, none⟩) L cv) es at_) (hL : es.length = L) (hx : x < es.length) (hg : wr.grownBy w7 (Value.slice es[x].a es[x].t.attrs.length es[x].cap).ownBlock) :
    (w7.cell? ⟨g, x * 4, none⟩ = some (.int .i64 es[x].t.kind) ∧ w7.cell? ⟨g, x * 4 + 1, none⟩ = some (.string es[x].t.name) ∧ w7.cell? ⟨g, x * 4 + 2, none⟩ = some (.slice es[x].a es[x].t.attrs.length es[x].cap) ∧ w7.cell? ⟨g, x * 4 + 3, none⟩ = some (.string es[x].t.text)) ∧ ∀ j, w7.frozen? ⟨g, j, none⟩ = false := by
  have ho := own_grownR h.row.own hg (own_kind (h.own _ (List.getElem_mem hx))) (by decide)
  rw [hL] at ho
  exact slot_own ho hL hx

/-- One more attr at one node. -/
theorem any_app {w7 : World} (h : NSt w0 a len cap b w wr (.slice (some ⟨g, 0, none⟩) L cv) es at_) (hL : es.length = L) (hx : x < es.length) (h11 : L ≤ 11) {tN : ByteArray} (htN : tN.size ≤ 7) {v7 : Value} (ho : w7.ownsRow w.heap.size 115 2 v7 (es[x].t.attrs.length + 1) (atC es[x].t.attrs ++ [.string tN, .string ⟨#[118]⟩])) (hg : wr.grownBy w7 (Value.slice es[x].a es[x].t.attrs.length es[x].cap).ownBlock) :
    ∀ (a7 : Option Addr) (c7 : Nat), v7 = .slice a7 (es[x].t.attrs.length + 1) c7 → ∀ r : Ending, r = .returned (.slice (some ⟨g, 0, none⟩) L cv) → DrawnT w0 a len cap b w r (w7.setCell ⟨g, x * 4 + 2, none⟩ v7) := by
  rintro a7 c7 rfl r hr
  have hown := h.own _ (List.getElem_mem hx)
  have hrow := own_grownR h.row.own hg (own_kind hown) (by decide)
  rw [hL] at hrow
  obtain ⟨ho', hg'⟩ := hrow.stored (x * 4 + 2) (.slice a7 (es[x].t.attrs.length + 1) c7)
  obtain ⟨l', hl'⟩ : ∃ l' : List At, l' = es[x].t.attrs ++ [⟨tN, ⟨#[118]⟩⟩] := ⟨_, rfl⟩
  have hll : l'.length = es[x].t.attrs.length + 1 := by rw [hl', List.length_append]; rfl
  have hat : atC l' = atC es[x].t.attrs ++ [.string tN, .string ⟨#[118]⟩] := by rw [hl', atC_app]; rfl
  have hc : Nd.c1 ⟨⟨es[x].t.kind, es[x].t.name, l', es[x].t.text⟩, a7, c7⟩ = (Nd.c1 es[x]).set 2 (.slice a7 (es[x].t.attrs.length + 1) c7) := by
    rw [← hll]
    rfl
  rw [cs_set hx (by omega) hc] at ho'
  rw [← hat] at ho
  have hge := (hrow.lt g rfl).1
  have hlen : (es.set x ⟨⟨es[x].t.kind, es[x].t.name, l', es[x].t.text⟩, a7, c7⟩).length = L := by rw [List.length_set]; exact hL
  have hcur : Cur w0 a len cap b w7 := h.c.cur.grown hg (fun e => by have := (hown.lt b e.symm).1; have := h.c.lt; omega) (fun k e => by have := (hown.lt k e).1; have := h.c.le; omega)
  have hgr : w.grownBy w7 (some b) := g_own h.c.gr hg (fun i e => (hown.lt i e).1)
  obtain ⟨cn, fzn, hkn⟩ := own_kind hrow g rfl
  have key : ∀ (a1 : Option Addr) (l1 : List At), OwnAts w7 w.heap.size a1 l1 → AtRow (w7.setCell ⟨g, x * 4 + 2, none⟩ (.slice a7 (es[x].t.attrs.length + 1) c7)) a1 l1 := fun a1 l1 h1 j hj => by
    obtain ⟨g1, o1, cu, e1, hb1, hh1, hc1⟩ := h1 (by omega)
    obtain ⟨g2, o2, e2, hl2, q1, q2⟩ := h1.atRow j hj
    rw [e1] at e2
    cases e2
    have hne : ¬ g = g1 := fun e => by
      subst e
      rw [hkn] at hh1
      injection hh1 with hh1
      injection hh1 with _ h2 _
      exact absurd h2 (by decide)
    exact ⟨g1, o1, e1, by simpa using hl2, (World.cell?_setCell_far _ _ _ _ hne).trans q1, (World.cell?_setCell_far _ _ _ _ hne).trans q2⟩
  refine ⟨some ⟨g, 0, none⟩, cv, (es.set x ⟨⟨es[x].t.kind, es[x].t.name, l', es[x].t.text⟩, a7, c7⟩).map (·.t), by rw [hr, List.length_map, hlen], own_tkRow ho' hlen (fun e he => ?_), by rw [List.length_map, hlen]; exact h11, fun t htt => ?_, hcur.grown hg' (fun e => by have := Option.some.inj e; have := h.c.lt; omega) (fun k e => by have := Option.some.inj e; have := h.c.le; omega), g_later hgr hg' hge⟩
  · obtain ⟨j, hj, rfl⟩ := List.mem_iff_getElem.1 he
    rw [List.length_set] at hj
    rw [List.getElem_set]
    by_cases hjx : x = j
    · rw [if_pos hjx]
      exact key _ _ (own_atR ho hll)
    · rw [if_neg hjx]
      have hne : ¬ (Value.slice es[j].a es[j].t.attrs.length es[j].cap).ownBlock = (Value.slice es[x].a es[x].t.attrs.length es[x].cap).ownBlock ∨ (Value.slice es[j].a es[j].t.attrs.length es[j].cap).ownBlock = none := by
        rcases hb : (Value.slice es[j].a es[j].t.attrs.length es[j].cap).ownBlock with _ | k
        · exact .inr rfl
        · refine .inl (fun e => ?_)
          rcases Nat.lt_or_gt_of_ne hjx with h' | h'
          · exact List.pairwise_iff_getElem.1 h.apo x j hx hj h' k e.symm hb
          · exact List.pairwise_iff_getElem.1 h.apo j x hj hx h' k hb e.symm
      have hj7 := (h.own _ (List.getElem_mem hj)).kept hg hne.symm
      exact key _ _ (own_atR hj7 rfl)
  · obtain ⟨e, he, rfl⟩ := List.mem_map.1 htt
    rcases List.mem_or_eq_of_mem_set he with h' | h'
    · obtain ⟨q1, q2, q3, q4⟩ := h.sz e h'
      exact ⟨by omega, by omega, fun y hy => by have := q3 y hy; omega, by omega⟩
    · subst h'
      obtain ⟨q1, q2, q3, q4⟩ := h.sz _ (List.getElem_mem hx)
      refine ⟨by show es[x].t.name.size ≤ 40; omega, by show l'.length ≤ 40; omega, fun y hy => ?_, by show es[x].t.text.size ≤ 40; omega⟩
      rw [hl'] at hy
      rcases List.mem_append.1 hy with h2 | h2
      · have := q3 y h2
        omega
      · rw [List.mem_singleton] at h2
        subst h2
        exact ⟨by show tN.size ≤ 40; omega, by show 1 ≤ 40; omega⟩

end

set_option maxRecDepth 8000 in
set_option maxHeartbeats 8000000 in
theorem cDrawAny (w0 : World) (a : Option Addr) (len cap b : Nat) (w : World) (hlen : len ≤ 4096) (hcr : CodeRow w0 a len) (hC : Cur w0 a len cap b w) :
    Calls Try.prog 79 #[.pointer (some ⟨b, 0, none⟩)] w (DrawnT w0 a len cap b w) := by
  have HR := hid hcr
  have HC := hid hC
  obtain ⟨i0, hi, hz0, hz1, hz2⟩ := info_parts infoAtW
  have HI := hid (And.intro hi (And.intro hz0 (And.intro hz1 hz2)))
  clear hcr hC hi hz0 hz1 hz2
  go_enter Try.func79, Try.ntmps79
  go_wp2_with fail
  refine (cDraw8 w0 a len cap b _ hlen HR.out HC.out).mono ?_
  rintro e w1 ⟨a1, cv, es, at_, rfl, h1, h11, hN⟩
  obtain ⟨g, c2, e1, -, -, hcv, -⟩ := own_pos hN.row.own (by omega)
  cases e1
  obtain ⟨m, hm⟩ : ∃ m, es.length = m + 1 := ⟨es.length - 1, by omega⟩
  rw [hm] at hN h11 hcv ⊢
  have HCV := hid hcv
  have HM := hid hm
  have HN1 := hid hN
  clear hm hN h1 hcv
  go_wp2_with fail
  refine (cOnce 8 w0 a len cap b _ hlen HR.out HN1.out.c.cur (by omega) (by omega)).mono ?_
  rintro e w2 ⟨B2, rfl, hC2, hG2⟩
  have HN2 := hid (HN1.out.draw hC2 hG2)
  clear hC2 hG2 HN1
  cases B2
  · go_wp2_with fail
    go_ret
    exact any_same HN2.out HM.out h11 _ rfl
  have CB := hid (cBelow (m + 1) w0 a len cap b w2 hlen HR.out HN2.out.c.cur (by omega) (by omega))
  go_wp2_with fail
  refine CB.out.mono ?_
  rintro e w3 ⟨x, rfl, hx3, hC3, hG3⟩
  have HN3 := hid (HN2.out.draw hC3 hG3)
  clear hC3 hG3 HN2 CB
  have hxi : (x : Int) < ((m + 1 : Nat) : Int) := by omega
  have HX := hid (show x < es.length by rw [HM.out]; exact hx3)
  go_wp2_with fail
  refine (cBelow 5 w0 a len cap b _ hlen HR.out HN3.out.c.cur (by omega) (by omega)).mono ?_
  rintro e w4 ⟨y, rfl, hy4, hC4, hG4⟩
  have HN4 := hid (HN3.out.draw hC4 hG4)
  clear hC4 hG4 HN3
  rcases (show y = 0 ∨ y = 1 ∨ y = 2 ∨ y = 3 ∨ y = 4 by omega) with rfl | rfl | rfl | rfl | rfl
  · go_wp2_with fail
    refine (cFromA (-2) 8 5 (by omega) (by omega) (by omega) (by omega) (by omega) w0 a len cap b _ hlen HR.out HN4.out.c.cur).mono ?_
    rintro e w5 ⟨z, rfl, hz1, hz2, hC5, hG5⟩
    have HN5 := hid (HN4.out.draw hC5 hG5)
    obtain ⟨⟨s0, s1, s2, s3⟩, sf⟩ := slot_of HN5.out HM.out HX.out
    have sf0 := sf (x * 4)
    clear hC5 hG5 s1 s2 s3 sf
    go_wp2_with fail
    go_ret
    exact any_set HN5.out HM.out HX.out h11 (f := 0) (by omega) (u := .int .i64 z) (t' := ⟨z, (es[x]'HX.out).t.name, (es[x]'HX.out).t.attrs, (es[x]'HX.out).t.text⟩) rfl rfl (by
      obtain ⟨q1, q2, q3, q4⟩ := HN5.out.sz _ (List.getElem_mem HX.out)
      exact ⟨by show (es[x]'HX.out).t.name.size ≤ 40; omega, by show (es[x]'HX.out).t.attrs.length ≤ 40; omega, fun y hy => by have := q3 y hy; omega, by show (es[x]'HX.out).t.text.size ≤ 40; omega⟩) _ rfl
  · go_wp2_with fail
    refine (cName w0 a len cap b _ hlen HR.out HN4.out.c.cur).mono ?_
    rintro e w5 ⟨z, rfl, hz1, hC5, hG5⟩
    have HN5 := hid (HN4.out.draw hC5 hG5)
    obtain ⟨⟨s0, s1, s2, s3⟩, sf⟩ := slot_of HN5.out HM.out HX.out
    have sf0 := sf (x * 4 + 1)
    clear hC5 hG5 s0 s2 s3 sf
    go_wp2_with fail
    go_ret
    exact any_set HN5.out HM.out HX.out h11 (f := 1) (by omega) (u := .string z) (t' := ⟨(es[x]'HX.out).t.kind, z, (es[x]'HX.out).t.attrs, (es[x]'HX.out).t.text⟩) rfl rfl (by
      obtain ⟨q1, q2, q3, q4⟩ := HN5.out.sz _ (List.getElem_mem HX.out)
      exact ⟨by show z.size ≤ 40; omega, by show (es[x]'HX.out).t.attrs.length ≤ 40; omega, fun y hy => by have := q3 y hy; omega, by show (es[x]'HX.out).t.text.size ≤ 40; omega⟩) _ rfl
  · go_wp2_with fail
    refine (cText ⟨#[97, 98]⟩ 3 w0 a len cap b _ (by omega) (by omega) (by decide) (by decide) hlen HR.out HN4.out.c.cur).mono ?_
    rintro e w5 ⟨z, rfl, hz1, hC5, hG5⟩
    have HN5 := hid (HN4.out.draw hC5 hG5)
    obtain ⟨⟨s0, s1, s2, s3⟩, sf⟩ := slot_of HN5.out HM.out HX.out
    have sf0 := sf (x * 4 + 3)
    clear hC5 hG5 s0 s1 s2 sf
    go_wp2_with fail
    go_ret
    exact any_set HN5.out HM.out HX.out h11 (f := 3) (by omega) (u := .string z) (t' := ⟨(es[x]'HX.out).t.kind, (es[x]'HX.out).t.name, (es[x]'HX.out).t.attrs, z⟩) rfl rfl (by
      obtain ⟨q1, q2, q3, q4⟩ := HN5.out.sz _ (List.getElem_mem HX.out)
      exact ⟨by show (es[x]'HX.out).t.name.size ≤ 40; omega, by show (es[x]'HX.out).t.attrs.length ≤ 40; omega, fun y hy => by have := q3 y hy; omega, by show z.size ≤ 40; omega⟩) _ rfl
  · go_upto_region 12 with fail
    have HAL := hid (HN4.out.sz _ (List.getElem_mem HX.out)).2.1
    refine wp_region_held_drew (S := fun _ => True) (by kernel_rfl) trivial (fun _ => ?_)
    have HS := hid (show NSt w0 a len cap b w w4.drew (.slice (some ⟨g, 0, none⟩) (m + 1) cv) es at_ from HN4.out.drewN 1)
    generalize w4.drew = W at *
    refine wpAnyH_take (i := 0) (v := ?_) rfl (by kernel_rfl) (by kernel_rfl) (by kernel_rfl) (fun _ _ _ h => h) (Or.inl ⟨by rfl, ?_⟩) trivial ?_
    rotate_left
    · intro w hSw
      go_simp
      try (with_reducible rfl)
    try simp only [Act.put, List.setIfInBounds_toArray, List.set_cons_zero, List.set_cons_succ]
    refine wpAnyH_take (i := 1) (v := ?_) rfl (by kernel_rfl) (by kernel_rfl) (by kernel_rfl) (fun _ _ _ h => h) (Or.inl ⟨by rfl, ?_⟩) trivial ?_
    rotate_left
    · intro w hSw
      go_simp
      try (with_reducible rfl)
    try simp only [Act.put, List.setIfInBounds_toArray, List.set_cons_zero, List.set_cons_succ]
    refine wpAnyH_take (i := 5) (v := ?_) rfl (by kernel_rfl) (by kernel_rfl) (by kernel_rfl) (fun _ _ _ h => h) (Or.inl ⟨by rfl, ?_⟩) trivial ?_
    rotate_left
    · intro w hSw
      go_simp
      try (with_reducible rfl)
    try simp only [Act.put, List.setIfInBounds_toArray, List.set_cons_zero, List.set_cons_succ]
    refine wpAnyH_take (i := 2) (v := ?_) rfl (by kernel_rfl) (by kernel_rfl) (by kernel_rfl) (fun _ _ _ h => h) (Or.inl ⟨by rfl, ?_⟩) trivial ?_
    rotate_left
    · intro w hSw
      go_simp
      try (with_reducible rfl)
    try simp only [Act.put, List.setIfInBounds_toArray, List.set_cons_zero, List.set_cons_succ]
    refine wpAnyH_take (i := 3) (v := ?_) rfl (by kernel_rfl) (by kernel_rfl) (by kernel_rfl) (fun _ _ _ h => h) (Or.inl ⟨by rfl, ?_⟩) trivial ?_
    rotate_left
    · intro w hSw
      go_simp
      try (with_reducible rfl)
    try simp only [Act.put, List.setIfInBounds_toArray, List.set_cons_zero, List.set_cons_succ]
    refine wpAnyH_ready (rs := [4, 6]) (by kernel_rfl) (by simp) (AllReadyH.cons rfl (fun K hK => ?_) (AllReadyH.cons rfl (fun K hK => ?_) AllReadyH.nil))
    · have cF := (slot_of HS.out HM.out HX.out).1.2.2.1
      go_simp
      refine hK.out _ _ trivial (fun _ => ?_)
      clear hK K
      try simp only [Act.put, List.setIfInBounds_toArray, List.set_cons_zero, List.set_cons_succ]
      clear cF
      refine wpAnyH_ready (rs := [6]) (by kernel_rfl) (by simp) (AllReadyH.cons rfl (fun K hK => ?_) AllReadyH.nil)
      · go_simp
        refine (cName w0 a len cap b _ hlen HR.out HS.out.c.cur).mono ?_
        rintro e W2 ⟨tN, rfl, htN, hC, hG⟩
        replace HS := hid (HS.out.draw hC hG)
        clear hC hG
        go_wp2_with fail
        refine hK.out _ _ trivial (fun _ => ?_)
        clear hK K
        try simp only [Act.put, List.setIfInBounds_toArray, List.set_cons_zero, List.set_cons_succ]
        generalize W2 = W at *
        refine wpAnyH_take (i := 7) (v := ?_) rfl (by kernel_rfl) (by kernel_rfl) (by kernel_rfl) (fun _ _ _ h => h) (Or.inl ⟨by rfl, ?_⟩) trivial ?_
        rotate_left
        · intro w hSw
          go_simp
          try (with_reducible rfl)
        try simp only [Act.put, List.setIfInBounds_toArray, List.set_cons_zero, List.set_cons_succ]
        refine wpAnyH_ready (rs := [8]) (by kernel_rfl) (by simp) (AllReadyH.cons rfl (fun K hK => ?_) AllReadyH.nil)
        · have HNE := hid (two_cells W (.string tN) (.string ⟨#[118]⟩) 115)
          have HZW := hid (show w.heap.size ≤ (W.alloc (.cells #[.string tN, .string ⟨#[118]⟩] 115)).heap.size from (HS.out.alloc (.cells #[.string tN, .string ⟨#[118]⟩] 115)).c.gr.size)
          go_simp
          refine hK.out _ _ trivial (fun _ => ?_)
          clear hK K
          try simp only [Act.put, List.setIfInBounds_toArray, List.set_cons_zero, List.set_cons_succ]
          replace HS := hid (HS.out.alloc (.cells #[.string tN, .string ⟨#[118]⟩] 115))
          generalize W.heap.size = gn at *
          generalize W.alloc (.cells #[.string tN, .string ⟨#[118]⟩] 115) = W at *
          refine wpAnyH_ready (rs := [9]) (by kernel_rfl) (by simp) (AllReadyH.cons rfl (fun K hK => ?_) AllReadyH.nil)
          · refine step_app_at rfl (.tmp 44) (.tmp 48) 32 rfl w.heap.size 115 i0 _ 2 32 Try.underlying32 HI.out.1 HI.out.2.1 HI.out.2.2.1 HI.out.2.2.2 rfl (by decide) (.slice (es[x]'HX.out).a (es[x]'HX.out).t.attrs.length (es[x]'HX.out).cap) (es[x]'HX.out).t.attrs.length (atC (es[x]'HX.out).t.attrs) (by simp [Act.eval, Act.put]) (HS.out.own _ (List.getElem_mem HX.out)) ⟨gn, 0, none⟩ 1 1 [.string tN, .string ⟨#[118]⟩] (by simp [Act.eval, Act.put]) rfl HNE.out (two_one tN) (by have := HAL.out; unfold maxLen; omega) (by have := HAL.out; omega) HZW.out ?_
            intro v7 w7 hown7 hgrow7 _
            have H7 := hid (any_app HS.out HM.out HX.out h11 htN hown7 hgrow7)
            obtain ⟨a7, c7, hv7⟩ := own_len hown7
            obtain ⟨⟨s0, s1, s2, s3⟩, sf⟩ := slot_grown HS.out HM.out HX.out hgrow7
            have sf2 := sf (x * 4 + 2)
            subst hv7
            clear hown7 hgrow7 sf s0 s1 s3
            refine hK.out _ _ trivial (fun _ => ?_)
            clear hK K
            try simp only [Act.put, List.setIfInBounds_toArray, List.set_cons_zero, List.set_cons_succ]
            refine wpAnyH_take (i := 10) (v := ?_) rfl (by kernel_rfl) (by kernel_rfl) (by kernel_rfl) (fun _ _ _ h => h) (Or.inl ⟨by rfl, ?_⟩) trivial ?_
            rotate_left
            · intro w hSw
              go_simp
              try (with_reducible rfl)
            try simp only [Act.put, List.setIfInBounds_toArray, List.set_cons_zero, List.set_cons_succ]
            refine wpAnyH_take (i := 11) (v := ?_) rfl (by kernel_rfl) (by kernel_rfl) (by kernel_rfl) (fun _ _ _ h => h) (Or.inl ⟨by rfl, ?_⟩) trivial ?_
            rotate_left
            · intro w hSw
              go_simp
              try (with_reducible rfl)
            try simp only [Act.put, List.setIfInBounds_toArray, List.set_cons_zero, List.set_cons_succ]
            refine wpAnyH_ready (rs := [12]) (by kernel_rfl) (by simp) (AllReadyH.cons rfl (fun K hK => ?_) AllReadyH.nil)
            · go_simp
              refine hK.out _ _ trivial (fun _ => ?_)
              clear hK K
              try simp only [Act.put, List.setIfInBounds_toArray, List.set_cons_zero, List.set_cons_succ]
              refine wpAnyH_done (by kernel_rfl) ?_ _
              go_wp2_with fail
              go_ret
              exact H7.out _ _ rfl _ rfl
    · go_simp
      refine (cName w0 a len cap b _ hlen HR.out HS.out.c.cur).mono ?_
      rintro e W2 ⟨tN, rfl, htN, hC, hG⟩
      replace HS := hid (HS.out.draw hC hG)
      clear hC hG
      go_wp2_with fail
      refine hK.out _ _ trivial (fun _ => ?_)
      clear hK K
      try simp only [Act.put, List.setIfInBounds_toArray, List.set_cons_zero, List.set_cons_succ]
      generalize W2 = W at *
      refine wpAnyH_take (i := 7) (v := ?_) rfl (by kernel_rfl) (by kernel_rfl) (by kernel_rfl) (fun _ _ _ h => h) (Or.inl ⟨by rfl, ?_⟩) trivial ?_
      rotate_left
      · intro w hSw
        go_simp
        try (with_reducible rfl)
      try simp only [Act.put, List.setIfInBounds_toArray, List.set_cons_zero, List.set_cons_succ]
      refine wpAnyH_ready (rs := [4, 8]) (by kernel_rfl) (by simp) (AllReadyH.cons rfl (fun K hK => ?_) (AllReadyH.cons rfl (fun K hK => ?_) AllReadyH.nil))
      · have cF := (slot_of HS.out HM.out HX.out).1.2.2.1
        go_simp
        refine hK.out _ _ trivial (fun _ => ?_)
        clear hK K
        try simp only [Act.put, List.setIfInBounds_toArray, List.set_cons_zero, List.set_cons_succ]
        clear cF
        refine wpAnyH_ready (rs := [8]) (by kernel_rfl) (by simp) (AllReadyH.cons rfl (fun K hK => ?_) AllReadyH.nil)
        · have HNE := hid (two_cells W (.string tN) (.string ⟨#[118]⟩) 115)
          have HZW := hid (show w.heap.size ≤ (W.alloc (.cells #[.string tN, .string ⟨#[118]⟩] 115)).heap.size from (HS.out.alloc (.cells #[.string tN, .string ⟨#[118]⟩] 115)).c.gr.size)
          go_simp
          refine hK.out _ _ trivial (fun _ => ?_)
          clear hK K
          try simp only [Act.put, List.setIfInBounds_toArray, List.set_cons_zero, List.set_cons_succ]
          replace HS := hid (HS.out.alloc (.cells #[.string tN, .string ⟨#[118]⟩] 115))
          generalize W.heap.size = gn at *
          generalize W.alloc (.cells #[.string tN, .string ⟨#[118]⟩] 115) = W at *
          refine wpAnyH_ready (rs := [9]) (by kernel_rfl) (by simp) (AllReadyH.cons rfl (fun K hK => ?_) AllReadyH.nil)
          · refine step_app_at rfl (.tmp 44) (.tmp 48) 32 rfl w.heap.size 115 i0 _ 2 32 Try.underlying32 HI.out.1 HI.out.2.1 HI.out.2.2.1 HI.out.2.2.2 rfl (by decide) (.slice (es[x]'HX.out).a (es[x]'HX.out).t.attrs.length (es[x]'HX.out).cap) (es[x]'HX.out).t.attrs.length (atC (es[x]'HX.out).t.attrs) (by simp [Act.eval, Act.put]) (HS.out.own _ (List.getElem_mem HX.out)) ⟨gn, 0, none⟩ 1 1 [.string tN, .string ⟨#[118]⟩] (by simp [Act.eval, Act.put]) rfl HNE.out (two_one tN) (by have := HAL.out; unfold maxLen; omega) (by have := HAL.out; omega) HZW.out ?_
            intro v7 w7 hown7 hgrow7 _
            have H7 := hid (any_app HS.out HM.out HX.out h11 htN hown7 hgrow7)
            obtain ⟨a7, c7, hv7⟩ := own_len hown7
            obtain ⟨⟨s0, s1, s2, s3⟩, sf⟩ := slot_grown HS.out HM.out HX.out hgrow7
            have sf2 := sf (x * 4 + 2)
            subst hv7
            clear hown7 hgrow7 sf s0 s1 s3
            refine hK.out _ _ trivial (fun _ => ?_)
            clear hK K
            try simp only [Act.put, List.setIfInBounds_toArray, List.set_cons_zero, List.set_cons_succ]
            refine wpAnyH_take (i := 10) (v := ?_) rfl (by kernel_rfl) (by kernel_rfl) (by kernel_rfl) (fun _ _ _ h => h) (Or.inl ⟨by rfl, ?_⟩) trivial ?_
            rotate_left
            · intro w hSw
              go_simp
              try (with_reducible rfl)
            try simp only [Act.put, List.setIfInBounds_toArray, List.set_cons_zero, List.set_cons_succ]
            refine wpAnyH_take (i := 11) (v := ?_) rfl (by kernel_rfl) (by kernel_rfl) (by kernel_rfl) (fun _ _ _ h => h) (Or.inl ⟨by rfl, ?_⟩) trivial ?_
            rotate_left
            · intro w hSw
              go_simp
              try (with_reducible rfl)
            try simp only [Act.put, List.setIfInBounds_toArray, List.set_cons_zero, List.set_cons_succ]
            refine wpAnyH_ready (rs := [12]) (by kernel_rfl) (by simp) (AllReadyH.cons rfl (fun K hK => ?_) AllReadyH.nil)
            · go_simp
              refine hK.out _ _ trivial (fun _ => ?_)
              clear hK K
              try simp only [Act.put, List.setIfInBounds_toArray, List.set_cons_zero, List.set_cons_succ]
              refine wpAnyH_done (by kernel_rfl) ?_ _
              go_wp2_with fail
              go_ret
              exact H7.out _ _ rfl _ rfl
      · have HNE := hid (two_cells W (.string tN) (.string ⟨#[118]⟩) 115)
        have HZW := hid (show w.heap.size ≤ (W.alloc (.cells #[.string tN, .string ⟨#[118]⟩] 115)).heap.size from (HS.out.alloc (.cells #[.string tN, .string ⟨#[118]⟩] 115)).c.gr.size)
        go_simp
        refine hK.out _ _ trivial (fun _ => ?_)
        clear hK K
        try simp only [Act.put, List.setIfInBounds_toArray, List.set_cons_zero, List.set_cons_succ]
        replace HS := hid (HS.out.alloc (.cells #[.string tN, .string ⟨#[118]⟩] 115))
        generalize W.heap.size = gn at *
        generalize W.alloc (.cells #[.string tN, .string ⟨#[118]⟩] 115) = W at *
        refine wpAnyH_ready (rs := [4]) (by kernel_rfl) (by simp) (AllReadyH.cons rfl (fun K hK => ?_) AllReadyH.nil)
        · have cF := (slot_of HS.out HM.out HX.out).1.2.2.1
          go_simp
          refine hK.out _ _ trivial (fun _ => ?_)
          clear hK K
          try simp only [Act.put, List.setIfInBounds_toArray, List.set_cons_zero, List.set_cons_succ]
          clear cF
          refine wpAnyH_ready (rs := [9]) (by kernel_rfl) (by simp) (AllReadyH.cons rfl (fun K hK => ?_) AllReadyH.nil)
          · refine step_app_at rfl (.tmp 44) (.tmp 48) 32 rfl w.heap.size 115 i0 _ 2 32 Try.underlying32 HI.out.1 HI.out.2.1 HI.out.2.2.1 HI.out.2.2.2 rfl (by decide) (.slice (es[x]'HX.out).a (es[x]'HX.out).t.attrs.length (es[x]'HX.out).cap) (es[x]'HX.out).t.attrs.length (atC (es[x]'HX.out).t.attrs) (by simp [Act.eval, Act.put]) (HS.out.own _ (List.getElem_mem HX.out)) ⟨gn, 0, none⟩ 1 1 [.string tN, .string ⟨#[118]⟩] (by simp [Act.eval, Act.put]) rfl HNE.out (two_one tN) (by have := HAL.out; unfold maxLen; omega) (by have := HAL.out; omega) HZW.out ?_
            intro v7 w7 hown7 hgrow7 _
            have H7 := hid (any_app HS.out HM.out HX.out h11 htN hown7 hgrow7)
            obtain ⟨a7, c7, hv7⟩ := own_len hown7
            obtain ⟨⟨s0, s1, s2, s3⟩, sf⟩ := slot_grown HS.out HM.out HX.out hgrow7
            have sf2 := sf (x * 4 + 2)
            subst hv7
            clear hown7 hgrow7 sf s0 s1 s3
            refine hK.out _ _ trivial (fun _ => ?_)
            clear hK K
            try simp only [Act.put, List.setIfInBounds_toArray, List.set_cons_zero, List.set_cons_succ]
            refine wpAnyH_take (i := 10) (v := ?_) rfl (by kernel_rfl) (by kernel_rfl) (by kernel_rfl) (fun _ _ _ h => h) (Or.inl ⟨by rfl, ?_⟩) trivial ?_
            rotate_left
            · intro w hSw
              go_simp
              try (with_reducible rfl)
            try simp only [Act.put, List.setIfInBounds_toArray, List.set_cons_zero, List.set_cons_succ]
            refine wpAnyH_take (i := 11) (v := ?_) rfl (by kernel_rfl) (by kernel_rfl) (by kernel_rfl) (fun _ _ _ h => h) (Or.inl ⟨by rfl, ?_⟩) trivial ?_
            rotate_left
            · intro w hSw
              go_simp
              try (with_reducible rfl)
            try simp only [Act.put, List.setIfInBounds_toArray, List.set_cons_zero, List.set_cons_succ]
            refine wpAnyH_ready (rs := [12]) (by kernel_rfl) (by simp) (AllReadyH.cons rfl (fun K hK => ?_) AllReadyH.nil)
            · go_simp
              refine hK.out _ _ trivial (fun _ => ?_)
              clear hK K
              try simp only [Act.put, List.setIfInBounds_toArray, List.set_cons_zero, List.set_cons_succ]
              refine wpAnyH_done (by kernel_rfl) ?_ _
              go_wp2_with fail
              go_ret
              exact H7.out _ _ rfl _ rfl
  · by_cases hc1 : cv = 1
    · obtain rfl : m = 0 := by have := HCV.out; omega
      subst hc1
      go_wp2_with fail
      go_ret
      exact any_nil HN4.out _ _ _ rfl
    · go_wp2_with fail
      go_ret
      exact any_less HN4.out HM.out h11 _ _ rfl

/-- A place in a tree, or beside it. -/
theorem cDrawAt (a' : Option Addr) (n c' : Nat) (hn : n ≤ 11) (w0 : World) (a : Option Addr) (len cap b : Nat) (w : World) (hlen : len ≤ 4096) (hcr : CodeRow w0 a len) (hC : Cur w0 a len cap b w) :
    Calls Try.prog 80 #[.pointer (some ⟨b, 0, none⟩), .slice a' n c'] w fun e w' => ∃ x : Int, e = .returned (.int .i64 x) ∧ -1 ≤ x ∧ x ≤ 12 ∧ Cur w0 a len cap b w' ∧ w.grownBy w' (some b) := by
  have HR := hid hcr
  have HC := hid hC
  clear hcr hC
  by_cases h0 : n = 0
  · subst h0
    go_enter Try.func80, Try.ntmps80
    go_wp2_with fail
    refine (cFromA (-1) 14 12 (by omega) (by omega) (by omega) (by omega) (by omega) w0 a len cap b _ hlen HR.out HC.out).mono ?_
    rintro e w1 ⟨x, rfl, hx1, hx2, hC1, hG1⟩
    have HC1 := hid hC1
    have HG1 := hid hG1
    clear hC1 hG1
    go_wp2_with fail
    go_ret
    exact ⟨_, rfl, hx1, hx2, HC1.out, HG1.out⟩
  · have hd : decide ((0 : Int) < (n : Int)) = true := decide_eq_true (by omega)
    have hp : (0 : Int) < (n : Int) := by omega
    have CB := hid (fun wx (h : Cur w0 a len cap b wx) => cBelow n w0 a len cap b wx hlen HR.out h (by omega) (by omega))
    go_enter Try.func80, Try.ntmps80
    go_wp2_with fail
    refine (cOnce 10 w0 a len cap b _ hlen HR.out HC.out (by omega) (by omega)).mono ?_
    rintro e w1 ⟨B1, rfl, hC1, hG1⟩
    have HC1 := hid hC1
    have HG1 := hid hG1
    clear hC1 hG1
    cases B1
    · go_wp2_with fail
      refine (CB.out _ HC1.out).mono ?_
      rintro e w2 ⟨x, rfl, hx, hC2, hG2⟩
      have HX := hid hx
      have HC2 := hid hC2
      have HG2 := hid (gtrans HG1.out hG2)
      clear hC2 hG2 hx
      go_wp2_with fail
      go_ret
      exact ⟨_, rfl, by omega, by have := HX.out; omega, HC2.out, HG2.out⟩
    · go_wp2_with fail
      refine (cFromA (-1) 14 12 (by omega) (by omega) (by omega) (by omega) (by omega) w0 a len cap b _ hlen HR.out HC1.out).mono ?_
      rintro e w2 ⟨x, rfl, hx1, hx2, hC2, hG2⟩
      have HC2 := hid hC2
      have HG2 := hid (gtrans HG1.out hG2)
      clear hC2 hG2
      go_wp2_with fail
      go_ret
      exact ⟨_, rfl, hx1, hx2, HC2.out, HG2.out⟩

theorem cur_str {w0 : World} {a : Option Addr} {len cap b : Nat} {w1 : World} (hC : Cur w0 a len cap b w1) {g k : Nat} {t : ByteArray} (h : w1.cell? ⟨g, k, none⟩ = some (.string t)) : some b ≠ some g := by
  intro e
  cases e
  obtain ⟨_, _, i, x, _, _, hh⟩ := hC
  rw [Lib.cell_of_heap hh] at h
  match k, h with
  | 0, h => simp at h
  | 1, h => simp at h
  | 2, h => simp at h
  | k + 3, h => simp at h

/-- What was drawn stays when the cursor goes on. -/
theorem tk_keep {w0 w1 w2 : World} {a : Option Addr} {len cap b : Nat} {a' : Option Addr} {ts : List Tk} (h : TkRow w1 a' ts) (hC : Cur w0 a len cap b w1) (hg : w1.grownBy w2 (some b)) : TkRow w2 a' ts := by
  intro j hj
  obtain ⟨g, o, aa, ca, e, hlt, q0, q1, q2, q3, q4⟩ := h j hj
  have hne := cur_str hC q1
  exact ⟨g, o, aa, ca, e, Nat.lt_of_lt_of_le hlt hg.size, cell_grownR hg q0 hlt hne, cell_grownR hg q1 hlt hne, cell_grownR hg q2 hlt hne, cell_grownR hg q3 hlt hne, fun i hi => by
    obtain ⟨g1, o1, e1, hl1, p1, p2⟩ := q4 i hi
    exact ⟨g1, o1, e1, Nat.lt_of_lt_of_le hl1 hg.size, cell_grownR hg p1 hl1 (cur_str hC p1), cell_grownR hg p2 hl1 (cur_str hC p2)⟩⟩

end Go.Proofs.Ytkcmagfbacmllaa
