/- Contracts of the grower: parent and ends. Contract of the grower's read. Contract of Grown of the program. Contract of ReadTree of the program, of letters in which no remark begins. -/
import Derived.Test.YteninofjeidljaaGreatM22
import Derived.Test.YteninofjeidljaaGreatM12
import Derived.Test.YteninofjeidljaaGreatM20
import Derived.Test.YteninofjeidljaaGreatM18
import Derived.Deep.CutRange
import Derived.Deep.RegionHeld3
namespace Go.Proofs.YteninofjeidljaaGreat

open Go.RowKit

set_option linter.unusedVariables false

set_option linter.unusedSimpArgs false

set_option maxHeartbeats 2000000 in
theorem cParent (B g : Nat) (cur : Array Value) (T : TypeId) (v : Value) (L : List (Nat × ByteArray)) (w : World) (h : PileE w B g 1 cur T v L) (hn : L.length ≤ 1048576) :
    Calls Tryz.prog 100 #[.pointer (some ⟨g, 0, none⟩)] w fun e w' => e = .returned (.int .i64 (parE L)) ∧ Below w.heap.size w w' := by
  cases L with
  | nil =>
    have C := hid (cPeTop0 B g 1 cur T v w h)
    clear h
    show Calls Tryz.prog 100 #[.pointer (some ⟨g, 0, none⟩)] w fun e w' => e = .returned (.int .i64 (-1)) ∧ Below w.heap.size w w'
    go_enter Tryz.func100, Tryz.ntmps100
    go_wp2_with fail
    refine C.out.mono ?_
    rintro e w1 ⟨rfl, hb1⟩
    have HB1 := hid (hb1.alloc hb1.size (.cells #[.int .i64 0, .string ⟨#[]⟩] 62))
    clear hb1
    go_wp2_with fail
    go_ret
    exact ⟨rfl, HB1.out⟩
  | cons x L =>
    have C := hid (cPeTop B g 1 cur T v x L w h (by rw [List.length_cons] at hn; omega))
    clear h
    obtain ⟨x1, x2⟩ := x
    show Calls Tryz.prog 100 #[.pointer (some ⟨g, 0, none⟩)] w fun e w' => e = .returned (.int .i64 (x1 : Int)) ∧ Below w.heap.size w w'
    simp only at C
    go_enter Tryz.func100, Tryz.ntmps100
    go_wp2_with fail
    refine C.out.mono ?_
    rintro e w1 ⟨rfl, hb1⟩
    have HB1 := hid (hb1.alloc hb1.size (.cells #[.int .i64 (x1 : Int), .string x2] 62))
    clear hb1
    go_wp2_with fail
    go_ret
    exact ⟨rfl, HB1.out⟩

set_option maxHeartbeats 2000000 in
theorem cEnds0 (B g : Nat) (cur : Array Value) (T : TypeId) (v : Value) (nm : ByteArray) (w : World) (h : PileE w B g 1 cur T v []) :
    Calls Tryz.prog 99 #[.pointer (some ⟨g, 0, none⟩), .string nm] w fun e w' => e = .returned (.bool false) ∧ Below w.heap.size w w' := by
  have C := hid (cPeTake0 B g 1 cur T v w h)
  clear h
  go_enter Tryz.func99, Tryz.ntmps99
  go_wp2_with fail
  refine C.out.mono ?_
  rintro e w1 ⟨rfl, hb1⟩
  have HB1 := hid (hb1.alloc hb1.size (.cells #[.int .i64 0, .string ⟨#[]⟩] 62))
  clear hb1
  go_wp2_with fail
  go_ret
  exact ⟨rfl, HB1.out⟩

set_option maxHeartbeats 2000000 in
theorem cEnds (B g : Nat) (cur : Array Value) (T : TypeId) (v : Value) (x : Nat × ByteArray) (L : List (Nat × ByteArray)) (nm : ByteArray) (w : World) (h : PileE w B g 1 cur T v (x :: L)) (hn : L.length ≤ 1048576) (hm : nm.size ≤ 1048576) :
    Calls Tryz.prog 99 #[.pointer (some ⟨g, 0, none⟩), .string nm] w fun e w' => e = .returned (.bool (decide (x.2 = nm))) ∧ (∃ v', PileE w' B g 1 (cur.setIfInBounds 1 v') T v' L) ∧ KeepB (fun k => k = g) w w' := by
  have C := hid (cPeTake B g 1 cur T v x L w h hn)
  clear h
  obtain ⟨x1, x2⟩ := x
  simp only at C ⊢
  have hd := str_beq x2 nm
  generalize decide (x2 = nm) = D at *
  go_enter Tryz.func99, Tryz.ntmps99
  go_wp2_with fail
  refine C.out.mono ?_
  rintro e w1 ⟨rfl, ⟨v', hp1, _⟩, hk1⟩
  have HL1 := hid ((Below.refl w1.heap.size w1).alloc (Nat.le_refl _) (.cells #[.int .i64 (x1 : Int), .string x2] 62))
  have HP1 := hid (hp1.below HL1.out)
  have HK1 := hid (hk1.below_of HL1.out)
  clear hp1 hk1
  go_wp2_with fail
  go_ret
  exact ⟨rfl, ⟨_, HP1.out⟩, HK1.out⟩

end Go.Proofs.YteninofjeidljaaGreat

namespace Go.Proofs.YteninofjeidljaaGreat

open Go.RowKit

set_option linter.unusedVariables false

set_option linter.unusedSimpArgs false

/-- What lies in the grower. -/
structure GrSt (w : World) (B g : Nat) (nv pv : Value) (s : ISt) (es : List Nd.E) : Prop where
  blk : w.heap[g]? = some (.cells #[nv, pv] 75 (0, 0))
  row : Nd.Row w B nv es
  pile : PileE w B g 1 #[nv, pv] 75 pv s.op
  map : es.map (·.t) = s.out

theorem GrSt.below {w w' : World} {B g : Nat} {nv pv : Value} {s : ISt} {es : List Nd.E} (h : GrSt w B g nv pv s es) (hb : Below w.heap.size w w') : GrSt w' B g nv pv s es :=
  ⟨(hb.block g (lt_of_heap h.blk)).trans h.blk, h.row.below hb, h.pile.below hb, h.map⟩

theorem join_facts {w1 w3 : World} {B : Nat} {nv : Value} {es : List Nd.E} {P : Int} {nm tx : ByteArray} {l : List At} {a5 : Option Addr} {c5 : Nat} (hrow1 : Nd.Row w1 B nv es) (h13 : Below w1.heap.size w1 w3) (hoa : OwnAts w3 w1.heap.size a5 l) (hB : B ≤ w1.heap.size) :
    Nd.Row (w3.alloc (.cells #[.int .i64 P, .string nm, .slice a5 l.length c5, .string tx] 42)) B nv es
    ∧ (∀ j u, (Nd.cs [⟨⟨P, nm, l, tx⟩, a5, c5⟩])[j]? = some u → (w3.alloc (.cells #[.int .i64 P, .string nm, .slice a5 l.length c5, .string tx] 42)).cell? ((⟨w3.heap.size, 0, none⟩ : Addr).add j) = some u)
    ∧ (∀ e ∈ [(⟨⟨P, nm, l, tx⟩, a5, c5⟩ : Nd.E)], OwnAts (w3.alloc (.cells #[.int .i64 P, .string nm, .slice a5 l.length c5, .string tx] 42)) B e.a e.t.attrs ∧ ∀ g o, 0 < e.t.attrs.length → e.a = some ⟨g, o, none⟩ → ¬ nv.ownBlock = some g)
    ∧ (∀ e ∈ es, ∀ f ∈ [(⟨⟨P, nm, l, tx⟩, a5, c5⟩ : Nd.E)], Nd.Apart e f) ∧ B ≤ (w3.alloc (.cells #[.int .i64 P, .string nm, .slice a5 l.length c5, .string tx] 42)).heap.size := by
  have M6 := heap_alloc_new w3 (.cells #[.int .i64 P, .string nm, .slice a5 l.length c5, .string tx] 42)
  have HL6 := (Below.refl w3.heap.size w3).alloc (Nat.le_refl _) (.cells #[.int .i64 P, .string nm, .slice a5 l.length c5, .string tx] 42)
  have HO6 := Nd.Row.one (B := w1.heap.size) (e := ⟨⟨P, nm, l, tx⟩, a5, c5⟩) h13.size M6 (hoa.below HL6) (fun g o h e => by
    obtain ⟨g', o', cu, e', _, hh, _⟩ := hoa h
    simp only at e
    rw [e] at e'
    cases e'
    have := lt_of_heap hh
    omega)
  obtain ⟨g4, hg4, hone, hcell⟩ := HO6.cells (by simp)
  cases hg4
  obtain ⟨hap, hnb⟩ := hrow1.apart_later HO6 (Nat.le_refl _)
  exact ⟨(hrow1.below h13).below HL6, hcell, fun e he => ⟨((HO6.mono hB).ats e he).1, hnb e he⟩, hap, by simp; have := h13.size; omega⟩

/-- A node is told. -/
theorem GrSt.pushed {W w7 : World} {B g : Nat} {nv pv v7 : Value} {s s' : ISt} {es es7 : List Nd.E} (h : GrSt W B g nv pv s es) (hg : W.grownBy w7 nv.ownBlock) (hr : Nd.Row w7 B v7 es7) (hm : es7.map (·.t) = s'.out) (hop : s'.op = s.op) : GrSt (w7.setCell ⟨g, 0, none⟩ v7) B g v7 pv s' es7 := by
  have hb7 := blk_grownR h.blk hg h.row.kind (by decide)
  have hb8 : (w7.setCell ⟨g, 0, none⟩ v7).heap[g]? = some (.cells #[v7, pv] 75 (0, 0)) := heap_setCell_same w7 g 0 _ _ v7 hb7
  have hp7 := h.pile.grownR hg h.row.kind (by decide) (by decide)
  refine ⟨hb8, hr.keepB (KeepB.of_set (p := fun k => k = g) w7 0 v7 rfl) (fun k hk c e fz hh => ?_), ?_, hm⟩
  · subst hk
    rw [hb7] at hh
    injection hh with hh
    injection hh with _ h2 _
    subst h2
    exact ⟨by decide, by decide⟩
  · rw [hop]
    exact ⟨hp7.ge, hb8, rfl, own_set hp7.row hp7.own_ne 0 v7, hp7.ne⟩

/-- An element is laid on the pile. -/
theorem GrSt.laid {w8 w9 : World} {B g : Nat} {nv pv v9 : Value} {s s' : ISt} {es : List Nd.E} (h : GrSt w8 B g nv pv s es) (hk : KeepB (fun k => k = g ∨ pv.ownBlock = some k) w8 w9) (hp : PileE w9 B g 1 (#[nv, pv].setIfInBounds 1 v9) 75 v9 s'.op) (hm : s'.out = s.out) : GrSt w9 B g nv v9 s' es := by
  refine ⟨hp.blk, h.row.keepB hk (fun k hk c e fz hh => ?_), hp, h.map.trans hm.symm⟩
  rcases hk with hk | hk
  · subst hk
    rw [h.blk] at hh
    injection hh with hh
    injection hh with _ h2 _
    subst h2
    exact ⟨by decide, by decide⟩
  · obtain ⟨c2, fz2, h3⟩ := h.pile.kindR k hk
    rw [h3] at hh
    injection hh with hh
    injection hh with _ h2 _
    subst h2
    exact ⟨by decide, by decide⟩

/-- A block of another kind stands where the pile grows. -/
theorem GrSt.other {w8 w9 : World} {B g b : Nat} {nv pv : Value} {s : ISt} {es : List Nd.E} (h : GrSt w8 B g nv pv s es) (hk : KeepB (fun k => k = g ∨ pv.ownBlock = some k) w8 w9) {c : Array Value} {T : TypeId} (hb : w8.heap[b]? = some (.cells c T (0, 0))) (h1 : ¬ b = g) (h2 : T ≠ 62) : w9.heap[b]? = some (.cells c T (0, 0)) := by
  refine (hk.block b (lt_of_heap hb) (fun hp => ?_)).trans hb
  rcases hp with hp | hp
  · exact h1 hp
  · obtain ⟨c2, fz2, h3⟩ := h.pile.kindR b hp
    rw [h3] at hb
    injection hb with hb
    injection hb with _ h4 _
    exact h2 h4.symm

/-- What read answers, and what it leaves. -/
def ReadPost (B g : Nat) (s : ISt) (t : Tk) (w : World) (e : Ending) (w' : World) : Prop :=
  (e = .returned (.bool false) ∧ iStep s t = none ∧ Below B w w') ∨ ∃ s' nv pv es, e = .returned (.bool true) ∧ iStep s t = some s' ∧ GrSt w' B g nv pv s' es ∧ Below B w w'

set_option maxRecDepth 8000 in
set_option maxHeartbeats 8000000 in
theorem cRead (B g : Nat) (nv pv : Value) (s : ISt) (es : List Nd.E) (t : Tk) (a : Option Addr) (cap : Nat) (w : World) (hS : GrSt w B g nv pv s es) (hR : AtRow w a t.attrs) (hz : TkSz 1048576 t) (hl1 : es.length ≤ 1048576) (hl2 : s.op.length ≤ 1048576) :
    Calls Tryz.prog 48 #[.pointer (some ⟨g, 0, none⟩), tkV t a cap] w (ReadPost B g s t w) := by
  have HST0 := hid hS
  have hgB := hS.pile.ge
  have hgl := lt_of_heap hS.blk
  have HOP := hid hl2
  obtain ⟨k, nm, l, tx⟩ := t
  have HZ := hid hz
  have z1 := hz.1
  simp only at hR z1
  have HB0 := hid ((Below.refl w.heap.size w).alloc (Nat.le_refl _) (.cells #[.int .i64 k, .string nm, .slice a l.length cap, .string tx] 49))
  have M0 := hid (heap_alloc_new w (.cells #[.int .i64 k, .string nm, .slice a l.length cap, .string tx] 49))
  have CR := hid (hR.below HB0.out)
  have CO := hid (fun wx (h : AtRow wx a l) => cTokenOkI ⟨k, nm, l, tx⟩ a cap wx h HZ.out)
  have CC := hid (fun wx (h : AtRow wx a l) => cCopiedToken ⟨k, nm, l, tx⟩ a cap wx h HZ.out)
  have HB : B ≤ w.heap.size := by omega
  simp only [tkV] at CO CC ⊢
  obtain ⟨n, hn⟩ : ∃ n, l.length = n := ⟨_, rfl⟩
  have HN := hid hn
  rw [hn] at HB0 M0 CR CO CC ⊢
  clear hS hR hz hn hl2
  cases q1 : tokB ⟨k, nm, l, tx⟩
  · rw [q1] at CO
    have HW := hid (iStep_no (s := s) q1)
    clear q1 CC
    go_enter Tryz.func48, Tryz.ntmps48
    go_wp2_with fail
    refine (CO.out _ CR.out).mono ?_
    rintro e w1 ⟨rfl, hb1⟩
    have HB1 := hid ((bb HB0.out hb1).mono HB)
    clear hb1
    go_wp2_with fail
    go_ret
    exact .inl ⟨rfl, HW.out, HB1.out⟩
  rw [q1] at CO
  have HQ1 := hid q1
  clear q1
  by_cases hk2 : k = 2
  · subst hk2
    cases hop : s.op with
    | nil =>
      have HW := hid (iStep_end0 (s := s) (k := ⟨2, nm, l, tx⟩) rfl hop)
      go_enter Tryz.func48, Tryz.ntmps48
      go_wp2_with fail
      refine (CO.out _ CR.out).mono ?_
      rintro e w1 ⟨rfl, hb1⟩
      have HB1 := hid (bb HB0.out hb1)
      have hp1 := HST0.out.pile.below HB1.out
      rw [hop] at hp1
      have CE := hid (cEnds0 B g _ _ _ nm w1 hp1)
      obtain ⟨⟨x0, x1, x2, x3⟩, _⟩ := box4 (blk_below M0.out hb1)
      clear hb1 hp1 hop
      go_wp2_with fail
      refine CE.out.mono ?_
      rintro e w2 ⟨rfl, hb2⟩
      have HB2 := hid ((bb HB1.out hb2).mono HB)
      clear hb2
      go_wp2_with fail
      go_ret
      exact .inl ⟨rfl, HW.out, HB2.out⟩
    | cons x r =>
      have hr1 : r.length ≤ 1048576 := by have := HOP.out; rw [hop, List.length_cons] at this; omega
      have HOPE := hid hop
      clear hop
      go_enter Tryz.func48, Tryz.ntmps48
      go_wp2_with fail
      refine (CO.out _ CR.out).mono ?_
      rintro e w1 ⟨rfl, hb1⟩
      have HB1 := hid (bb HB0.out hb1)
      have HS1 := hid (HST0.out.below HB1.out)
      have hp1 := HS1.out.pile
      rw [HOPE.out] at hp1
      have CE := hid (cEnds B g _ _ _ x r nm w1 hp1 hr1 z1)
      obtain ⟨⟨x0, x1, x2, x3⟩, _⟩ := box4 (blk_below M0.out hb1)
      clear hb1 hp1
      go_wp2_with fail
      refine CE.out.mono ?_
      rintro e w2 ⟨rfl, ⟨v', hp2⟩, hk2⟩
      have HP2 := hid hp2
      have HK2 := hid hk2
      have HB2 := hid ((HB1.out.mono HB).trans (hk2.below (by have := HB1.out.size; omega) (fun k hk => by subst hk; exact hgB)))
      clear hp2 hk2 CE
      by_cases hx : x.2 = nm
      · have HW := hid (iStep_end (s := s) (k := ⟨2, nm, l, tx⟩) HQ1.out rfl HOPE.out hx)
        rw [decide_eq_true hx]
        clear hx
        go_wp2_with fail
        go_ret
        exact .inr ⟨⟨s.out, r⟩, nv, v', es, rfl, HW.out, ⟨HP2.out.blk, HS1.out.row.keepB HK2.out (fun k hk c e fz hh => by
          subst hk
          rw [HS1.out.blk] at hh
          injection hh with hh
          injection hh with _ h2 _
          subst h2
          exact ⟨by decide, by decide⟩), HP2.out, HS1.out.map⟩, HB2.out⟩
      · have HW := hid (iStep_end2 (s := s) (k := ⟨2, nm, l, tx⟩) rfl HOPE.out hx)
        rw [decide_eq_false hx]
        clear hx
        go_wp2_with fail
        go_ret
        exact .inl ⟨rfl, HW.out, HB2.out⟩
  have hdk2 : (k == 2) = false := by simpa using hk2
  have HSTEP := hid (iStep_new (s := s) HQ1.out hk2)
  simp only at HSTEP
  clear hk2
  go_enter Tryz.func48, Tryz.ntmps48
  go_wp2_with fail
  refine (CO.out _ CR.out).mono ?_
  rintro e w1 ⟨rfl, hb1⟩
  have HB1 := hid (bb HB0.out hb1)
  have HS1 := hid (HST0.out.below HB1.out)
  have CR1 := hid (CR.out.below hb1)
  have M1 := hid (blk_below M0.out hb1)
  obtain ⟨⟨x0, x1, x2, x3⟩, _⟩ := box4 M1.out
  have hw1 : w.heap.size < w1.heap.size := lt_of_heap M1.out
  clear hb1 CO M0 HB0 CR
  obtain ⟨na, nc, hnv⟩ := HS1.out.row.slice
  obtain ⟨L, hL⟩ : ∃ L, es.length = L := ⟨_, rfl⟩
  have HL := hid hL
  rw [hL] at hnv hl1
  clear hL
  subst hnv
  go_upto_region 5 with fail
  go_cut [5, 6] from 17 to 52 (fun x y wv => ∃ (b5 : Nat) (a5 : Option Addr) (c5 : Nat), x = .pointer (some ⟨b5, 0, none⟩) ∧ y = .int .i64 (L : Int) ∧ Hid (wv.heap[b5]? = some (.cells #[.int .i64 k, .string nm, .slice a5 n c5, .string tx] 49 (0, 0)) ∧ w1.heap.size ≤ b5 ∧ OwnAts wv w1.heap.size a5 l ∧ Below w1.heap.size w1 wv))
  case first =>
    have HBc := hid ((Below.refl w1.heap.size w1).drew)
    obtain ⟨k0, k1, k2, k3, _, _, _, _⟩ := box4_later M1.out
    have R0 := hid k0
    have R1 := hid k1
    have R2 := hid k2
    have R3 := hid k3
    have R4 := hid (fun (W' : World) (h : Below w1.heap.size w1 W') => (h.cell (p := ⟨g, 0, none⟩) (lt_of_heap HS1.out.blk)).trans (box2e HS1.out.blk).1.1)
    have HBz := hid (((Below.refl w1.heap.size w1).alloc (Nat.le_refl _) (.cells #[.int .i64 0, .string ⟨#[]⟩, .slice none 0 0, .string ⟨#[]⟩] 49)).drew)
    have MZ := hid (show (w1.alloc (.cells #[.int .i64 0, .string ⟨#[]⟩, .slice none 0 0, .string ⟨#[]⟩] 49)).drew.heap[w1.heap.size]? = some (.cells #[.int .i64 0, .string ⟨#[]⟩, .slice none 0 0, .string ⟨#[]⟩] 49 (0, 0)) from heap_alloc_new w1 _)
    have hn1 : ¬ w1.heap.size = w.heap.size := by omega
    have hn2 : ¬ w1.heap.size = g := by have := lt_of_heap HS1.out.blk; omega
    clear k0 k1 k2 k3 x0 x1 x2 x3
    go_region_held3 (fun w' => w'.cell? ⟨w.heap.size, 0, none⟩ = some (.int .i64 k) ∧ w'.cell? ⟨w.heap.size, 1, none⟩ = some (.string nm) ∧ w'.cell? ⟨w.heap.size, 2, none⟩ = some (.slice a n cap) ∧ w'.cell? ⟨w.heap.size, 3, none⟩ = some (.string tx) ∧ w'.cell? ⟨g, 0, none⟩ = some (.slice na L nc))
      (first | exact ⟨R0.out _ HBc.out, R1.out _ HBc.out, R2.out _ HBc.out, R3.out _ HBc.out, R4.out _ HBc.out⟩ | exact ⟨R0.out _ (HBc.out.alloc HBc.out.size _), R1.out _ (HBc.out.alloc HBc.out.size _), R2.out _ (HBc.out.alloc HBc.out.size _), R3.out _ (HBc.out.alloc HBc.out.size _), R4.out _ (HBc.out.alloc HBc.out.size _)⟩ | exact ⟨R0.out _ HBz.out, R1.out _ HBz.out, R2.out _ HBz.out, R3.out _ HBz.out, R4.out _ HBz.out⟩ | exact ⟨(set4_far hn1).trans (R0.out _ HBc.out), (set4_far hn1).trans (R1.out _ HBc.out), (set4_far hn1).trans (R2.out _ HBc.out), (set4_far hn1).trans (R3.out _ HBc.out), (set4_far hn2).trans (R4.out _ HBc.out)⟩ | go_keep)
      (first
        | (go_at_call 37; refine (CC.out _ (CR1.out.below HBc.out)).mono ?_; rintro e w2 ⟨a5, c5, rfl, ha5, hb5⟩; have HA5 := hid (ha5.mono HBc.out.size); replace HBc := hid (bb HBc.out hb5); clear hb5 ha5)
        | (go_at_call 37; refine (CC.out _ (CR1.out.below HBz.out)).mono ?_; rintro e w2 ⟨a5, c5, rfl, ha5, hb5⟩; have HA5 := hid (ha5.mono (B := w1.heap.size + 1) (by simp)); have HZ5 := hid (blk_below MZ.out hb5); obtain ⟨⟨z0, z1, z2, z3⟩, zf0, zf1, zf2, zf3⟩ := box4 HZ5.out; replace HBc := hid (bb HBz.out hb5); clear hb5 ha5))
    · go_wp2_with fail
      go_meet
      exact ⟨w2.heap.size, a5, c5, rfl, rfl, heap_alloc_new w2 _, HBc.out.size, HA5.out.below ((Below.refl _ _).alloc (Nat.le_refl _) _), HBc.out.alloc HBc.out.size _⟩
    · go_wp2_with fail
      go_meet
      exact ⟨w1.heap.size, a5, c5, rfl, rfl, box_set4 HZ5.out, Nat.le_refl _, ((((HA5.out.set (Nat.lt_succ_self _) 0 _).set (Nat.lt_succ_self _) 1 _).set (Nat.lt_succ_self _) 2 _).set (Nat.lt_succ_self _) 3 _).mono (Nat.le_succ _), (((HBc.out.setCell (p := ⟨w1.heap.size, 0, none⟩) (Nat.le_refl _) _).setCell (p := ⟨w1.heap.size, 1, none⟩) (Nat.le_refl _) _).setCell (p := ⟨w1.heap.size, 2, none⟩) (Nat.le_refl _) _).setCell (p := ⟨w1.heap.size, 3, none⟩) (Nat.le_refl _) _⟩
  case rest =>
    obtain ⟨b5, a5, c5, rfl, rfl, HX⟩ := hcut
    obtain ⟨hM5, hb5, hoa, hbl⟩ := HX.out
    have hnn := HN.out
    subst hnn
    have HSV := hid (HS1.out.below hbl)
    have M5 := hid hM5
    have HOA := hid hoa
    have HBL := hid hbl
    have M1c := hid (blk_below M1.out hbl)
    obtain ⟨P, hP⟩ : ∃ P, parE s.op = P := ⟨_, rfl⟩
    have HP := hid hP
    have CP := hid (fun wx (h : Below wc.heap.size wc wx) => cParent B g _ _ pv s.op wx (HSV.out.pile.below h) HOP.out)
    rw [hP] at CP
    have hnb5 : ¬ b5 = g := by have := lt_of_heap HS1.out.blk; omega
    have hnb3 : ¬ w.heap.size = g := by omega
    have hBw1 : B ≤ w1.heap.size := by omega
    have hn7 : es.length + [(⟨⟨P, nm, l, tx⟩, a5, c5⟩ : Nd.E)].length ≤ 2097152 := by rw [HL.out]; simp; omega
    have HN7 := hid hn7
    have HL10 := hid (show (es ++ [(⟨⟨P, nm, l, tx⟩, a5, c5⟩ : Nd.E)]).length = L + 1 by rw [List.length_append, HL.out]; rfl)
    clear hM5 hoa hbl HX hP hn7
    go_upto_region 6 with fail
    go_cut [39] from 17 to 52 (fun x wv => ∃ (w3 w7 : World) (a7 : Option Addr) (c7 : Nat), wv = w7.setCell ⟨g, 0, none⟩ (.slice a7 (L + 1) c7) ∧ Hid (Below wc.heap.size wc w3 ∧ Nd.Row w7 B (.slice a7 (L + 1) c7) (es ++ [⟨⟨P, nm, l, tx⟩, a5, c5⟩]) ∧ Below B (w3.alloc (.cells #[.int .i64 P, .string nm, .slice a5 l.length c5, .string tx] 42)) w7 ∧ (w3.alloc (.cells #[.int .i64 P, .string nm, .slice a5 l.length c5, .string tx] 42)).grownBy w7 (Value.slice na L nc).ownBlock))
    case first =>
      have HBc := hid ((Below.refl wc.heap.size wc).drew)
      obtain ⟨k0, k1, k2, k3, _, _, _, _⟩ := box4_later M5.out
      have R1 := hid k1
      have R2 := hid k2
      have R3 := hid k3
      have gc0 := hid (show ∀ W', Below wc.heap.size wc W' → W'.cell? ⟨g, 0, none⟩ = some (.slice na L nc) from fun W' h => (h.cell (p := ⟨g, 0, none⟩) (lt_of_heap HSV.out.blk)).trans (box2e HSV.out.blk).1.1)
      have gcA := gc0.out _ (Below.refl _ _)
      clear k0 k1 k2 k3
      --R6
      refine wp_region_held_drew (S := fun w' => w'.cell? ⟨b5, 1, none⟩ = some (.string nm) ∧ w'.cell? ⟨b5, 2, none⟩ = some (.slice a5 l.length c5) ∧ w'.cell? ⟨b5, 3, none⟩ = some (.string tx)) (by kernel_rfl) ⟨R1.out _ HBc.out, R2.out _ HBc.out, R3.out _ HBc.out⟩ (fun hHeld => ?_)
      refine wpAnyH_take (i := 0) (v := ?_) rfl (by kernel_rfl) (by kernel_rfl) (by kernel_rfl) (fun _ _ _ h => h) (Or.inl ⟨by rfl, ?_⟩) (by assumption) ?_
      rotate_left
      · intro w hSw
        try dsimp only at hSw
        go_simp
        try (with_reducible rfl)
      try simp only [Act.put, List.setIfInBounds_toArray, List.set_cons_zero, List.set_cons_succ]
      refine wpAnyH_take (i := 1) (v := ?_) rfl (by kernel_rfl) (by kernel_rfl) (by kernel_rfl) (fun _ _ _ h => h) (Or.inl ⟨by rfl, ?_⟩) (by assumption) ?_
      rotate_left
      · intro w hSw
        try dsimp only at hSw
        go_simp
        try (with_reducible rfl)
      try simp only [Act.put, List.setIfInBounds_toArray, List.set_cons_zero, List.set_cons_succ]
      refine wpAnyH_take (i := 2) (v := ?_) rfl (by kernel_rfl) (by kernel_rfl) (by kernel_rfl) (fun _ _ _ h => h) (Or.inl ⟨by rfl, ?_⟩) (by assumption) ?_
      rotate_left
      · intro w hSw
        try dsimp only at hSw
        go_simp
        try (with_reducible rfl)
      try simp only [Act.put, List.setIfInBounds_toArray, List.set_cons_zero, List.set_cons_succ]
      refine wpAnyH_take (i := 3) (v := ?_) rfl (by kernel_rfl) (by kernel_rfl) (by kernel_rfl) (fun _ _ _ h => h) (Or.inl ⟨by rfl, ?_⟩) (by assumption) ?_
      rotate_left
      · intro w hSw
        try dsimp only at hSw
        go_simp
        try (with_reducible rfl)
      try simp only [Act.put, List.setIfInBounds_toArray, List.set_cons_zero, List.set_cons_succ]
      refine wpAnyH_take (i := 5) (v := ?_) rfl (by kernel_rfl) (by kernel_rfl) (by kernel_rfl) (fun _ _ _ h => h) (Or.inl ⟨by rfl, ?_⟩) (by assumption) ?_
      rotate_left
      · intro w hSw
        try dsimp only at hSw
        go_simp
        try (with_reducible rfl)
      try simp only [Act.put, List.setIfInBounds_toArray, List.set_cons_zero, List.set_cons_succ]
      refine wpAnyH_take (i := 7) (v := ?_) rfl (by kernel_rfl) (by kernel_rfl) (by kernel_rfl) (fun _ _ _ h => h) (Or.inl ⟨by rfl, ?_⟩) (by assumption) ?_
      rotate_left
      · intro w hSw
        try dsimp only at hSw
        go_simp
        try (with_reducible rfl)
      try simp only [Act.put, List.setIfInBounds_toArray, List.set_cons_zero, List.set_cons_succ]
      refine wpAnyH_take (i := 8) (v := ?_) rfl (by kernel_rfl) (by kernel_rfl) (by kernel_rfl) (fun _ _ _ h => h) (Or.inl ⟨by rfl, ?_⟩) (by assumption) ?_
      rotate_left
      · intro w hSw
        try dsimp only at hSw
        go_simp
        try (with_reducible rfl)
      try simp only [Act.put, List.setIfInBounds_toArray, List.set_cons_zero, List.set_cons_succ]
      refine wpAnyH_take (i := 9) (v := ?_) rfl (by kernel_rfl) (by kernel_rfl) (by kernel_rfl) (fun _ _ _ h => h) (Or.inl ⟨by rfl, ?_⟩) (by assumption) ?_
      rotate_left
      · intro w hSw
        try dsimp only at hSw
        go_simp
        try (with_reducible rfl)
      try simp only [Act.put, List.setIfInBounds_toArray, List.set_cons_zero, List.set_cons_succ]
      refine wpAnyH_take (i := 10) (v := ?_) rfl (by kernel_rfl) (by kernel_rfl) (by kernel_rfl) (fun _ _ _ h => h) (Or.inl ⟨by rfl, ?_⟩) (by assumption) ?_
      rotate_left
      · intro w hSw
        try dsimp only at hSw
        go_simp
        try (with_reducible rfl)
      try simp only [Act.put, List.setIfInBounds_toArray, List.set_cons_zero, List.set_cons_succ]
      refine wpAnyH_take (i := 11) (v := ?_) rfl (by kernel_rfl) (by kernel_rfl) (by kernel_rfl) (fun _ _ _ h => h) (Or.inl ⟨by rfl, ?_⟩) (by assumption) ?_
      rotate_left
      · intro w hSw
        try dsimp only at hSw
        go_simp
        try (with_reducible rfl)
      try simp only [Act.put, List.setIfInBounds_toArray, List.set_cons_zero, List.set_cons_succ]
      refine wpAnyH_take (i := 12) (v := ?_) rfl (by kernel_rfl) (by kernel_rfl) (by kernel_rfl) (fun _ _ _ h => h) (Or.inl ⟨by rfl, ?_⟩) (by assumption) ?_
      rotate_left
      · intro w hSw
        try dsimp only at hSw
        go_simp
        try (with_reducible rfl)
      try simp only [Act.put, List.setIfInBounds_toArray, List.set_cons_zero, List.set_cons_succ]
      refine wpAnyH_ready (rs := [4, 6]) (by kernel_rfl) (by simp) (AllReadyH.cons rfl (fun K hK => ?_) (AllReadyH.cons rfl (fun K hK => ?_) AllReadyH.nil))
      · go_simp
        refine hK.out _ _ ?_ (fun hHeld => ?_)
        · exact ⟨R1.out _ HBc.out, R2.out _ HBc.out, R3.out _ HBc.out⟩
        clear hK K
        try simp only [Act.put, List.setIfInBounds_toArray, List.set_cons_zero, List.set_cons_succ]
        refine wpAnyH_ready (rs := [6]) (by kernel_rfl) (by simp) (AllReadyH.cons rfl (fun K hK => ?_) AllReadyH.nil)
        · go_simp
          refine (CP.out _ HBc.out).mono ?_
          rintro e w3 ⟨rfl, hb3⟩
          replace HBc := hid (bb HBc.out hb3)
          have gc3 := gc0.out _ HBc.out
          have gc4 := gc0.out _ (HBc.out.alloc HBc.out.size (.cells #[.int .i64 P, .string nm, .slice a5 l.length c5, .string tx] 42))
          clear hb3
          go_wp2_with fail
          refine hK.out _ _ ?_ (fun hHeld => ?_)
          · exact ⟨R1.out _ HBc.out, R2.out _ HBc.out, R3.out _ HBc.out⟩
          clear hK K
          try simp only [Act.put, List.setIfInBounds_toArray, List.set_cons_zero, List.set_cons_succ]
          refine wpAnyH_take (i := 13) (v := ?_) rfl (by kernel_rfl) (by kernel_rfl) (by kernel_rfl) (fun _ _ _ h => h) (Or.inl ⟨by rfl, ?_⟩) (by assumption) ?_
          rotate_left
          · intro w hSw
            try dsimp only at hSw
            go_simp
            try (with_reducible rfl)
          try simp only [Act.put, List.setIfInBounds_toArray, List.set_cons_zero, List.set_cons_succ]
          refine wpAnyH_ready (rs := [14]) (by kernel_rfl) (by simp) (AllReadyH.cons rfl (fun K hK => ?_) AllReadyH.nil)
          · go_simp
            refine hK.out _ _ ?_ (fun hHeld => ?_)
            · exact ⟨R1.out _ (HBc.out.alloc HBc.out.size _), R2.out _ (HBc.out.alloc HBc.out.size _), R3.out _ (HBc.out.alloc HBc.out.size _)⟩
            clear hK K
            try simp only [Act.put, List.setIfInBounds_toArray, List.set_cons_zero, List.set_cons_succ]
            refine wpAnyH_ready (rs := [15]) (by kernel_rfl) (by simp) (AllReadyH.cons rfl (fun K hK => ?_) AllReadyH.nil)
            · refine Nd.step_join rfl (.tmp 28) (.tmp 38) rfl B (.slice na L nc) es [⟨⟨P, nm, l, tx⟩, a5, c5⟩] (by simp [Act.eval, Act.put]) (join_facts HS1.out.row (bb HBL.out HBc.out) (HOA.out.below HBc.out) hBw1).1 w3.heap.size 1 1 (by simp [Act.eval, Act.put]) rfl (join_facts HS1.out.row (bb HBL.out HBc.out) (HOA.out.below HBc.out) hBw1).2.1 (join_facts HS1.out.row (bb HBL.out HBc.out) (HOA.out.below HBc.out) hBw1).2.2.1 (List.pairwise_singleton _ _) (join_facts HS1.out.row (bb HBL.out HBc.out) (HOA.out.below HBc.out) hBw1).2.2.2.1 HN7.out (join_facts HS1.out.row (bb HBL.out HBc.out) (HOA.out.below HBc.out) hBw1).2.2.2.2 ?_
              intro a7 c7 w7 hr7 hb7 hg7
              have HR7 := hid hr7
              have HB7 := hid hb7
              have HG7 := hid hg7
              have HL6 := hid ((Below.refl w3.heap.size w3).alloc (Nat.le_refl _) (.cells #[.int .i64 P, .string nm, .slice a5 l.length c5, .string tx] 42))
              have HSW := hid ((HSV.out.below HBc.out).below HL6.out)
              have M57 := hid (blk_grownR (blk_below (blk_below M5.out HBc.out) HL6.out) hg7 HSW.out.row.kind (by decide))
              have hg0 := blk_grownR HSW.out.blk hg7 HSW.out.row.kind (by decide)
              have gc7 := (box2e hg0).1.1
              have gf7 := (box2e hg0).2.1
              have HK7 := hid (And.intro (box4 M57.out).1.2.1 (And.intro (box4 M57.out).1.2.2.1 (box4 M57.out).1.2.2.2))
              clear hr7 hb7 hg7 hg0
              refine hK.out _ _ ?_ (fun hHeld => ?_)
              · exact HK7.out
              clear hK K
              try simp only [Act.put, List.setIfInBounds_toArray, List.set_cons_zero, List.set_cons_succ]
              refine wpAnyH_take (i := 16) (v := ?_) rfl (by kernel_rfl) (by kernel_rfl) (by kernel_rfl) (fun _ _ _ h => h) (Or.inl ⟨by rfl, ?_⟩) (by assumption) ?_
              rotate_left
              · intro w hSw
                try dsimp only at hSw
                go_simp
                try (with_reducible rfl)
              try simp only [Act.put, List.setIfInBounds_toArray, List.set_cons_zero, List.set_cons_succ]
              refine wpAnyH_take (i := 17) (v := ?_) rfl (by kernel_rfl) (by kernel_rfl) (by kernel_rfl) (fun _ _ _ h => h) (Or.inl ⟨by rfl, ?_⟩) (by assumption) ?_
              rotate_left
              · intro w hSw
                try dsimp only at hSw
                go_simp
                try (with_reducible rfl)
              try simp only [Act.put, List.setIfInBounds_toArray, List.set_cons_zero, List.set_cons_succ]
              refine wpAnyH_ready (rs := [18]) (by kernel_rfl) (by simp) (AllReadyH.cons rfl (fun K hK => ?_) AllReadyH.nil)
              · go_simp
                refine hK.out _ _ ?_ (fun hHeld => ?_)
                · exact ⟨(World.cell?_setCell_far _ _ _ _ (fun e => hnb5 e.symm)).trans HK7.out.1, (World.cell?_setCell_far _ _ _ _ (fun e => hnb5 e.symm)).trans HK7.out.2.1, (World.cell?_setCell_far _ _ _ _ (fun e => hnb5 e.symm)).trans HK7.out.2.2⟩
                clear hK K
                try simp only [Act.put, List.setIfInBounds_toArray, List.set_cons_zero, List.set_cons_succ]
                refine wpAnyH_done (by kernel_rfl) ?_ _
                go_wp2_with fail
                go_meet
                exact ⟨w3, w7, a7, c7, by rw [HL.out], ⟨HBc.out, by rw [← HL10.out]; exact HR7.out, HB7.out, HG7.out⟩⟩
      · go_simp
        refine (CP.out _ HBc.out).mono ?_
        rintro e w3 ⟨rfl, hb3⟩
        replace HBc := hid (bb HBc.out hb3)
        have gc3 := gc0.out _ HBc.out
        have gc4 := gc0.out _ (HBc.out.alloc HBc.out.size (.cells #[.int .i64 P, .string nm, .slice a5 l.length c5, .string tx] 42))
        clear hb3
        go_wp2_with fail
        refine hK.out _ _ ?_ (fun hHeld => ?_)
        · exact ⟨R1.out _ HBc.out, R2.out _ HBc.out, R3.out _ HBc.out⟩
        clear hK K
        try simp only [Act.put, List.setIfInBounds_toArray, List.set_cons_zero, List.set_cons_succ]
        refine wpAnyH_take (i := 13) (v := ?_) rfl (by kernel_rfl) (by kernel_rfl) (by kernel_rfl) (fun _ _ _ h => h) (Or.inl ⟨by rfl, ?_⟩) (by assumption) ?_
        rotate_left
        · intro w hSw
          try dsimp only at hSw
          go_simp
          try (with_reducible rfl)
        try simp only [Act.put, List.setIfInBounds_toArray, List.set_cons_zero, List.set_cons_succ]
        refine wpAnyH_ready (rs := [4, 14]) (by kernel_rfl) (by simp) (AllReadyH.cons rfl (fun K hK => ?_) (AllReadyH.cons rfl (fun K hK => ?_) AllReadyH.nil))
        · go_simp
          refine hK.out _ _ ?_ (fun hHeld => ?_)
          · exact ⟨R1.out _ HBc.out, R2.out _ HBc.out, R3.out _ HBc.out⟩
          clear hK K
          try simp only [Act.put, List.setIfInBounds_toArray, List.set_cons_zero, List.set_cons_succ]
          refine wpAnyH_ready (rs := [14]) (by kernel_rfl) (by simp) (AllReadyH.cons rfl (fun K hK => ?_) AllReadyH.nil)
          · go_simp
            refine hK.out _ _ ?_ (fun hHeld => ?_)
            · exact ⟨R1.out _ (HBc.out.alloc HBc.out.size _), R2.out _ (HBc.out.alloc HBc.out.size _), R3.out _ (HBc.out.alloc HBc.out.size _)⟩
            clear hK K
            try simp only [Act.put, List.setIfInBounds_toArray, List.set_cons_zero, List.set_cons_succ]
            refine wpAnyH_ready (rs := [15]) (by kernel_rfl) (by simp) (AllReadyH.cons rfl (fun K hK => ?_) AllReadyH.nil)
            · refine Nd.step_join rfl (.tmp 28) (.tmp 38) rfl B (.slice na L nc) es [⟨⟨P, nm, l, tx⟩, a5, c5⟩] (by simp [Act.eval, Act.put]) (join_facts HS1.out.row (bb HBL.out HBc.out) (HOA.out.below HBc.out) hBw1).1 w3.heap.size 1 1 (by simp [Act.eval, Act.put]) rfl (join_facts HS1.out.row (bb HBL.out HBc.out) (HOA.out.below HBc.out) hBw1).2.1 (join_facts HS1.out.row (bb HBL.out HBc.out) (HOA.out.below HBc.out) hBw1).2.2.1 (List.pairwise_singleton _ _) (join_facts HS1.out.row (bb HBL.out HBc.out) (HOA.out.below HBc.out) hBw1).2.2.2.1 HN7.out (join_facts HS1.out.row (bb HBL.out HBc.out) (HOA.out.below HBc.out) hBw1).2.2.2.2 ?_
              intro a7 c7 w7 hr7 hb7 hg7
              have HR7 := hid hr7
              have HB7 := hid hb7
              have HG7 := hid hg7
              have HL6 := hid ((Below.refl w3.heap.size w3).alloc (Nat.le_refl _) (.cells #[.int .i64 P, .string nm, .slice a5 l.length c5, .string tx] 42))
              have HSW := hid ((HSV.out.below HBc.out).below HL6.out)
              have M57 := hid (blk_grownR (blk_below (blk_below M5.out HBc.out) HL6.out) hg7 HSW.out.row.kind (by decide))
              have hg0 := blk_grownR HSW.out.blk hg7 HSW.out.row.kind (by decide)
              have gc7 := (box2e hg0).1.1
              have gf7 := (box2e hg0).2.1
              have HK7 := hid (And.intro (box4 M57.out).1.2.1 (And.intro (box4 M57.out).1.2.2.1 (box4 M57.out).1.2.2.2))
              clear hr7 hb7 hg7 hg0
              refine hK.out _ _ ?_ (fun hHeld => ?_)
              · exact HK7.out
              clear hK K
              try simp only [Act.put, List.setIfInBounds_toArray, List.set_cons_zero, List.set_cons_succ]
              refine wpAnyH_take (i := 16) (v := ?_) rfl (by kernel_rfl) (by kernel_rfl) (by kernel_rfl) (fun _ _ _ h => h) (Or.inl ⟨by rfl, ?_⟩) (by assumption) ?_
              rotate_left
              · intro w hSw
                try dsimp only at hSw
                go_simp
                try (with_reducible rfl)
              try simp only [Act.put, List.setIfInBounds_toArray, List.set_cons_zero, List.set_cons_succ]
              refine wpAnyH_take (i := 17) (v := ?_) rfl (by kernel_rfl) (by kernel_rfl) (by kernel_rfl) (fun _ _ _ h => h) (Or.inl ⟨by rfl, ?_⟩) (by assumption) ?_
              rotate_left
              · intro w hSw
                try dsimp only at hSw
                go_simp
                try (with_reducible rfl)
              try simp only [Act.put, List.setIfInBounds_toArray, List.set_cons_zero, List.set_cons_succ]
              refine wpAnyH_ready (rs := [18]) (by kernel_rfl) (by simp) (AllReadyH.cons rfl (fun K hK => ?_) AllReadyH.nil)
              · go_simp
                refine hK.out _ _ ?_ (fun hHeld => ?_)
                · exact ⟨(World.cell?_setCell_far _ _ _ _ (fun e => hnb5 e.symm)).trans HK7.out.1, (World.cell?_setCell_far _ _ _ _ (fun e => hnb5 e.symm)).trans HK7.out.2.1, (World.cell?_setCell_far _ _ _ _ (fun e => hnb5 e.symm)).trans HK7.out.2.2⟩
                clear hK K
                try simp only [Act.put, List.setIfInBounds_toArray, List.set_cons_zero, List.set_cons_succ]
                refine wpAnyH_done (by kernel_rfl) ?_ _
                go_wp2_with fail
                go_meet
                exact ⟨w3, w7, a7, c7, by rw [HL.out], ⟨HBc.out, by rw [← HL10.out]; exact HR7.out, HB7.out, HG7.out⟩⟩
        · go_simp
          refine hK.out _ _ ?_ (fun hHeld => ?_)
          · exact ⟨R1.out _ (HBc.out.alloc HBc.out.size _), R2.out _ (HBc.out.alloc HBc.out.size _), R3.out _ (HBc.out.alloc HBc.out.size _)⟩
          clear hK K
          try simp only [Act.put, List.setIfInBounds_toArray, List.set_cons_zero, List.set_cons_succ]
          refine wpAnyH_ready (rs := [4]) (by kernel_rfl) (by simp) (AllReadyH.cons rfl (fun K hK => ?_) AllReadyH.nil)
          · go_simp
            refine hK.out _ _ ?_ (fun hHeld => ?_)
            · exact ⟨R1.out _ (HBc.out.alloc HBc.out.size _), R2.out _ (HBc.out.alloc HBc.out.size _), R3.out _ (HBc.out.alloc HBc.out.size _)⟩
            clear hK K
            try simp only [Act.put, List.setIfInBounds_toArray, List.set_cons_zero, List.set_cons_succ]
            refine wpAnyH_ready (rs := [15]) (by kernel_rfl) (by simp) (AllReadyH.cons rfl (fun K hK => ?_) AllReadyH.nil)
            · refine Nd.step_join rfl (.tmp 28) (.tmp 38) rfl B (.slice na L nc) es [⟨⟨P, nm, l, tx⟩, a5, c5⟩] (by simp [Act.eval, Act.put]) (join_facts HS1.out.row (bb HBL.out HBc.out) (HOA.out.below HBc.out) hBw1).1 w3.heap.size 1 1 (by simp [Act.eval, Act.put]) rfl (join_facts HS1.out.row (bb HBL.out HBc.out) (HOA.out.below HBc.out) hBw1).2.1 (join_facts HS1.out.row (bb HBL.out HBc.out) (HOA.out.below HBc.out) hBw1).2.2.1 (List.pairwise_singleton _ _) (join_facts HS1.out.row (bb HBL.out HBc.out) (HOA.out.below HBc.out) hBw1).2.2.2.1 HN7.out (join_facts HS1.out.row (bb HBL.out HBc.out) (HOA.out.below HBc.out) hBw1).2.2.2.2 ?_
              intro a7 c7 w7 hr7 hb7 hg7
              have HR7 := hid hr7
              have HB7 := hid hb7
              have HG7 := hid hg7
              have HL6 := hid ((Below.refl w3.heap.size w3).alloc (Nat.le_refl _) (.cells #[.int .i64 P, .string nm, .slice a5 l.length c5, .string tx] 42))
              have HSW := hid ((HSV.out.below HBc.out).below HL6.out)
              have M57 := hid (blk_grownR (blk_below (blk_below M5.out HBc.out) HL6.out) hg7 HSW.out.row.kind (by decide))
              have hg0 := blk_grownR HSW.out.blk hg7 HSW.out.row.kind (by decide)
              have gc7 := (box2e hg0).1.1
              have gf7 := (box2e hg0).2.1
              have HK7 := hid (And.intro (box4 M57.out).1.2.1 (And.intro (box4 M57.out).1.2.2.1 (box4 M57.out).1.2.2.2))
              clear hr7 hb7 hg7 hg0
              refine hK.out _ _ ?_ (fun hHeld => ?_)
              · exact HK7.out
              clear hK K
              try simp only [Act.put, List.setIfInBounds_toArray, List.set_cons_zero, List.set_cons_succ]
              refine wpAnyH_take (i := 16) (v := ?_) rfl (by kernel_rfl) (by kernel_rfl) (by kernel_rfl) (fun _ _ _ h => h) (Or.inl ⟨by rfl, ?_⟩) (by assumption) ?_
              rotate_left
              · intro w hSw
                try dsimp only at hSw
                go_simp
                try (with_reducible rfl)
              try simp only [Act.put, List.setIfInBounds_toArray, List.set_cons_zero, List.set_cons_succ]
              refine wpAnyH_take (i := 17) (v := ?_) rfl (by kernel_rfl) (by kernel_rfl) (by kernel_rfl) (fun _ _ _ h => h) (Or.inl ⟨by rfl, ?_⟩) (by assumption) ?_
              rotate_left
              · intro w hSw
                try dsimp only at hSw
                go_simp
                try (with_reducible rfl)
              try simp only [Act.put, List.setIfInBounds_toArray, List.set_cons_zero, List.set_cons_succ]
              refine wpAnyH_ready (rs := [18]) (by kernel_rfl) (by simp) (AllReadyH.cons rfl (fun K hK => ?_) AllReadyH.nil)
              · go_simp
                refine hK.out _ _ ?_ (fun hHeld => ?_)
                · exact ⟨(World.cell?_setCell_far _ _ _ _ (fun e => hnb5 e.symm)).trans HK7.out.1, (World.cell?_setCell_far _ _ _ _ (fun e => hnb5 e.symm)).trans HK7.out.2.1, (World.cell?_setCell_far _ _ _ _ (fun e => hnb5 e.symm)).trans HK7.out.2.2⟩
                clear hK K
                try simp only [Act.put, List.setIfInBounds_toArray, List.set_cons_zero, List.set_cons_succ]
                refine wpAnyH_done (by kernel_rfl) ?_ _
                go_wp2_with fail
                go_meet
                exact ⟨w3, w7, a7, c7, by rw [HL.out], ⟨HBc.out, by rw [← HL10.out]; exact HR7.out, HB7.out, HG7.out⟩⟩
      --R6END
    case rest =>
      obtain ⟨w3, w7, a7, c7, rfl, HX⟩ := hcut
      obtain ⟨hb3, hr7, hb7, hg7⟩ := HX.out
      have HL6 := hid ((Below.refl w3.heap.size w3).alloc (Nat.le_refl _) (.cells #[.int .i64 P, .string nm, .slice a5 l.length c5, .string tx] 42))
      have HSW := hid ((HSV.out.below hb3).below HL6.out)
      have HOUT := hid (show (es ++ [(⟨⟨P, nm, l, tx⟩, a5, c5⟩ : Nd.E)]).map (·.t) = s.out ++ [⟨P, nm, l, tx⟩] by rw [List.map_append, HS1.out.map]; rfl)
      have HS8 := hid (HSW.out.pushed (s' := ⟨s.out ++ [⟨P, nm, l, tx⟩], s.op⟩) hg7 hr7 HOUT.out rfl)
      have HB8 := hid (((((HB1.out.trans (HBL.out.mono (Nat.le_of_lt hw1))).trans (hb3.mono (by have := HBL.out.size; omega))).alloc (by have := HBL.out.size; have := hb3.size; omega) (.cells #[.int .i64 P, .string nm, .slice a5 l.length c5, .string tx] 42)).mono HB).trans hb7)
      have HB9 := hid (HB8.out.setCell (p := ⟨g, 0, none⟩) hgB (.slice a7 (L + 1) c7))
      have M38 := hid ((heap_setCell_other w7 ⟨g, 0, none⟩ w.heap.size (.slice a7 (L + 1) c7) hnb3).trans (blk_grownR (blk_below (blk_below M1c.out hb3) HL6.out) hg7 HSW.out.row.kind (by decide)))
      have HOL := hid (show s.out.length = L by rw [← HS1.out.map, List.length_map]; exact HL.out)
      clear hb3 hr7 hb7 hg7 HX HB8
      generalize w7.setCell ⟨g, 0, none⟩ (.slice a7 (L + 1) c7) = w8 at *
      obtain ⟨⟨y0, y1, y2, y3⟩, _⟩ := box4 M38.out
      rw [HP.out] at HSTEP
      by_cases hk1 : k = 1
      · subst hk1
        rw [if_pos rfl, HOL.out] at HSTEP
        have CL := hid (fun wx (h : Below w8.heap.size w8 wx) => cPeLay B g 1 _ _ pv (L, nm) s.op wx (HS8.out.pile.below h) HOP.out)
        simp only at CL
        go_wp2_with fail
        have HBc := hid ((Below.refl w8.heap.size w8).drew)
        go_region_held3 (fun w' => w'.cell? ⟨w.heap.size, 1, none⟩ = some (.string nm)) (first | exact (HBc.out.cell (p := ⟨w.heap.size, 1, none⟩) (lt_of_heap M38.out)).trans (box4 M38.out).1.2.1 | exact HK9.out | go_keep)
          (first
            | (go_at_call 40; refine (CL.out _ HBc.out).mono ?_; rintro e w9 ⟨rfl, ⟨v9, hp9, _⟩, hk9⟩; have HP9 := hid hp9; have HKB := hid hk9; have HK9 := hid (box4 ((HS8.out.below HBc.out).other hk9 (blk_below M38.out HBc.out) hnb3 (by decide))).1.2.1; clear hp9 hk9))
        have HS9 := hid ((HS8.out.below HBc.out).laid (s' := ⟨s.out ++ [⟨P, nm, l, tx⟩], (L, nm) :: s.op⟩) HKB.out HP9.out rfl)
        have HB10 := hid ((HB9.out.trans (HBc.out.mono (by have := HB9.out.size; omega))).trans (HKB.out.below (B := B) (by have := HB9.out.size; have := HBc.out.size; omega) (fun k hk => by
          rcases hk with hk | hk
          · subst hk; exact hgB
          · exact (HS8.out.pile.row.lt k hk).1)))
        go_wp2_with fail
        go_ret
        exact .inr ⟨_, _, _, _, rfl, HSTEP.out, HS9.out, HB10.out⟩
      · have hdk1 : (k == 1) = false := by simpa using hk1
        rw [if_neg hk1] at HSTEP
        clear hk1
        go_wp2_with fail
        go_ret
        exact .inr ⟨_, _, _, _, rfl, HSTEP.out, HS8.out, HB9.out⟩

end Go.Proofs.YteninofjeidljaaGreat

namespace Go.Proofs.YteninofjeidljaaGreat

open Go.RowKit

set_option linter.unusedVariables false

set_option linter.unusedSimpArgs false

theorem iStep_sz {s s' : ISt} {t : Tk} (h : iStep s t = some s') : s'.out.length ≤ s.out.length + 1 ∧ s'.op.length ≤ s.op.length + 1 ∧ (TksSz 1048576 s.out → TkSz 1048576 t → TksSz 1048576 s'.out) := by
  unfold iStep at h
  split at h
  · cases h
  · split at h
    · split at h
      · cases h
      · rename_i x r ho
        split at h
        · cases h
          exact ⟨Nat.le_succ _, by show r.length ≤ _; rw [ho, List.length_cons]; omega, fun h _ => h⟩
        · cases h
    · cases h
      refine ⟨by show (s.out ++ [_]).length ≤ _; rw [List.length_append]; exact Nat.le_refl _, ?_, fun h ht x hx => ?_⟩
      · show (if t.kind = 1 then (s.out.length, t.name) :: s.op else s.op).length ≤ _
        split
        · rw [List.length_cons]; exact Nat.le_refl _
        · omega
      · rcases List.mem_append.1 hx with h' | h'
        · exact h x h'
        · rw [List.mem_singleton] at h'
          subst h'
          exact ht

/-- What the loop of Grown knows. -/
structure GrLp (l : List Tk) (w : World) (g i : Nat) (wr : World) (nv pv : Value) (s : ISt) (es : List Nd.E) : Prop where
  val : iRun (l.drop i) s = iRun l ⟨[], []⟩
  st : GrSt wr w.heap.size g nv pv s es
  bel : Below w.heap.size w wr
  cnt : s.out.length ≤ i ∧ s.op.length ≤ i
  sz : TksSz 1048576 s.out

set_option maxRecDepth 8000 in
set_option maxHeartbeats 8000000 in
theorem cGrownI (a : Option Addr) (cap : Nat) (l : List Tk) (w : World) (hR : TkRow w a l) (hn : l.length ≤ 1048576) (hz : TksSz 1048576 l) :
    Calls Tryz.prog 10 #[.slice a l.length cap] w fun e w' => ∃ a' c' es, e = .returned (.tuple #[.slice a' es.length c', .bool (grownT l).isSome]) ∧ Nd.Row w' w.heap.size (.slice a' es.length c') es ∧ es.map (·.t) = (grownT l).getD [] ∧ Below w.heap.size w w' := by
  have HR := hid hR
  have HZ := hid hz
  have HEQ := hid (grownI_eq l)
  obtain ⟨V, hV⟩ : ∃ V, grownT l = V := ⟨_, rfl⟩
  rw [hV] at HEQ ⊢
  have HB0 := hid ((Below.refl w.heap.size w).alloc (Nat.le_refl _) (.cells #[.slice none 0 0, .slice none 0 0] 75))
  have M0 := hid (heap_alloc_new w (.cells #[.slice none 0 0, .slice none 0 0] 75))
  clear hR hz hV
  obtain ⟨n, hnn⟩ : ∃ n, l.length = n := ⟨_, rfl⟩
  have HN := hid hnn
  rw [hnn] at hn ⊢
  clear hnn
  go_enter Tryz.func10, Tryz.ntmps10
  go_wp2_with fail
  go_loopw [9] (fun k wr => ∃ (i : Nat) (nv pv : Value) (s : ISt) (es : List Nd.E), k = .int .i64 (i : Int) ∧ i ≤ n ∧ Hid (GrLp l w w.heap.size i wr nv pv s es)) (fun k _ => n - (intOf k).toNat)
  case atStart => exact ⟨0, _, _, ⟨[], []⟩, [], rfl, Nat.zero_le _, ⟨rfl, ⟨M0.out, Nd.Row.start0 _ _, ⟨Nat.le_refl _, M0.out, rfl, World.ownsRow_nil _ _ _ _, by decide⟩, rfl⟩, HB0.out, ⟨Nat.le_refl _, Nat.le_refl _⟩, fun t ht => absurd ht List.not_mem_nil⟩⟩
  case round =>
    clear M0 HB0
    obtain ⟨i, nv, pv, s, es, rfl, hi, ST⟩ := hrel
    have hlen : es.length = s.out.length := by rw [← ST.out.st.map, List.length_map]
    have hc1 := ST.out.cnt.1
    have hc2 := ST.out.cnt.2
    have hel : es.length ≤ i := by omega
    have HLN := hid hlen
    clear hlen
    have hbs := ST.out.bel.size
    have hgl := lt_of_heap ST.out.st.blk
    by_cases hlt : i < n
    · have his : i < l.length := by rw [HN.out]; exact hlt
      have hin : (i : Int) < (n : Int) := by omega
      obtain ⟨b, o, aa, ca, rfl, hb, c0, c1, c2, c3, cr⟩ := HR.out.below ST.out.bel i his
      have HDR := hid (List.drop_eq_getElem_cons his)
      obtain ⟨t, ht⟩ : ∃ t, l[i] = t := ⟨_, rfl⟩
      have HZt := hid (HZ.out _ (List.getElem_mem his))
      rw [ht] at c0 c1 c2 c3 cr HZt HDR
      obtain ⟨tk, tn, tl, tx⟩ := t
      simp only at c0 c1 c2 c3 cr
      have HO := hid ((Below.refl wr.heap.size wr).alloc (Nat.le_refl _) (.cells #[.int .i64 tk, .string tn, .slice aa tl.length ca, .string tx] 49))
      have C := hid (cRead w.heap.size w.heap.size nv pv s es ⟨tk, tn, tl, tx⟩ aa ca (wr.alloc (.cells #[.int .i64 tk, .string tn, .slice aa tl.length ca, .string tx] 49)) (ST.out.st.below HO.out) (cr.below HO.out) HZt.out (by omega) (by omega))
      have HBA := hid (ST.out.bel.alloc hbs (.cells #[.int .i64 tk, .string tn, .slice aa tl.length ca, .string tx] 49))
      simp only [tkV] at C
      obtain ⟨m, hm⟩ : ∃ m, tl.length = m := ⟨_, rfl⟩
      rw [hm] at c2 HO C HBA
      clear ht cr hm
      go_wp2_with fail
      refine C.out.mono ?_
      rintro e w2 (⟨rfl, hst, hb2⟩ | ⟨s', nv', pv', es', rfl, hst, hgs, hb2⟩)
      · have HB2 := hid (HBA.out.trans hb2)
        have HW := hid (show V = none by
          rw [← HEQ.out]
          unfold grownI
          rw [← ST.out.val, HDR.out, iRun_bad hst])
        clear hst hb2
        go_wp2_with fail
        go_ret2
        exact ⟨none, 0, [], by rw [HW.out]; rfl, Nd.Row.start0 _ _, by rw [HW.out]; rfl, HB2.out⟩
      · have HB2 := hid (HBA.out.trans hb2)
        have hsz := iStep_sz hst
        have HGS := hid hgs
        have HVAL := hid (show iRun (l.drop (i + 1)) s' = iRun l ⟨[], []⟩ by rw [← ST.out.val, HDR.out, iRun_step hst])
        have HSZ := hid (hsz.2.2 ST.out.sz HZt.out)
        have h1 := hsz.1
        have h2 := hsz.2.1
        clear hst hb2 hgs hsz
        go_wp2_with fail
        go_roundw
        case rel => exact ⟨i + 1, nv', pv', s', es', by go_num, by omega, ⟨HVAL.out, HGS.out, HB2.out, ⟨by omega, by omega⟩, HSZ.out⟩⟩
        case measure => simp [intOf]; omega
    · have hie : i = n := by omega
      subst hie
      have HRUN := hid (show iRun l ⟨[], []⟩ = some s by rw [← ST.out.val, List.drop_of_length_le (by rw [HN.out]; exact Nat.le_refl _)]; rfl)
      have CS := hid (cPeSize w.heap.size w.heap.size 1 _ _ pv s.op wr ST.out.st.pile)
      obtain ⟨na, nc, hnv⟩ := ST.out.st.row.slice
      have gc := (box2e ST.out.st.blk).1.1
      obtain ⟨na2, nc2, hnv2, htk⟩ := ST.out.st.row.tkRow
      obtain ⟨rfl, rfl⟩ : na = na2 ∧ nc = nc2 := by rw [hnv] at hnv2; cases hnv2; exact ⟨rfl, rfl⟩
      rw [ST.out.st.map] at htk
      have CT := hid (cTreeOkI na nc s.out wr htk (by omega) ST.out.sz)
      rw [← HLN.out] at CT
      have HROW := hid ST.out.st.row
      have HBW := hid ST.out.bel
      have HMAP := hid ST.out.st.map
      have HBLK := hid ST.out.st.blk
      clear hnv2 htk ST
      subst hnv
      obtain ⟨L, hL⟩ : ∃ L, es.length = L := ⟨_, rfl⟩
      have HL := hid hL
      rw [hL] at HROW gc CT hel HBLK
      clear hL
      cases hop : s.op with
      | nil =>
        rw [hop] at CS
        have hc0 : ((([] : List (Nat × ByteArray)).length : Nat) : Int) = 0 := rfl
        rw [hc0] at CS
        cases q : treeB s.out
        · have HW := hid (show V = none by
            rw [← HEQ.out]
            unfold grownI
            rw [HRUN.out]
            simp only
            exact if_neg (fun h => by rw [q] at h; cases h.2))
          rw [q] at CT
          clear q hop hc0
          go_wp2_with fail
          refine CS.out.mono ?_
          rintro e w2 ⟨rfl, rfl⟩
          go_wp2_with fail
          refine CT.out.mono ?_
          rintro e w3 ⟨rfl, hb3⟩
          have HB3 := hid (bb HBW.out hb3)
          clear hb3
          go_wp2_with fail
          go_ret2
          exact ⟨none, 0, [], by rw [HW.out]; rfl, Nd.Row.start0 _ _, by rw [HW.out]; rfl, HB3.out⟩
        · have HW := hid (show V = some s.out by
            rw [← HEQ.out]
            unfold grownI
            rw [HRUN.out]
            simp only
            exact if_pos ⟨hop, q⟩)
          rw [q] at CT
          clear q hop hc0
          go_wp2_with fail
          refine CS.out.mono ?_
          rintro e w2 ⟨rfl, rfl⟩
          go_wp2_with fail
          refine CT.out.mono ?_
          rintro e w3 ⟨rfl, hb3⟩
          have HB3 := hid (bb HBW.out hb3)
          have HR3 := hid (HROW.out.below hb3)
          have gc3 := (box2e (blk_below HBLK.out hb3)).1.1
          clear hb3
          go_wp2_with fail
          go_ret2
          exact ⟨na, nc, es, by rw [HW.out, HL.out]; rfl, by rw [HL.out]; exact HR3.out, by rw [HW.out]; exact HMAP.out, HB3.out⟩
      | cons x r =>
        have HW := hid (show V = none by
          rw [← HEQ.out]
          unfold grownI
          rw [HRUN.out]
          simp only
          exact if_neg (fun h => by rw [hop] at h; cases h.1))
        rw [hop] at CS
        have hpos : (0 : Int) < (((x :: r).length : Nat) : Int) := by rw [List.length_cons]; omega
        generalize (((x :: r).length : Nat) : Int) = Z at *
        clear hop CT
        go_wp2_with fail
        refine CS.out.mono ?_
        rintro e w2 ⟨rfl, rfl⟩
        go_wp2_with fail
        go_ret2
        exact ⟨none, 0, [], by rw [HW.out]; rfl, Nd.Row.start0 _ _, by rw [HW.out]; rfl, HBW.out⟩

end Go.Proofs.YteninofjeidljaaGreat

namespace Go.Proofs.YteninofjeidljaaGreat

open Go.RowKit

set_option linter.unusedVariables false

set_option linter.unusedSimpArgs false

/-- The tree that a letter tells. -/
noncomputable def readT (s : ByteArray) : Option (List Tk) := (toksF s.data.toList).bind grownT

/-- What ReadTree of the program tells. -/
def RdPostI (s : ByteArray) (w : World) (e : Ending) (w' : World) : Prop :=
  ∃ a c es, e = .returned (.tuple #[.slice a es.length c, .bool (readT s).isSome]) ∧ Nd.Row w' w.heap.size (.slice a es.length c) es ∧ es.map (·.t) = (readT s).getD [] ∧ Below w.heap.size w w'

set_option maxHeartbeats 4000000 in
theorem cReadTreeI (s : ByteArray) (w : World) (hs : s.size ≤ maxLen) (hdd : NoDD s) : Calls Tryz.prog 12 #[.string s] w (RdPostI s w) := by
  have CT := hid (cTokensI s w hs hdd)
  clear hs hdd
  cases ht : toksF s.data.toList with
  | none =>
    have HT := hid ht
    have HRT := hid (show readT s = none by unfold readT; rw [ht]; rfl)
    clear ht
    go_enter Tryz.func12, Tryz.ntmps12
    go_wp2_with fail
    refine CT.out.mono ?_
    rintro e w1 ⟨h1, -, hb1⟩
    have h2 := h1 HT.out
    subst h2
    have HB1 := hid hb1
    clear h1 hb1 CT
    go_wp2_with fail
    go_ret2
    exact ⟨none, 0, [], by rw [HRT.out]; rfl, Nd.Row.start0 _ _, by rw [HRT.out]; rfl, HB1.out⟩
  | some l =>
    have HT := hid ht
    have HRT := hid (show readT s = grownT l by unfold readT; rw [ht]; rfl)
    obtain ⟨hok, hfew⟩ := toks_right ht
    have HZ := hid (show TksSz 1048576 l from fun t hx => tok_small (hok t hx))
    clear ht hok
    go_enter Tryz.func12, Tryz.ntmps12
    go_wp2_with fail
    refine CT.out.mono ?_
    rintro e w1 ⟨-, h1, hb1⟩
    obtain ⟨a1, c1, es1, rfl, hr1, hm1⟩ := h1 l HT.out
    have htk : TkRow w1 a1 l := by
      obtain ⟨a', c', e', h'⟩ := hr1.tkRow
      injection e' with x1 x2 x3
      subst x1
      rw [hm1] at h'
      exact h'
    have HB1 := hid hb1
    have CG := hid (cGrownI a1 c1 l w1 htk (by omega) HZ.out)
    rw [← HRT.out] at CG
    clear h1 hb1 CT hr1 htk hm1 HZ HT hfew
    generalize l.length = n at *
    obtain ⟨I, hI⟩ : ∃ I, (readT s).isSome = I := ⟨_, rfl⟩
    have HI := hid hI
    rw [hI] at CG
    clear hI
    go_wp2_with fail
    refine CG.out.mono ?_
    rintro e w2 ⟨a2, c2, es, rfl, hr2, hm2, hb2⟩
    have HR2 := hid (hr2.mono HB1.out.size)
    have HM2 := hid hm2
    have HB2 := hid (bb HB1.out hb2)
    obtain ⟨k, hk⟩ : ∃ k, es.length = k := ⟨_, rfl⟩
    have HK := hid hk
    rw [hk]
    clear hr2 hm2 hb2 CG HRT hk
    go_wp2_with fail
    go_ret2
    exact ⟨a2, c2, es, by rw [HK.out, HI.out]; rfl, HR2.out, HM2.out, HB2.out⟩

end Go.Proofs.YteninofjeidljaaGreat
