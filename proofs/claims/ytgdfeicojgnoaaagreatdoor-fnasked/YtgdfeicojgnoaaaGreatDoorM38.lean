/- The heap of rows: up. The heap of rows: Push. slices.SortFunc over rows by their ids: the mathematics. -/
import Derived.Test.YtgdfeicojgnoaaaGreatDoorM37
import Derived.Test.YtgdfeicojgnoaaaGreatDoorM9
import Derived.Test.YtgdfeicojgnoaaaGreatDoorM6
import Derived.Test.YtgdfeicojgnoaaaGreatDoorM19
import Derived.Shelf.SlSortCmp.KitK
namespace Go.Proofs.YtgdfeicojgnoaaaGreatDoor
open Go.RowKit
set_option linter.unusedVariables false
set_option linter.unusedSimpArgs false

theorem take_cells {cu : Array Value} {l : List Ro} (h : RoCells cu 0 l) (hs : l.length * 2 ≤ cu.size) : cu.toList.take (l.length * 2) = roC l := by
  apply List.ext_getElem?
  intro m
  rw [List.getElem?_take]
  by_cases hm : m < l.length * 2
  · rw [if_pos hm]
    obtain ⟨k, hk⟩ : ∃ k, k = m / 2 := ⟨_, rfl⟩
    have hkl : k < l.length := by omega
    obtain ⟨c0, c1⟩ := h k hkl
    obtain ⟨g0, g1⟩ := roC_get l k hkl
    rw [Nat.zero_add] at c0 c1
    rcases (show m = k * 2 ∨ m = k * 2 + 1 by omega) with rfl | rfl
    · rw [g0, ← c0, Array.getElem?_toList]
    · rw [g1, ← c1, Array.getElem?_toList]
  · rw [if_neg hm, List.getElem?_eq_none (by rw [roC_len]; omega)]

/-- The heap's box and its rows. -/
structure Wt (w : World) (B R g c : Nat) (l : List Ro) : Prop where
  box : w.heap[R]? = some (.cells #[.slice (some ⟨g, 0, none⟩) l.length c] 137 (0, 0))
  own : w.ownsRow B 83 2 (.slice (some ⟨g, 0, none⟩) l.length c) l.length (roC l)

theorem Wt.ne {w : World} {B R g c : Nat} {l : List Ro} (h : Wt w B R g c l) : ¬ g = R := fun e => by
  subst e
  rcases h.own.2 with ⟨e1, _⟩ | ⟨g', cp, cur, e1, _, k2, _⟩
  · cases e1
  · injection e1 with e1
    injection e1 with e1
    injection e1 with e1
    subst e1
    have := h.box
    rw [this] at k2
    injection k2 with k2
    injection k2 with _ ht
    exact absurd ht (by decide)

theorem Wt.cells {w : World} {B R g c : Nat} {l : List Ro} (h : Wt w B R g c l) (h0 : 0 < l.length) : ∃ cu, w.heap[g]? = some (.cells cu 83 (0, 0)) ∧ RoCells cu 0 l := by
  obtain ⟨a', c', e, ho⟩ := own_ro h.own rfl
  cases e
  obtain ⟨g', o', cu, e', _, h1, h2⟩ := ho h0
  rcases h.own.2 with ⟨e1, e2⟩ | ⟨g2, cp, cur, e1, _, k2, _⟩
  · cases e1
  · cases e1
    cases e'
    exact ⟨cu, h1, h2⟩

theorem Wt.swap {w : World} {B R g c : Nat} {l : List Ro} (h : Wt w B R g c l) (i j : Nat) (hi : i < l.length) (hj : j < l.length) : Wt (swW w g i j l[i].id l[j].id l[i].til l[j].til) B R g c (swR l i j hi hj) := by
  have hne := h.ne
  obtain ⟨cu, h1, h2⟩ := h.cells (by omega)
  have hk := swW_keep w g i j l[i].id l[j].id l[i].til l[j].til
  refine ⟨?_, ?_⟩
  · rw [swR_len]
    exact (hk.block R (lt_of_heap h.box) (fun e => hne e.symm)).trans h.box
  · rcases h.own.2 with ⟨e1, e2⟩ | ⟨g2, cp, cur, e1, k1, k2, k3, k4, k5, k6⟩
    · cases e1
    · cases e1
      rw [h1] at k2
      injection k2 with k2
      injection k2 with k2
      subst k2
      have hw := swW_heap i j l[i].id l[j].id l[i].til l[j].til h1
      have hc := cells_sw h2 hi hj
      rw [swR_len]
      refine ⟨by rw [roC_len, swR_len], .inr ⟨g, c, _, rfl, k1, hw, k3, k4, ?_, ?_⟩⟩
      · simpa using k5
      · have := take_cells hc (by rw [swR_len]; have := congrArg List.length k6; rw [List.length_take, roC_len] at this; simp; simp at this; omega)
        rw [swR_len] at this
        exact this

theorem Wt.row {w : World} {B R g c : Nat} {l : List Ro} (h : Wt w B R g c l) : RoRow w (some ⟨g, 0, none⟩) l := by
  obtain ⟨a', c', e, ho⟩ := own_ro h.own rfl
  cases e
  exact ho.row

theorem Wt.below {w w' : World} {B R g c : Nat} {l : List Ro} (h : Wt w B R g c l) (hb : Below w.heap.size w w') : Wt w' B R g c l := ⟨u_blk_below h.box hb, ownsRow_below h.own hb⟩

theorem swF_comm (f : Nat → Int) (i j : Nat) : swF f i j = swF f j i := by
  funext k
  by_cases h1 : k = i
  · subst h1
    rw [swF_l, swF_r]
  · by_cases h2 : k = j
    · subst h2
      rw [swF_r, swF_l]
    · rw [swF_o h1 h2, swF_o h2 h1]

/-- What up and down leave. -/
def HeapPost (B R g c : Nat) (l : List Ro) (Q : List Ro → Prop) (w w' : World) : Prop := ∃ l' : List Ro, l'.Perm l ∧ Q l' ∧ Wt w' B R g c l' ∧ u_KeepB (fun k => k = g) w w'

set_option maxRecDepth 8000 in
set_option maxHeartbeats 8000000 in
theorem cUp (B R g c : Nat) (l : List Ro) (j : Nat) (w : World) (hW : Wt w B R g c l) (hj : j < l.length) (hU : UpOk (keyF l) l.length j) (hn : l.length ≤ 100000) :
    Calls Tryz.prog 129 #[.iface 139 (.pointer (some ⟨R, 0, none⟩)), .int .i64 (j : Int)] w fun e w' => e = .returned (.tuple #[]) ∧ HeapPost B R g c l (fun l' => HeapF (keyF l') l'.length) w w' := by
  have nl := fun wx => nil_less R wx
  have ns := fun wx => nil_swap R wx
  have HW := hid hW
  have HU := hid hU
  obtain ⟨n, hnn⟩ : ∃ n, l.length = n := ⟨_, rfl⟩
  have HN := hid hnn
  rw [hnn] at hj hn
  clear hW hU hnn
  go_enter Tryz.func129, Tryz.ntmps129
  go_wp2_with fail
  go_loopw [1] (fun v wr => ∃ (i : Nat) (m : List Ro), v = .int .i64 (i : Int) ∧ i < n ∧ Hid (m.length = n) ∧ Hid (m.Perm l) ∧ Hid (UpOk (keyF m) m.length i) ∧ Hid (Wt wr B R g c m) ∧ Hid (u_KeepB (fun k => k = g) w wr)) (fun v _ => (intOf v).toNat)
  case atStart => exact ⟨j, l, rfl, hj, HN.out, List.Perm.refl _, HU.out, HW.out, u_KeepB.refl _ _⟩
  case round =>
    clear HW HU hj HN
    obtain ⟨i, m, rfl, hi, HN, HP, HU, HW, HK⟩ := hrel
    by_cases h0 : i = 0
    case pos =>
      subst h0
      go_wp2_with fail
      go_end0
      exact ⟨rfl, m, HP.out, up_end HU.out (.inl rfl), HW.out, HK.out⟩
    obtain ⟨p, hp⟩ : ∃ p, (i - 1) / 2 = p := ⟨_, rfl⟩
    have hpi : p < i := by omega
    have hq : Int.tdiv ((i : Int) - 1) 2 = (p : Int) := by rw [Int.tdiv_eq_ediv_of_nonneg (by omega)]; omega
    have hw1 : IntKind.i64.wrap ((i : Int) - 1) = (i : Int) - 1 := IntWalk.i64_in _ (by omega)
    have hw2 : IntKind.i64.wrap (p : Int) = (p : Int) := IntWalk.i64_in _ (by omega)
    have hne : ¬ (p : Int) = (i : Int) := by omega
    have him : i < m.length := by rw [HN.out]; exact hi
    have hpm : p < m.length := by omega
    have HPI := hid (And.intro h0 hp)
    have ml := meth_less R _ wr (by rw [Lib.cell_of_heap HW.out.box]; rfl)
    have CL := hid (cWLess (some ⟨g, 0, none⟩) c m i p wr HW.out.row him hpm)
    have CS := hid (fun (wx : World) (h : Wt wx B R g c m) => (show RoRow wx (some ⟨g, 0, none⟩) m from h.row))
    rw [HN.out] at ml CL
    clear h0 hp
    obtain ⟨D, hD⟩ : ∃ D, decide (m[i].til < m[p].til) = D := ⟨_, rfl⟩
    have HD := hid hD
    rw [hD] at CL
    clear hD
    go_wp2_with fail
    refine CL.out.mono ?_
    rintro e w2 ⟨rfl, hb2⟩
    have HW2 := hid (HW.out.below hb2)
    have HK2 := hid (HK.out.trans (u_KeepB.of_below _ hb2))
    clear hb2 CL HK HW ml CS
    cases D with
    | false =>
      have HF := hid (show HeapF (keyF m) m.length from up_end HU.out (.inr (by
        have h1 := of_decide_eq_false HD.out
        rw [HPI.out.2, keyF_lt him, keyF_lt hpm]
        omega)))
      go_wp2_with fail
      go_end0
      exact ⟨rfl, m, HP.out, HF.out, HW2.out, HK2.out⟩
    | true =>
      have HF := hid (show UpOk (keyF (swR m p i hpm him)) (swR m p i hpm him).length p from by
        have h1 := of_decide_eq_true HD.out
        have h2 := up_step HU.out (by have := HPI.out.1; omega) him (by rw [HPI.out.2, keyF_lt him, keyF_lt hpm]; exact h1)
        rw [HPI.out.2] at h2
        rw [swR_key, swR_len, swF_comm]
        exact h2)
      have HP3 := hid ((swR_perm m p i hpm him).trans HP.out)
      have HN3 := hid ((swR_len m p i hpm him).trans HN.out)
      have HW3 := hid (HW2.out.swap p i hpm him)
      have HK3 := hid (HK2.out.trans (swW_keep w2 g p i m[p].id m[i].id m[p].til m[i].til))
      have ms := meth_swap R _ w2 (by rw [Lib.cell_of_heap HW2.out.box]; rfl)
      have hpn : p < n := by omega
      have CS := hid (by
        obtain ⟨cu, hh, hcu⟩ := HW2.out.cells (by omega)
        obtain ⟨q0, q1⟩ := hcu p hpm
        obtain ⟨q2, q3⟩ := hcu i him
        rw [Nat.zero_add] at q0 q1 q2 q3
        exact cWSwap g c n p i m[p].id m[i].id m[p].til m[i].til w2 (by rw [Lib.cell_of_heap hh]; exact q0) (by rw [Lib.cell_of_heap hh]; exact q1) (by rw [Lib.cell_of_heap hh]; exact q2) (by rw [Lib.cell_of_heap hh]; exact q3) (fun o => Lib.frozen_of_heap hh _) hpn hi)
      rw [HN.out] at ms
      clear HW2 HK2 HU HP HD
      go_wp2_with fail
      refine CS.out.mono ?_
      rintro e w3 ⟨rfl, rfl⟩
      have hpx := HPI.out
      clear ms CS
      go_wp2_with fail
      go_roundw
      case rel => exact ⟨p, _, rfl, hpn, HN3.out, HP3.out, HF.out, HW3.out, HK3.out⟩
      case measure => simp [intOf]; omega

end Go.Proofs.YtgdfeicojgnoaaaGreatDoor

namespace Go.Proofs.YtgdfeicojgnoaaaGreatDoor
open Go.RowKit
set_option linter.unusedVariables false
set_option linter.unusedSimpArgs false

theorem set0_heap {w : World} {R : Nat} {x v : Value} {T : TypeId} (h : w.heap[R]? = some (.cells #[x] T (0, 0))) : (w.setCell ⟨R, 0, none⟩ v).heap[R]? = some (.cells #[v] T (0, 0)) := by
  have h1 := u_heap_set (i := 0) h v
  simpa using h1

/-- The heap's box and its rows, an address or none. -/
structure Wn (w : World) (B R : Nat) (v : Value) (l : List Ro) : Prop where
  box : w.heap[R]? = some (.cells #[v] 137 (0, 0))
  own : w.ownsRow B 83 2 v l.length (roC l)

theorem Wn.below {w w' : World} {B R : Nat} {v : Value} {l : List Ro} (h : Wn w B R v l) (hb : Below w.heap.size w w') : Wn w' B R v l := ⟨u_blk_below h.box hb, ownsRow_below h.own hb⟩

theorem u_box1c {w : World} {g : Nat} {x : Value} {T : TypeId} (h : w.heap[g]? = some (.cells #[x] T (0, 0))) : w.cell? ⟨g, 0, none⟩ = some x := by
  rw [Lib.cell_of_heap h]
  rfl

theorem u_box1f {w : World} {g : Nat} {x : Value} {T : TypeId} (h : w.heap[g]? = some (.cells #[x] T (0, 0))) : w.frozen? ⟨g, 0, none⟩ = false := Lib.frozen_of_heap h _

set_option maxRecDepth 8000 in
/-- One row more behind all, as a run. -/
theorem push_app {B R : Nat} {v : Value} {l : List Ro} {W : World} (x : ByteArray) (y : Int) (hW : Wn W B R v l) (hB : B ≤ W.heap.size) (hl : l.length ≤ 100000) :
    ∃ a8 c8 w8, (Builtin.append_ #[137, 137] 137 #[v, .slice (some ⟨W.heap.size, 0, none⟩) 1 1]).run Tryz.prog (W.alloc (.cells #[.string x, .int .i64 y] 83)) = .ok (.slice a8 (l.length + 1) c8) w8
      ∧ w8.ownsRow B 83 2 (.slice a8 (l.length + 1) c8) (l.length + 1) (roC (l ++ [⟨x, y⟩])) ∧ (W.alloc (.cells #[.string x, .int .i64 y] 83)).grownBy w8 v.ownBlock := by
  obtain ⟨i0, hi0, hz0, hz1, hz2⟩ := info_parts infoRoW
  have hb := (Below.refl W.heap.size W).alloc (Nat.le_refl _) (.cells #[.string x, .int .i64 y] 83)
  have ho6 := ownsRow_below hW.own hb
  obtain ⟨b', o', c', e', _, _, h4⟩ := (u_Rd.new W 83 2 (roC [⟨x, y⟩]) 1 rfl).at_
  cases e'
  obtain ⟨v8, w8, hrun, r1, r2, _, _⟩ := run_append_own_at (P := Tryz.prog) (W.alloc (.cells #[.string x, .int .i64 y] 83)) B 137 137 83 i0 _ 2 24 Tryz.underlying137 hi0 hz0 hz1 hz2 rfl (by decide) v l.length (roC l) ho6 ⟨W.heap.size, 0, none⟩ 1 1 (roC [⟨x, y⟩]) rfl (fun j u hj => by rw [u_add_plainW]; exact h4 j u hj) (roC_one _) (by unfold maxLen; omega) (by omega) (by have := hb.size; omega)
  obtain ⟨a8, c8, rfl⟩ := u_own_len r1
  exact ⟨a8, c8, w8, hrun, by rw [roC_app]; exact r1, r2⟩

set_option maxRecDepth 8000 in
set_option maxHeartbeats 4000000 in
theorem cWPush (B R : Nat) (v : Value) (l : List Ro) (x : ByteArray) (y : Int) (w : World) (hW : Wn w B R v l) (hB : B ≤ w.heap.size) (hRB : R < B) (hl : l.length ≤ 100000) :
    Calls Tryz.prog 191 #[.pointer (some ⟨R, 0, none⟩), .iface 83 (.agg #[.string x, .int .i64 y])] w fun e w' => e = .returned (.tuple #[]) ∧ ∃ v', Wn w' B R v' (l ++ [⟨x, y⟩]) ∧ Below R w w' := by
  have HX := hid (heap_alloc_new w (.cells #[.string x, .int .i64 y] 83))
  have HB0 := hid ((Below.refl w.heap.size w).alloc (Nat.le_refl _) (.cells #[.string x, .int .i64 y] 83))
  have HW := hid (hW.below HB0.out)
  clear hW
  have ta : ∀ w, (Instr.typeAssert (.iface 83 (.agg #[.string x, .int .i64 y])) 20 83 true).run Tryz.prog w = .ok (.tuple #[.agg #[.string x, .int .i64 y], .bool true]) w := fun _ => by kernel_rfl
  go_enter Tryz.func191, Tryz.ntmps191
  go_wp2_with fail
  have HSd := hid (HW.out.below ((Below.refl _ _).drew))
  obtain ⟨w4, hw4⟩ : ∃ W, w.alloc (.cells #[.string x, .int .i64 y] 83) = W := ⟨_, rfl⟩
  rw [hw4] at HX HB0 HW HSd
  try simp only [hw4]
  clear hw4
  obtain ⟨X, hX⟩ : ∃ X, w.heap.size = X := ⟨_, rfl⟩
  rw [hX] at HX
  try simp only [hX]
  have HXd := hid (u_blk_below HX.out ((Below.refl w4.heap.size w4).drew))
  have HRx := hid (show R < X by omega)
  have HBd := hid ((Below.refl w4.drew.heap.size w4.drew).alloc (Nat.le_refl _) (.cells #[.string x, .int .i64 y] 83))
  have HBe := hid ((Below.refl w4.heap.size w4).alloc (Nat.le_refl _) (.cells #[.string x, .int .i64 y] 83))
  obtain ⟨⟨p0, p1⟩, p2, p3⟩ := u_box2f HXd.out
  have q0 := u_box1c HSd.out.box
  have q1 := u_box1c (u_blk_below HSd.out.box HBd.out)
  have q2 := u_box1c (u_blk_below HW.out.box HBe.out)
  have q3 := u_box1c HW.out.box
  obtain ⟨⟨d0, d1⟩, d2, d3⟩ := u_box2f HX.out
  have HPA := hid (push_app (B := B) x y HSd.out (Nat.le_trans hB (Nat.le_trans HB0.out.size ((Below.refl w4.heap.size w4).drew).size)) hl)
  go_region_law (obtain ⟨a9, c9, w9, hrun, ho9, hg9⟩ := HPA.out
                 refine u_step_app rfl (.tmp 15) (.tmp 17) 137 137 rfl v (.slice (some ⟨w4.drew.heap.size, 0, none⟩) 1 1) (by simp [Act.eval, Act.put]) (by simp [Act.eval, Act.put]) hrun ?_
                 have HO9 := hid ho9
                 have HG9 := hid hg9
                 have hbx := u_blk_below HSd.out.box HBd.out
                 have q5 := u_box1c ((hg9.block R (lt_of_heap hbx) (fun e => by have := (HSd.out.own.lt R e.symm).1; omega)).trans hbx)
                 have q6 := u_box1f ((hg9.block R (lt_of_heap hbx) (fun e => by have := (HSd.out.own.lt R e.symm).1; omega)).trans hbx)
                 clear hrun ho9 hg9)
  all_goals
    go_wp2_with fail
    go_end0
    have hbx := u_blk_below HSd.out.box HBd.out
    have hb9 := (HG9.out.block R (lt_of_heap hbx) (fun e => by have := (HSd.out.own.lt R e.symm).1; omega)).trans hbx
    have hne : (Value.slice a9 (l.length + 1) c9).ownBlock ≠ some R := fun e => by have := (HO9.out.lt R e).1; omega
    have hA : Below w.heap.size w (w4.drew.alloc (.cells #[.string x, .int .i64 y] 83)) := bb HB0.out (bb ((Below.refl w4.heap.size w4).drew) HBd.out)
    have hRw : R ≤ w.heap.size := by omega
    have hC : Below R w w9 := (hA.mono hRw).grown HG9.out (Nat.le_trans hRw hA.size) (fun k e => by have := (HSd.out.own.lt k e).1; omega)
    refine ⟨rfl, .slice a9 (l.length + 1) c9, ⟨?_, ?_⟩, hC.setCell (Nat.le_refl R) _⟩
    · exact set0_heap hb9
    · rw [List.length_append]
      exact u_own_set HO9.out hne _ _

end Go.Proofs.YtgdfeicojgnoaaaGreatDoor

namespace Go.Proofs.YtgdfeicojgnoaaaGreatDoor
open Go.RowKit
set_option linter.unusedVariables false
set_option linter.unusedSimpArgs false

instance : Inhabited Ro := ⟨⟨ByteArray.empty, 0⟩⟩

def encR (x : Ro) : List Value := [.string x.id, .int .i64 x.til]
def cmpR (x y : Ro) : Int := cmpU x.id y.id

theorem ltR (x y : Ro) : ltOf cmpR x y = u_ltB x.id y.id := by
  unfold ltOf cmpR
  cases h : u_ltB x.id y.id with
  | true => rw [cmpU_lt h]; rfl
  | false => exact decide_eq_false (cmpU_ge h)

theorem swoR : Go.Sort.SWO (ltOf cmpR) where
  irrefl x := by rw [ltR]; exact u_ltB_irr _
  trans x y z h1 h2 := by
    rw [ltR] at *
    exact u_ltB_trans h1 h2
  ntrans x y z h1 h2 := by
    rw [ltR] at *
    cases h3 : u_ltB x.id z.id with
    | false => rfl
    | true =>
      cases h4 : u_ltB y.id x.id with
      | true => rw [u_ltB_trans h4 h3] at h2; cases h2
      | false =>
        have e := u_ltB_tri h1 h4
        rw [e, h2] at h3
        cases h3

theorem cByIdG (x y : Ro) (W : World) : Calls Tryz.prog 78 #[.agg #[.string x.id, .int .i64 x.til], .agg #[.string y.id, .int .i64 y.til]] W fun e w' => e = .returned (.int .i64 (cmpR x y)) ∧ ∃ q os', w' = Go.Sort.grow (W.drewN q) os' := by
  have C := hid (fun wx => Tryz.strings_Compare x.id y.id wx)
  unfold cmpR cmpU
  generalize Lib.compareBytes x.id.data.toList y.id.data.toList = V at *
  go_enter Tryz.func78, Tryz.ntmps78
  go_wp2_with fail
  refine (C.out _).mono ?_
  rintro e w1 ⟨rfl, rfl⟩
  go_wp2_with fail
  go_ret
  exact ⟨rfl, 0, _, by rw [Go.Sort.alloc_eq_grow, Go.Sort.alloc_eq_grow, Go.Sort.grow_grow]; rfl⟩

theorem cmpLaysR (blk off size : Nat) (w : World) : CmpLays Tryz.prog 78 #[] encR 2 cmpR blk off size w :=
  fun _ _ _ _ x y => cByIdG x y _

theorem arr_get! {l : List Ro} {j : Nat} (h : j < l.length) : l.toArray[j]! = l[j] := by
  rw [getElem!_pos l.toArray j (by simpa using h)]
  simp

theorem holdsR {w : World} {g : Nat} {cu : Array Value} {T : TypeId} {l : List Ro} (hh : w.heap[g]? = some (.cells cu T (0, 0))) (hc : RoCells cu 0 l) : Go.Sort.HoldsK encR 2 w g 0 l.toArray := by
  intro j hj
  rw [Go.Sort.size_flatK] at hj
  have hj2 : j < l.length * 2 := by simpa using hj
  refine ⟨?_, Lib.frozen_of_heap hh _⟩
  rw [Go.Sort.get_flatK _ _ _ _ hj, Lib.cell_of_heap hh]
  have hq : j / 2 < l.length := by omega
  obtain ⟨c0, c1⟩ := hc (j / 2) hq
  rw [arr_get! hq]
  rcases Nat.mod_two_eq_zero_or_one j with h | h
  · have e : j / 2 * 2 = j := by omega
    rw [e] at c0
    rw [h]
    exact c0
  · have e : 0 + j / 2 * 2 + 1 = 0 + j := by omega
    rw [e] at c1
    rw [h]
    exact c1

/-- Of what stays as it was when rows are put. -/
theorem sorted_keep (w : World) (g m : Nat) (d : Array Ro) (os : Array Obj) : u_KeepB (fun k => k = g) w (sortWorldK encR 2 w g 0 m d os) := by
  refine ⟨rfl, rfl, rfl, ?_, fun k hk hne => ?_⟩
  · show w.heap.size ≤ (w.heap.modify g _ ++ os).size
    simp
  · show (w.heap.modify g _ ++ os)[k]? = _
    rw [Array.getElem?_append_left (by simpa using hk), Array.getElem?_modify, if_neg (fun e => hne e.symm)]

theorem sorted_heap {w : World} {g : Nat} {cu : Array Value} {T : TypeId} (m : Nat) (d : Array Ro) (os : Array Obj) (hh : w.heap[g]? = some (.cells cu T (0, 0))) : ∃ cu', (sortWorldK encR 2 w g 0 m d os).heap[g]? = some (.cells cu' T (0, 0)) := by
  have hk := lt_of_heap hh
  refine ⟨Go.Sort.putCells id 0 (Go.Sort.flatK encR 2 d) cu, ?_⟩
  show (w.heap.modify g _ ++ os)[g]? = _
  rw [Array.getElem?_append_left (by simpa using hk), Array.getElem?_modify, if_pos rfl, hh]
  rfl

theorem sorted_rows {l m : List Ro} (hm : m.Pairwise (fun x y => u_ltB x.id y.id = true)) (hp : l.Perm m) {d' : Array Ro} (h1 : Go.Sort.PermIn 0 l.toArray.size l.toArray d') (h2 : Go.Sort.SortedIn (ltOf cmpR) 0 l.toArray.size d') : d'.toList = m := by
  obtain ⟨s1, _, s3⟩ := h1
  have hd : d'.toList.Perm l := by
    rw [← s1] at s3
    simp only [Array.extract_size] at s3
    rw [s1] at s3
    simpa using s3
  have hdm := hd.trans hp
  refine up_eq ?_ hm hdm
  have hne : m.Pairwise (fun x y => ¬ x.id = y.id) := hm.imp fun {x y} h e => by rw [e, u_ltB_irr] at h; cases h
  have hne2 : d'.toList.Pairwise (fun x y => ¬ x.id = y.id) := (hdm.pairwise_iff (fun {x y} h e => h e.symm)).2 hne
  rw [List.pairwise_iff_getElem] at hne2 ⊢
  intro i j hi hj hij
  have hi' : i < d'.size := by simpa using hi
  have hj' : j < d'.size := by simpa using hj
  have h3 := h2 i j (Nat.zero_le _) hij (by rw [← s1]; exact hj')
  rw [ltR, getElem!_pos d' j hj', getElem!_pos d' i hi'] at h3
  have h4 := hne2 i j hi hj hij
  simp only [Array.getElem_toList] at h4 ⊢
  cases h5 : u_ltB d'[i].id d'[j].id with
  | true => rfl
  | false => exact absurd (u_ltB_tri h5 h3) h4

theorem sorted_cells {w' : World} {g : Nat} {cu : Array Value} {T : TypeId} {d : Array Ro} (hh : w'.heap[g]? = some (.cells cu T (0, 0))) (hH : Go.Sort.HoldsK encR 2 w' g 0 d) : RoCells cu 0 d.toList := by
  intro j hj
  have hj' : j < d.size := by simpa using hj
  have c0 := (hH.cell (c := 0) hj' (by decide)).1
  have c1 := (hH.cell (c := 1) hj' (by decide)).1
  rw [Lib.cell_of_heap hh, getElem!_pos d j hj'] at c0 c1
  exact ⟨c0, c1⟩

end Go.Proofs.YtgdfeicojgnoaaaGreatDoor
