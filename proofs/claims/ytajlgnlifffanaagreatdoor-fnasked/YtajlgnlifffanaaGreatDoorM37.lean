/- The heap of rows: Push. slices.SortFunc over rows by their ids: the mathematics. The heap of rows: Pop. -/
import Derived.Test.YtajlgnlifffanaaGreatDoorM36
import Derived.Test.YtajlgnlifffanaaGreatDoorM9
import Derived.Test.YtajlgnlifffanaaGreatDoorM6
import Derived.Test.YtajlgnlifffanaaGreatDoorM19
import Derived.Shelf.SlSortCmp.KitK
namespace Go.Proofs.YtajlgnlifffanaaGreatDoor
open Go.RowKit
set_option linter.unusedVariables false
set_option linter.unusedSimpArgs false

theorem set0_heap {w : World} {R : Nat} {x v : Value} {T : TypeId} (h : w.heap[R]? = some (.cells #[x] T (0, 0))) : (w.setCell ⟨R, 0, none⟩ v).heap[R]? = some (.cells #[v] T (0, 0)) := by
  have h1 := u_heap_set (i := 0) h v
  simpa using h1

/-- The heap's box and its rows, an address or none. -/
structure Wn (w : World) (B R : Nat) (v : Value) (l : List Ro) : Prop where
  box : w.heap[R]? = some (.cells #[v] 137 (0, 0))
  own : w.ownsRow B 83 2 v l.length (roC l)

theorem Wn.below {w w' : World} {B R : Nat} {v : Value} {l : List Ro} (h : Wn w B R v l) (hb : Below w.heap.size w w') : Wn w' B R v l := ⟨u_blk_below h.box hb, ownsRow_below h.own hb⟩

theorem u_box1c {w : World} {g : Nat} {x : Value} {T : TypeId} (h : w.heap[g]? = some (.cells #[x] T (0, 0))) : w.cell? ⟨g, 0, none⟩ = some x := by
  rw [Lib.cell_of_heap h]
  rfl

theorem u_box1f {w : World} {g : Nat} {x : Value} {T : TypeId} (h : w.heap[g]? = some (.cells #[x] T (0, 0))) : w.frozen? ⟨g, 0, none⟩ = false := Lib.frozen_of_heap h _

set_option maxRecDepth 8000 in
/-- One row more behind all, as a run. -/
theorem push_app {B R : Nat} {v : Value} {l : List Ro} {W : World} (x : ByteArray) (y : Int) (hW : Wn W B R v l) (hB : B ≤ W.heap.size) (hl : l.length ≤ 100000) :
    ∃ a8 c8 w8, (Builtin.append_ #[137, 137] 137 #[v, .slice (some ⟨W.heap.size, 0, none⟩) 1 1]).run Tryz.prog (W.alloc (.cells #[.string x, .int .i64 y] 83)) = .ok (.slice a8 (l.length + 1) c8) w8
      ∧ w8.ownsRow B 83 2 (.slice a8 (l.length + 1) c8) (l.length + 1) (roC (l ++ [⟨x, y⟩])) ∧ (W.alloc (.cells #[.string x, .int .i64 y] 83)).grownBy w8 v.ownBlock := by
  obtain ⟨i0, hi0, hz0, hz1, hz2⟩ := info_parts infoRoW
  have hb := (Below.refl W.heap.size W).alloc (Nat.le_refl _) (.cells #[.string x, .int .i64 y] 83)
  have ho6 := ownsRow_below hW.own hb
  obtain ⟨b', o', c', e', _, _, h4⟩ := (u_Rd.new W 83 2 (roC [⟨x, y⟩]) 1 rfl).at_
  cases e'
  obtain ⟨v8, w8, hrun, r1, r2, _, _⟩ := run_append_own_at (P := Tryz.prog) (W.alloc (.cells #[.string x, .int .i64 y] 83)) B 137 137 83 i0 _ 2 24 Tryz.underlying137 hi0 hz0 hz1 hz2 rfl (by decide) v l.length (roC l) ho6 ⟨W.heap.size, 0, none⟩ 1 1 (roC [⟨x, y⟩]) rfl (fun j u hj => by rw [u_add_plainW]; exact h4 j u hj) (roC_one _) (by unfold maxLen; omega) (by omega) (by have := hb.size; omega)
  obtain ⟨a8, c8, rfl⟩ := u_own_len r1
  exact ⟨a8, c8, w8, hrun, by rw [roC_app]; exact r1, r2⟩

set_option maxRecDepth 8000 in
set_option maxHeartbeats 4000000 in
theorem cWPush (B R : Nat) (v : Value) (l : List Ro) (x : ByteArray) (y : Int) (w : World) (hW : Wn w B R v l) (hB : B ≤ w.heap.size) (hRB : R < B) (hl : l.length ≤ 100000) :
    Calls Tryz.prog 191 #[.pointer (some ⟨R, 0, none⟩), .iface 83 (.agg #[.string x, .int .i64 y])] w fun e w' => e = .returned (.tuple #[]) ∧ ∃ v', Wn w' B R v' (l ++ [⟨x, y⟩]) ∧ Below R w w' := by
  have HX := hid (heap_alloc_new w (.cells #[.string x, .int .i64 y] 83))
  have HB0 := hid ((Below.refl w.heap.size w).alloc (Nat.le_refl _) (.cells #[.string x, .int .i64 y] 83))
  have HW := hid (hW.below HB0.out)
  clear hW
  have ta : ∀ w, (Instr.typeAssert (.iface 83 (.agg #[.string x, .int .i64 y])) 20 83 true).run Tryz.prog w = .ok (.tuple #[.agg #[.string x, .int .i64 y], .bool true]) w := fun _ => by kernel_rfl
  go_enter Tryz.func191, Tryz.ntmps191
  go_wp2_with fail
  have HSd := hid (HW.out.below ((Below.refl _ _).drew))
  obtain ⟨w4, hw4⟩ : ∃ W, w.alloc (.cells #[.string x, .int .i64 y] 83) = W := ⟨_, rfl⟩
  rw [hw4] at HX HB0 HW HSd
  try simp only [hw4]
  clear hw4
  obtain ⟨X, hX⟩ : ∃ X, w.heap.size = X := ⟨_, rfl⟩
  rw [hX] at HX
  try simp only [hX]
  have HXd := hid (u_blk_below HX.out ((Below.refl w4.heap.size w4).drew))
  have HRx := hid (show R < X by omega)
  have HBd := hid ((Below.refl w4.drew.heap.size w4.drew).alloc (Nat.le_refl _) (.cells #[.string x, .int .i64 y] 83))
  have HBe := hid ((Below.refl w4.heap.size w4).alloc (Nat.le_refl _) (.cells #[.string x, .int .i64 y] 83))
  obtain ⟨⟨p0, p1⟩, p2, p3⟩ := u_box2f HXd.out
  have q0 := u_box1c HSd.out.box
  have q1 := u_box1c (u_blk_below HSd.out.box HBd.out)
  have q2 := u_box1c (u_blk_below HW.out.box HBe.out)
  have q3 := u_box1c HW.out.box
  obtain ⟨⟨d0, d1⟩, d2, d3⟩ := u_box2f HX.out
  have HPA := hid (push_app (B := B) x y HSd.out (Nat.le_trans hB (Nat.le_trans HB0.out.size ((Below.refl w4.heap.size w4).drew).size)) hl)
  go_region_law (obtain ⟨a9, c9, w9, hrun, ho9, hg9⟩ := HPA.out
                 refine u_step_app rfl (.tmp 15) (.tmp 17) 137 137 rfl v (.slice (some ⟨w4.drew.heap.size, 0, none⟩) 1 1) (by simp [Act.eval, Act.put]) (by simp [Act.eval, Act.put]) hrun ?_
                 have HO9 := hid ho9
                 have HG9 := hid hg9
                 have hbx := u_blk_below HSd.out.box HBd.out
                 have q5 := u_box1c ((hg9.block R (lt_of_heap hbx) (fun e => by have := (HSd.out.own.lt R e.symm).1; omega)).trans hbx)
                 have q6 := u_box1f ((hg9.block R (lt_of_heap hbx) (fun e => by have := (HSd.out.own.lt R e.symm).1; omega)).trans hbx)
                 clear hrun ho9 hg9)
  all_goals
    go_wp2_with fail
    go_end0
    have hbx := u_blk_below HSd.out.box HBd.out
    have hb9 := (HG9.out.block R (lt_of_heap hbx) (fun e => by have := (HSd.out.own.lt R e.symm).1; omega)).trans hbx
    have hne : (Value.slice a9 (l.length + 1) c9).ownBlock ≠ some R := fun e => by have := (HO9.out.lt R e).1; omega
    have hA : Below w.heap.size w (w4.drew.alloc (.cells #[.string x, .int .i64 y] 83)) := bb HB0.out (bb ((Below.refl w4.heap.size w4).drew) HBd.out)
    have hRw : R ≤ w.heap.size := by omega
    have hC : Below R w w9 := (hA.mono hRw).grown HG9.out (Nat.le_trans hRw hA.size) (fun k e => by have := (HSd.out.own.lt k e).1; omega)
    refine ⟨rfl, .slice a9 (l.length + 1) c9, ⟨?_, ?_⟩, hC.setCell (Nat.le_refl R) _⟩
    · exact set0_heap hb9
    · rw [List.length_append]
      exact u_own_set HO9.out hne _ _

end Go.Proofs.YtajlgnlifffanaaGreatDoor

namespace Go.Proofs.YtajlgnlifffanaaGreatDoor
open Go.RowKit
set_option linter.unusedVariables false
set_option linter.unusedSimpArgs false

instance : Inhabited Ro := ⟨⟨ByteArray.empty, 0⟩⟩

def encR (x : Ro) : List Value := [.string x.id, .int .i64 x.til]
def cmpR (x y : Ro) : Int := cmpU x.id y.id

theorem ltR (x y : Ro) : ltOf cmpR x y = u_ltB x.id y.id := by
  unfold ltOf cmpR
  cases h : u_ltB x.id y.id with
  | true => rw [cmpU_lt h]; rfl
  | false => exact decide_eq_false (cmpU_ge h)

theorem swoR : Go.Sort.SWO (ltOf cmpR) where
  irrefl x := by rw [ltR]; exact u_ltB_irr _
  trans x y z h1 h2 := by
    rw [ltR] at *
    exact u_ltB_trans h1 h2
  ntrans x y z h1 h2 := by
    rw [ltR] at *
    cases h3 : u_ltB x.id z.id with
    | false => rfl
    | true =>
      cases h4 : u_ltB y.id x.id with
      | true => rw [u_ltB_trans h4 h3] at h2; cases h2
      | false =>
        have e := u_ltB_tri h1 h4
        rw [e, h2] at h3
        cases h3

theorem cByIdG (x y : Ro) (W : World) : Calls Tryz.prog 78 #[.agg #[.string x.id, .int .i64 x.til], .agg #[.string y.id, .int .i64 y.til]] W fun e w' => e = .returned (.int .i64 (cmpR x y)) ∧ ∃ q os', w' = Go.Sort.grow (W.drewN q) os' := by
  have C := hid (fun wx => Tryz.strings_Compare x.id y.id wx)
  unfold cmpR cmpU
  generalize Lib.compareBytes x.id.data.toList y.id.data.toList = V at *
  go_enter Tryz.func78, Tryz.ntmps78
  go_wp2_with fail
  refine (C.out _).mono ?_
  rintro e w1 ⟨rfl, rfl⟩
  go_wp2_with fail
  go_ret
  exact ⟨rfl, 0, _, by rw [Go.Sort.alloc_eq_grow, Go.Sort.alloc_eq_grow, Go.Sort.grow_grow]; rfl⟩

theorem cmpLaysR (blk off size : Nat) (w : World) : CmpLays Tryz.prog 78 #[] encR 2 cmpR blk off size w :=
  fun _ _ _ _ x y => cByIdG x y _

theorem arr_get! {l : List Ro} {j : Nat} (h : j < l.length) : l.toArray[j]! = l[j] := by
  rw [getElem!_pos l.toArray j (by simpa using h)]
  simp

theorem holdsR {w : World} {g : Nat} {cu : Array Value} {T : TypeId} {l : List Ro} (hh : w.heap[g]? = some (.cells cu T (0, 0))) (hc : RoCells cu 0 l) : Go.Sort.HoldsK encR 2 w g 0 l.toArray := by
  intro j hj
  rw [Go.Sort.size_flatK] at hj
  have hj2 : j < l.length * 2 := by simpa using hj
  refine ⟨?_, Lib.frozen_of_heap hh _⟩
  rw [Go.Sort.get_flatK _ _ _ _ hj, Lib.cell_of_heap hh]
  have hq : j / 2 < l.length := by omega
  obtain ⟨c0, c1⟩ := hc (j / 2) hq
  rw [arr_get! hq]
  rcases Nat.mod_two_eq_zero_or_one j with h | h
  · have e : j / 2 * 2 = j := by omega
    rw [e] at c0
    rw [h]
    exact c0
  · have e : 0 + j / 2 * 2 + 1 = 0 + j := by omega
    rw [e] at c1
    rw [h]
    exact c1

/-- Of what stays as it was when rows are put. -/
theorem sorted_keep (w : World) (g m : Nat) (d : Array Ro) (os : Array Obj) : u_KeepB (fun k => k = g) w (sortWorldK encR 2 w g 0 m d os) := by
  refine ⟨rfl, rfl, rfl, ?_, fun k hk hne => ?_⟩
  · show w.heap.size ≤ (w.heap.modify g _ ++ os).size
    simp
  · show (w.heap.modify g _ ++ os)[k]? = _
    rw [Array.getElem?_append_left (by simpa using hk), Array.getElem?_modify, if_neg (fun e => hne e.symm)]

theorem sorted_heap {w : World} {g : Nat} {cu : Array Value} {T : TypeId} (m : Nat) (d : Array Ro) (os : Array Obj) (hh : w.heap[g]? = some (.cells cu T (0, 0))) : ∃ cu', (sortWorldK encR 2 w g 0 m d os).heap[g]? = some (.cells cu' T (0, 0)) := by
  have hk := lt_of_heap hh
  refine ⟨Go.Sort.putCells id 0 (Go.Sort.flatK encR 2 d) cu, ?_⟩
  show (w.heap.modify g _ ++ os)[g]? = _
  rw [Array.getElem?_append_left (by simpa using hk), Array.getElem?_modify, if_pos rfl, hh]
  rfl

theorem sorted_rows {l m : List Ro} (hm : m.Pairwise (fun x y => u_ltB x.id y.id = true)) (hp : l.Perm m) {d' : Array Ro} (h1 : Go.Sort.PermIn 0 l.toArray.size l.toArray d') (h2 : Go.Sort.SortedIn (ltOf cmpR) 0 l.toArray.size d') : d'.toList = m := by
  obtain ⟨s1, _, s3⟩ := h1
  have hd : d'.toList.Perm l := by
    rw [← s1] at s3
    simp only [Array.extract_size] at s3
    rw [s1] at s3
    simpa using s3
  have hdm := hd.trans hp
  refine up_eq ?_ hm hdm
  have hne : m.Pairwise (fun x y => ¬ x.id = y.id) := hm.imp fun {x y} h e => by rw [e, u_ltB_irr] at h; cases h
  have hne2 : d'.toList.Pairwise (fun x y => ¬ x.id = y.id) := (hdm.pairwise_iff (fun {x y} h e => h e.symm)).2 hne
  rw [List.pairwise_iff_getElem] at hne2 ⊢
  intro i j hi hj hij
  have hi' : i < d'.size := by simpa using hi
  have hj' : j < d'.size := by simpa using hj
  have h3 := h2 i j (Nat.zero_le _) hij (by rw [← s1]; exact hj')
  rw [ltR, getElem!_pos d' j hj', getElem!_pos d' i hi'] at h3
  have h4 := hne2 i j hi hj hij
  simp only [Array.getElem_toList] at h4 ⊢
  cases h5 : u_ltB d'[i].id d'[j].id with
  | true => rfl
  | false => exact absurd (u_ltB_tri h5 h3) h4

theorem sorted_cells {w' : World} {g : Nat} {cu : Array Value} {T : TypeId} {d : Array Ro} (hh : w'.heap[g]? = some (.cells cu T (0, 0))) (hH : Go.Sort.HoldsK encR 2 w' g 0 d) : RoCells cu 0 d.toList := by
  intro j hj
  have hj' : j < d.size := by simpa using hj
  have c0 := (hH.cell (c := 0) hj' (by decide)).1
  have c1 := (hH.cell (c := 1) hj' (by decide)).1
  rw [Lib.cell_of_heap hh, getElem!_pos d j hj'] at c0 c1
  exact ⟨c0, c1⟩

end Go.Proofs.YtajlgnlifffanaaGreatDoor

namespace Go.Proofs.YtajlgnlifffanaaGreatDoor
open Go.RowKit
set_option linter.unusedVariables false
set_option linter.unusedSimpArgs false

theorem Wt.cap {w : World} {B R g c : Nat} {l : List Ro} (h : Wt w B R g c l) : l.length ≤ c := by
  rcases h.own.2 with ⟨e1, _⟩ | ⟨g2, cp, cur, e1, k1, k2, k3, k4, k5, k6⟩
  · cases e1
  · cases e1
    exact k3

theorem roC_cut (l : List Ro) (n : Nat) : (roC l).take (n * 2) = roC (l.take n) := by
  have e : roC l = roC (l.take n) ++ roC (l.drop n) := by rw [← roC_app, List.take_append_drop]
  rcases Nat.lt_or_ge n l.length with h | h
  · rw [e, List.take_append_of_le_length (by rw [roC_len, List.length_take]; omega), List.take_of_length_le (by rw [roC_len, List.length_take]; omega)]
  · rw [List.take_of_length_le (by rw [roC_len]; omega), List.take_of_length_le h]

theorem own_cut {w : World} {B g c n : Nat} {l : List Ro} (h : w.ownsRow B 83 2 (.slice (some ⟨g, 0, none⟩) l.length c) l.length (roC l)) (hl : l.length = n + 1) : w.ownsRow B 83 2 (.slice (some ⟨g, 0, none⟩) n c) n (roC (l.take n)) := by
  rcases h.2 with ⟨e1, _⟩ | ⟨g2, cp, cur, e1, k1, k2, k3, k4, k5, k6⟩
  · cases e1
  · cases e1
    refine ⟨by rw [roC_len, List.length_take]; congr 1; omega, .inr ⟨g, c, cur, rfl, k1, k2, by omega, k4, k5, ?_⟩⟩
    rw [← roC_cut, ← k6, List.take_take]
    congr 1
    omega

set_option maxRecDepth 8000 in
set_option maxHeartbeats 4000000 in
theorem cWPop (B R g c n : Nat) (l : List Ro) (w : World) (hW : Wt w B R g c l) (hl : l.length = n + 1) (hRB : R < B) (hB : B ≤ w.heap.size) (hn : l.length ≤ 100000) :
    Calls Tryz.prog 190 #[.pointer (some ⟨R, 0, none⟩)] w fun e w' => ∃ v : Value, e = .returned v ∧ Wt w' B R g c (l.take n) ∧ Below R w w' := by
  have hc := hW.cap
  have HO := hid (own_cut hW.own hl)
  have HLN := hid (show (l.take n).length = n by rw [List.length_take]; omega)
  obtain ⟨b, o, e0, hb, c1, c2⟩ := hW.row n (by omega)
  cases e0
  rw [Nat.zero_add] at c1 c2
  generalize (l[n]'(by omega)).id = x at *
  generalize (l[n]'(by omega)).til = y at *
  have HBX := hid hW.box
  have hne := hW.ne
  have q0 := u_box1c hW.box
  have q1 := u_box1f hW.box
  rw [hl] at hc q0 HBX
  have e1 : ((n + 1 : Nat) : Int) = (n : Int) + 1 := rfl
  have hw1 : IntKind.i64.wrap (n : Int) = (n : Int) := IntWalk.i64_in _ (by omega)
  have h1 : (n : Int) < (n : Int) + 1 := by omega
  have HB0 := hid ((Below.refl w.heap.size w).alloc (Nat.le_refl _) (.cells #[.string x, .int .i64 y] 83))
  have q2 := u_box1c (u_blk_below HBX.out HB0.out)
  have q3 := u_box1f (u_blk_below HBX.out HB0.out)
  go_enter Tryz.func190, Tryz.ntmps190
  go_wp2_with fail
  have HF := hid (show Wt ((w.alloc (.cells #[.string x, .int .i64 y] 83)).setCell ⟨R, 0, none⟩ (.slice (some ⟨g, 0, none⟩) n c)) B R g c (l.take n) ∧ Below R w ((w.alloc (.cells #[.string x, .int .i64 y] 83)).setCell ⟨R, 0, none⟩ (.slice (some ⟨g, 0, none⟩) n c)) from by
    refine ⟨⟨?_, ?_⟩, (HB0.out.mono (by omega)).setCell (Nat.le_refl R) _⟩
    · rw [HLN.out]
      exact set0_heap (u_blk_below HBX.out HB0.out)
    · rw [HLN.out]
      exact u_own_set (ownsRow_below HO.out HB0.out) (fun e => hne (Option.some.inj e)) _ _)
  go_ret
  first | exact HF.out | exact ⟨_, rfl, HF.out⟩ | exact ⟨⟨_, rfl⟩, HF.out⟩

end Go.Proofs.YtajlgnlifffanaaGreatDoor
