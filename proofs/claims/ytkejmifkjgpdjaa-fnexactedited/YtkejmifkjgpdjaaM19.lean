/- Rows of the call's own: append within a region that draws, what stays where another row grows. Contracts of the pile of numbers: taken off, laid on, down to. What lies on the pile while a tree is looked at (plain mathematics). -/
import Derived.Test.YtkejmifkjgpdjaaM18
import Derived.Test.YtkejmifkjgpdjaaM10
import Derived.Maps.AppendAt
import Derived.Deep.Upon
namespace Go.Proofs.Ytkejmifkjgpdjaa
open Go.RowKit
set_option linter.unusedVariables false
set_option linter.unusedSimpArgs false

/-- append onto a row of the call's own, as one step of a region that draws its order. -/
theorem step_app_at {P : Program} {ops : Array Oper} {o : Oper} {a : Act} {w : World} {K : Act → World → Prop} {Q : Exit → Act → World → Prop} {E : Prop}
    (hg : o.guard = none) (s x : Operand) (t : TypeId) (hop : o.op = Op.call { callee := Callee.builtin Builtin.append, args := #[s, x], argTypes := #[t, t] })
    (base : Nat) (e : TypeId) (i : TypeInfo) (z : Value) (size bytes : Nat) (h1 : P.underlying t = some (.slice e)) (h2 : P.info? e = some i) (h3 : i.zero = some z) (h4 : i.size = size) (h5 : i.bytes = bytes) (h6 : z.cells.size = size) (h7 : 0 < size)
    (v : Value) (n : Nat) (xs : List Value) (hs : a.eval s = v) (hown : w.ownsRow base e size v n xs)
    (ad : Addr) (m c : Nat) (news : List Value) (hx : a.eval x = .slice (some ad) m c) (hn : news.length = m * size) (hc : ∀ j u, news[j]? = some u → w.cell? (ad.add j) = some u) (h1c : ∀ u ∈ news, u.oneCell' = true)
    (b1 : n + m ≤ maxLen) (b2 : (n + m) * bytes ≤ 140737488355328) (b3 : base ≤ w.heap.size)
    (hK : ∀ v' w', w'.ownsRow base e size v' (n + m) (xs ++ news) → w.grownBy w' v.ownBlock → (v'.ownBlock = v.ownBlock ∨ v'.ownBlock = some w.heap.size) → K (a.put o.dst v') w') :
    if Region.wanted o (yielded ops a.tmps) = true then Oper.wp P o a w K Q else E := by
  have hw : Region.wanted o (yielded ops a.tmps) = true := by simp [Region.wanted, hg]
  rw [if_pos hw]
  obtain ⟨v', w', hrun, r1, r2, _, r3⟩ := run_append_own_at (P := P) w base t o.type e i z size bytes h1 h2 h3 h4 h5 h6 h7 v n xs hown ad m c news hn hc h1c b1 b2 b3
  unfold Oper.wp
  simp [execOp, hop, resolve, invoke, builtin, hs, hx, hrun, Result.andThen]
  exact hK v' w' r1 r2 r3

theorem two_cells (w : World) (x y : Value) (T : TypeId) : ∀ j u, [x, y][j]? = some u → (w.alloc (.cells #[x, y] T)).cell? ((⟨w.heap.size, 0, none⟩ : Addr).add j) = some u := by
  intro j u hj
  match j, hj with
  | 0, hj => simp at hj; subst hj; simp [Addr.add]
  | 1, hj => simp at hj; subst hj; simp [Addr.add]

theorem box2e {w : World} {g : Nat} {x y : Value} {T : TypeId} (h : w.heap[g]? = some (.cells #[x, y] T (0, 0))) : (w.cell? ⟨g, 0, none⟩ = some x ∧ w.cell? ⟨g, 1, none⟩ = some y) ∧ (w.frozen? ⟨g, 0, none⟩ = false ∧ w.frozen? ⟨g, 1, none⟩ = false) :=
  ⟨⟨by rw [Lib.cell_of_heap h]; rfl, by rw [Lib.cell_of_heap h]; rfl⟩, Lib.frozen_of_heap h 0, Lib.frozen_of_heap h 1⟩

theorem box_set2 {w1 : World} {b : Nat} {x y u v : Value} {T : TypeId} (h : w1.heap[b]? = some (.cells #[x, y] T (0, 0))) : ((w1.setCell ⟨b, 0, none⟩ u).setCell ⟨b, 1, none⟩ v).heap[b]? = some (.cells #[u, v] T (0, 0)) :=
  heap_setCell_same _ _ _ _ _ _ (heap_setCell_same w1 b 0 _ _ u h)

theorem atC_app (l m : List At) : atC (l ++ m) = atC l ++ atC m := by simp [atC]

theorem cell_grownR {w w' : World} {row : Option Nat} (h : w.grownBy w' row) {b o : Nat} {v : Value} (hc : w.cell? ⟨b, o, none⟩ = some v) (hb : b < w.heap.size) (hr : row ≠ some b) : w'.cell? ⟨b, o, none⟩ = some v :=
  (World.cell?_of_block (a := ⟨b, o, none⟩) (h.block b hb (fun e => hr e.symm))).trans hc

theorem blk_grownR {w w' : World} {row : Option Nat} {e T : TypeId} {b : Nat} {c : Array Value} (h : w.heap[b]? = some (.cells c T (0, 0))) (hg : w.grownBy w' row) (hr : ∀ k, row = some k → ∃ c fz, w.heap[k]? = some (.cells c e fz)) (hT : T ≠ e) : w'.heap[b]? = some (.cells c T (0, 0)) :=
  (hg.block b (lt_of_heap h) (fun e1 => by
    obtain ⟨c2, fz2, h3⟩ := hr b e1.symm
    rw [h] at h3
    injection h3 with h3
    injection h3 with _ h4 _
    exact hT h4)).trans h

theorem Nd.Row.keepB {w w' : World} {B : Nat} {v : Value} {es : List Nd.E} {p : Nat → Prop} (h : Nd.Row w B v es) (hk : KeepB p w w') (hp : ∀ k, p k → ∀ c e fz, w.heap[k]? = some (.cells c e fz) → e ≠ 50 ∧ e ≠ 86) : Nd.Row w' B v es := by
  refine ⟨⟨h.own.1, ?_⟩, fun e he => ⟨fun hl => ?_, (h.ats e he).2⟩, h.apart⟩
  · rcases h.own.2 with h' | ⟨g, cap, cur, h1, h2, h3, h4⟩
    · exact .inl h'
    · exact .inr ⟨g, cap, cur, h1, h2, (hk.block g (lt_of_heap h3) (fun hpg => (hp g hpg _ _ _ h3).1 rfl)).trans h3, h4⟩
  · obtain ⟨g, o, cu, e1, e2, e3, e4⟩ := (h.ats e he).1 hl
    exact ⟨g, o, cu, e1, e2, (hk.block g (lt_of_heap e3) (fun hpg => (hp g hpg _ _ _ e3).2 rfl)).trans e3, e4⟩

theorem Nd.Row.kind {w : World} {B : Nat} {v : Value} {es : List Nd.E} (h : Nd.Row w B v es) : ∀ k, v.ownBlock = some k → ∃ c fz, w.heap[k]? = some (.cells c 50 fz) := by
  intro k hk
  rcases h.own.2 with ⟨rfl, _⟩ | ⟨g, cap, cur, rfl, _, hh, _⟩
  · cases hk
  · have : g = k := Option.some.inj hk
    subst this
    exact ⟨_, _, hh⟩

end Go.Proofs.Ytkejmifkjgpdjaa

namespace Go.Proofs.Ytkejmifkjgpdjaa
open Go.RowKit
set_option linter.unusedVariables false
set_option linter.unusedSimpArgs false

set_option maxHeartbeats 2000000 in
theorem cPiTake (B g o : Nat) (cur : Array Value) (T : TypeId) (v : Value) (x : Nat) (L : List Nat) (w : World) (h : PileI w B g o cur T v (x :: L)) (hn : L.length ≤ 1048576) :
    Calls Try.prog 67 #[.pointer (some ⟨g, o, none⟩)] w fun e w' => e = .returned (.tuple #[.int .i64 (x : Int), .bool true]) ∧ (∃ v', PileI w' B g o (cur.setIfInBounds o v') T v' L ∧ v'.ownBlock = v.ownBlock) ∧ KeepB (fun k => k = g) w w' := by
  have C := hid (cPiTop B g o cur T v x L w h hn)
  obtain ⟨b, c, rfl, hb, _, hc, hcs⟩ := own_pos h.row (Nat.succ_pos _)
  clear hcs
  have HP := hid h
  clear h
  obtain ⟨n, hnn⟩ : ∃ n, L.length = n := ⟨_, rfl⟩
  have HN := hid hnn
  have hl : (x :: L).length = n + 1 := by rw [List.length_cons, hnn]
  have HL := hid hl
  rw [hl] at hc
  rw [hnn] at hn
  clear hnn hl
  go_enter Try.func67, Try.ntmps67
  go_wp2_with fail
  refine C.out.mono ?_
  rintro e w1 ⟨rfl, hb1⟩
  have HP1 := hid (HP.out.below hb1)
  have HB1 := hid hb1
  have c0 := HP1.out.cell
  have f0 := frozen_of_row w1 g o cur T HP1.out.blk
  have hlt := HP1.out.lt
  rw [HL.out] at c0
  have HS := hid (HP1.out.less HN.out)
  clear hb1 C HP
  have hq : ((n + 1 : Nat) : Int) = (n : Int) + 1 := by omega
  go_wp2_with fail
  go_region
  go_wp2_with fail
  go_ret2
  exact ⟨rfl, ⟨_, HS.out.drew, rfl⟩, (KeepB.of_below _ HB1.out).trans (KeepB.of_set (p := fun k => k = g) _ _ _ rfl).drew⟩

set_option maxHeartbeats 2000000 in
theorem cPiLay (B g o : Nat) (cur : Array Value) (T : TypeId) (v : Value) (x : Nat) (L : List Nat) (w : World) (h : PileI w B g o cur T v L) (hn : L.length ≤ 1048576) :
    Calls Try.prog 49 #[.pointer (some ⟨g, o, none⟩), .int .i64 (x : Int)] w fun e w' => e = .returned (.tuple #[]) ∧ (∃ v', PileI w' B g o (cur.setIfInBounds o v') T v' (x :: L)) ∧ Below B w w' := by
  obtain ⟨i0, hi, hz0, hz1, hz2⟩ := info_parts info64
  have c0 := h.cell
  have hlt := h.lt
  have hB : B ≤ w.heap.size := Nat.le_trans h.ge (Nat.le_of_lt hlt)
  have HP := hid (h.below ((Below.refl w.heap.size w).alloc (Nat.le_refl _) (.cells #[.int .i64 (x : Int)] 2)))
  clear h
  go_enter Try.func49, Try.ntmps49
  go_wp2_with (at_builtin; refine wpList_append_own_at _ rfl _ _ 68 rfl B 2 i0 (.int .i64 0) 1 8 Try.underlying68 hi hz0 hz1 hz2 rfl (by decide) _ _ _ rfl HP.out.row ⟨w.heap.size, 0, none⟩ 1 1 [.int .i64 (x : Int)] rfl rfl ?c1 ?c2 ?c3 ?c4 ?c5 ?_)
  case c1 => exact one_cell64 _ _
  case c2 => exact one_one64 _
  case c3 => unfold maxLen; omega
  case c4 => omega
  case c5 => simp; omega
  intro v' w2 hown' hgrow _ hv'
  have hblk := (hgrow.block g (by simp; omega) (fun e => HP.out.own_ne e.symm)).trans HP.out.blk
  have hne : v'.ownBlock ≠ some g := by
    rcases hv' with e | e
    · rw [e]; exact HP.out.own_ne
    · rw [e]; simp; omega
  have HB2 := hid ((((Below.refl B w).alloc hB (.cells #[.int .i64 (x : Int)] 2)).grown hgrow (by simp; omega) (fun k hk => (HP.out.row.lt k hk).1)).setCell (p := ⟨g, o, none⟩) HP.out.ge v')
  have HP2 := hid (PileAt.mk_set (w := w2) HP.out.ge hblk HP.out.at_ HP.out.ne hown' hne)
  have f0 := frozen_of_row w2 g o cur T hblk
  have c2 := show w2.cell? ⟨g, o, none⟩ = some v by rw [Lib.cell_of_heap hblk]; exact HP.out.at_
  obtain ⟨a', c', hvv⟩ := own_len hown'
  have HR := hid (show intC (x :: L).reverse = intC L.reverse ++ [.int .i64 (x : Int)] by rw [List.reverse_cons, intC_app]; rfl)
  subst hvv
  clear hown' hgrow hv' hblk hne c0
  go_wp2_with fail
  go_end0
  have hp := HP2.out
  rw [← HR.out] at hp
  exact ⟨rfl, ⟨_, hp⟩, HB2.out⟩

set_option maxHeartbeats 1000000 in
theorem cTreeOk1 (x : Nat) (P : Int) (b : Nat) (w : World) (hc : w.cell? ⟨b, 0, none⟩ = some (.int .i64 P)) :
    Calls Try.prog 44 #[.int .i64 (x : Int), .pointer (some ⟨b, 0, none⟩)] w fun e w' => e = .returned (.bool (decide ((x : Int) = P))) ∧ w' = w := by
  have hd : ((x : Int) == P) = decide ((x : Int) = P) := rfl
  generalize decide ((x : Int) = P) = D at *
  go_enter Try.func44, Try.ntmps44
  go_wp2
  go_ret
  exact ⟨rfl, rfl⟩

/-- What is not the parent. -/
def notP (P : Int) (x : Nat) : Bool := !decide ((x : Int) = P)

theorem dropWhile_at {α : Type} {p : α → Bool} : ∀ {l : List α} {i : Nat}, (∀ x ∈ l.take i, p x = true) → (∀ h : i < l.length, p l[i] = false) → l.dropWhile p = l.drop i
  | [], i, _, _ => by simp
  | x :: l, 0, _, h => by
    have := h (by simp)
    simp only [List.getElem_cons_zero] at this
    rw [List.dropWhile_cons, this]
    rfl
  | x :: l, i + 1, h1, h2 => by
    rw [List.dropWhile_cons, h1 x (by simp), List.drop_succ_cons]
    simp only [if_true]
    exact dropWhile_at (fun y hy => h1 y (by simp [hy])) (fun h => by have := h2 (by simpa using h); simpa using this)

theorem KeepB.below_of {p : Nat → Prop} {w w1 w' : World} (h : KeepB p w w1) (hb : Below w1.heap.size w1 w') : KeepB p w w' := h.trans (KeepB.of_below p hb)

/-- But for one cell. -/
def SameBut (o : Nat) (c c' : Array Value) : Prop := c'.size = c.size ∧ ∀ j, j ≠ o → c'[j]? = c[j]?

theorem SameBut.refl (o : Nat) (c : Array Value) : SameBut o c c := ⟨rfl, fun _ _ => rfl⟩

theorem SameBut.set {o : Nat} {c c' : Array Value} (h : SameBut o c c') (u : Value) : SameBut o c (c'.setIfInBounds o u) :=
  ⟨by rw [Array.size_setIfInBounds]; exact h.1, fun j hj => by rw [Array.getElem?_setIfInBounds_ne (fun e => hj e.symm)]; exact h.2 j hj⟩

def topI : List Nat → Int
  | [] => 0
  | x :: _ => (x : Int)

theorem cPiTopA (B g o : Nat) (cur : Array Value) (T : TypeId) (v : Value) (L : List Nat) (w : World) (h : PileI w B g o cur T v L) (hn : L.length ≤ 1000) :
    Calls Try.prog 66 #[.pointer (some ⟨g, o, none⟩)] w fun e w' => e = .returned (.tuple #[.int .i64 (topI L), .bool (decide (0 < L.length))]) ∧ Below w.heap.size w w' := by
  cases L with
  | nil => exact cPiTop0 B g o cur T v w h
  | cons x L =>
    rw [show decide (0 < (x :: L).length) = true from decide_eq_true (Nat.succ_pos _)]
    exact cPiTop B g o cur T v x L w h (by rw [List.length_cons] at hn; omega)

/-- What downTo knows. -/
structure DownI (w : World) (B g o : Nat) (cur : Array Value) (T : TypeId) (v0 : Value) (L : List Nat) (P : Int) (i : Nat) (wr : World) (v : Value) : Prop where
  no : ∀ x ∈ L.take i, notP P x = true
  pile : ∃ cur' v', PileI wr B g o cur' T v' (L.drop i) ∧ SameBut o cur cur' ∧ v'.ownBlock = v0.ownBlock
  own : wr.ownsRow w.heap.size 2 1 v i (intC (L.take i))
  keep : KeepB (fun k => k = g) w wr

set_option maxRecDepth 8000 in
set_option maxHeartbeats 4000000 in
theorem cPiDown (B g o : Nat) (cur : Array Value) (T : TypeId) (v0 : Value) (L : List Nat) (P : Int) (b : Nat) (w : World) (h : PileI w B g o cur T v0 L) (hn : L.length ≤ 1000) (hb : b < w.heap.size) (hbg : b ≠ g)
    (hc : w.cell? ⟨b, 0, none⟩ = some (.int .i64 P)) :
    Calls Try.prog 43 #[.pointer (some ⟨g, o, none⟩), .func (.func 44) #[] #[.pointer (some ⟨b, 0, none⟩)]] w fun e w' => (∃ r, e = .returned r) ∧ (∃ cur' v', PileI w' B g o cur' T v' (L.dropWhile (notP P)) ∧ SameBut o cur cur' ∧ v'.ownBlock = v0.ownBlock) ∧ KeepB (fun k => k = g) w w' := by
  obtain ⟨i0, hi, hz0, hz1, hz2⟩ := info_parts info64
  have HI := hid (And.intro hi (And.intro hz0 (And.intro hz1 hz2)))
  have HP := hid h
  have HC := hid hc
  have HBG := hid hbg
  have HBB := hid hb
  have C0 := hid (cPiTopA B g o cur T v0 L w h hn)
  clear hi hz0 hz1 hz2 h hc hbg hb
  obtain ⟨n, hnn⟩ : ∃ n, L.length = n := ⟨_, rfl⟩
  have HN := hid hnn
  rw [hnn] at hn C0
  clear hnn
  have HT0 := hid (show topI (L.drop 0) = topI L from rfl)
  generalize topI L = t0 at *
  generalize hdd : decide (0 < n) = D0 at *
  have HD0 := hid hdd
  clear hdd
  go_enter Try.func43, Try.ntmps43
  go_wp2_with fail
  refine C0.out.mono ?_
  rintro e w1 ⟨rfl, hb1⟩
  have HB1 := hid hb1
  clear hb1 C0
  go_wp2_with fail
  go_loopw [5, 6, 7] (fun v x y wr => ∃ i : Nat, i ≤ n ∧ Hid (x = .int .i64 (topI (L.drop i))) ∧ Hid (y = .bool (decide (i < n))) ∧ Hid (DownI w B g o cur T v0 L P i wr v)) (fun v _ _ _ => n - lenV v)
  case atStart => exact ⟨0, Nat.zero_le _, by rw [HT0.out]; exact rfl, by rw [HD0.out]; exact rfl, ⟨fun x hx => absurd hx (by simp), ⟨cur, v0, HP.out.below HB1.out, SameBut.refl _ _, rfl⟩, World.ownsRow_nil _ _ _ _, KeepB.of_below _ HB1.out⟩⟩
  case round =>
    obtain ⟨i, hin, HX, HY, ST⟩ := hrel
    obtain ⟨cur1, v1, hp1, hs1, ho1⟩ := ST.out.pile
    have HP1 := hid hp1
    have HS1 := hid hs1
    have HO1 := hid ho1
    clear hp1 hs1 ho1 HD0 HT0
    have hx := HX.out
    have hy := HY.out
    clear HX HY
    by_cases hlt : i < n
    case neg =>
      rw [decide_eq_false hlt] at hy
      subst hx hy
      have HE := hid (show L.dropWhile (notP P) = L.drop i from dropWhile_at ST.out.no (fun h => absurd h (by rw [HN.out]; exact hlt)))
      obtain ⟨a5, c5, rfl⟩ := own_len ST.out.own
      go_wp2_with fail
      go_ret
      exact ⟨⟨_, rfl⟩, ⟨cur1, v1, by rw [HE.out]; exact HP1.out, HS1.out, HO1.out⟩, ST.out.keep⟩
    have his : i < L.length := by rw [HN.out]; exact hlt
    have HDR := hid (List.drop_eq_getElem_cons his)
    obtain ⟨x, hxx⟩ : ∃ x, L[i] = x := ⟨_, rfl⟩
    have HXX := hid hxx
    rw [hxx] at HDR
    rw [HDR.out] at hx
    rw [decide_eq_true hlt] at hy
    have hx2 : topI (x :: L.drop (i + 1)) = (x : Int) := rfl
    rw [hx2] at hx
    subst hx hy
    clear hxx hx2
    have HPX : Hid (PileI wr B g o cur1 T v1 (x :: L.drop (i + 1))) := by rw [← HDR.out]; exact HP1.out
    have hlen : (L.drop (i + 1)).length = n - (i + 1) := by rw [List.length_drop, HN.out]
    have C1 := hid (cTreeOk1 x P b wr ((World.cell?_of_block (ST.out.keep.block b HBB.out HBG.out)).trans HC.out))
    obtain ⟨a5, c5, hv5⟩ := own_len ST.out.own
    by_cases q : (x : Int) = P
    case pos =>
      have HE := hid (show L.dropWhile (notP P) = L.drop i from dropWhile_at ST.out.no (fun h => by unfold notP; rw [HXX.out, decide_eq_true q]; rfl))
      rw [decide_eq_true q] at C1
      clear q
      subst hv5
      go_wp2_with fail
      refine C1.out.mono ?_
      rintro e w2 ⟨rfl, rfl⟩
      go_wp2_with fail
      go_ret
      exact ⟨⟨_, rfl⟩, ⟨cur1, v1, by rw [HE.out]; exact HP1.out, HS1.out, HO1.out⟩, ST.out.keep⟩
    rw [decide_eq_false q] at C1
    have HNO := hid (show ∀ y ∈ L.take (i + 1), notP P y = true from fun y hy => by
      rw [take_snocN his] at hy
      rcases List.mem_append.1 hy with h' | h'
      · exact ST.out.no y h'
      · rw [List.mem_singleton, HXX.out] at h'
        subst h'
        unfold notP
        rw [decide_eq_false q]
        rfl)
    have HTK := hid (show intC (L.take (i + 1)) = intC (L.take i) ++ [.int .i64 (x : Int)] by rw [take_snocN his, intC_app, HXX.out]; rfl)
    have CT := hid (cPiTake B g o cur1 T v1 x (L.drop (i + 1)) wr HPX.out (by rw [hlen]; omega))
    clear q HDR
    subst hv5
    go_wp2_with fail
    refine C1.out.mono ?_
    rintro e w2 ⟨rfl, rfl⟩
    go_wp2_with fail
    refine CT.out.mono ?_
    rintro e w3 ⟨rfl, ⟨v3, hp3, ho3⟩, hk3⟩
    have HP3 := hid hp3
    have HK3 := hid (ST.out.keep.trans hk3)
    have HO3 := hid (ho3.trans HO1.out)
    have hgl := HP.out.lt
    have HOW := hid ((ST.out.own.kept (row := some g) ⟨hk3.os, hk3.tape, hk3.output, hk3.size, fun k h1 h2 => hk3.block k h1 (fun e => h2 (by rw [e]))⟩ (.inr (fun e => by have := (ST.out.own.lt g e).1; omega))).alloc (.cells #[.int .i64 (x : Int)] 2))
    have HP3A := hid (HP3.out.below ((Below.refl w3.heap.size w3).alloc (Nat.le_refl _) (.cells #[.int .i64 (x : Int)] 2)))
    have hsz := HK3.out.size
    obtain ⟨hi, hz0, hz1, hz2⟩ := HI.out
    clear hp3 hk3 ho3 CT C1
    go_wp2_with (at_builtin; refine wpList_append_own_at _ rfl _ _ 68 rfl w.heap.size 2 i0 (.int .i64 0) 1 8 Try.underlying68 hi hz0 hz1 hz2 rfl (by decide) _ _ _ rfl HOW.out ⟨w3.heap.size, 0, none⟩ 1 1 [.int .i64 (x : Int)] rfl rfl ?c1 ?c2 ?c3 ?c4 ?c5 ?_)
    case c1 => exact one_cell64 _ _
    case c2 => exact one_one64 _
    case c3 => unfold maxLen; omega
    case c4 => omega
    case c5 => simp; omega
    intro v4 w4 hown' hgrow _ _
    have HOW4 := hid (show w4.ownsRow w.heap.size 2 1 v4 (i + 1) (intC (L.take (i + 1))) by rw [HTK.out]; exact hown')
    have HK4 := hid (show KeepB (fun k => k = g) w w4 from ⟨hgrow.os.trans HK3.out.os, hgrow.tape.trans HK3.out.tape, hgrow.output.trans HK3.out.output, Nat.le_trans (by simp; omega) hgrow.size, fun k h1 h2 => by
      rw [hgrow.block k (by simp; omega) (fun e => by have := (HOW.out.lt k e.symm).1; omega), Below.heap_alloc _ _ _ (by omega)]
      exact HK3.out.block k h1 h2⟩)
    have HP4 := hid (show PileI w4 B g o (cur1.setIfInBounds o v3) T v3 (L.drop (i + 1)) from ⟨HP3A.out.ge, (hgrow.block g HP3A.out.lt (fun e => by have := (HOW.out.lt g e.symm).1; omega)).trans HP3A.out.blk, HP3A.out.at_, HP3A.out.row.kept hgrow (by
      rcases h5 : v3.ownBlock with _ | k
      · exact .inl rfl
      · refine .inr (fun e => ?_)
        have h6 := (HOW.out.lt k e.symm).1
        rw [HO3.out] at h5
        have := (HP.out.row.lt k h5).2
        omega), HP3A.out.ne⟩)
    have C5 := hid (cPiTopA B g o _ T v3 (L.drop (i + 1)) w4 HP4.out (by rw [hlen]; omega))
    have hl0 : decide (0 < (L.drop (i + 1)).length) = decide (i + 1 < n) := by rw [hlen]; by_cases h : i + 1 < n <;> simp <;> omega
    rw [hl0] at C5
    obtain ⟨a4, c4, hv4⟩ := own_len hown'
    generalize htt : topI (L.drop (i + 1)) = tt at C5
    generalize hdd : decide (i + 1 < n) = dd at C5
    have HTT := hid htt
    have HDD := hid hdd
    subst hv4
    clear hown' hgrow htt hdd hl0
    go_wp2_with fail
    refine C5.out.mono ?_
    rintro e w5 ⟨rfl, hb5⟩
    have HB5 := hid hb5
    clear hb5
    go_wp2_with fail
    go_roundw
    case rel => exact ⟨i + 1, by omega, by rw [HTT.out]; exact rfl, by rw [HDD.out]; exact rfl, ⟨HNO.out, ⟨_, v3, HP4.out.below HB5.out, HS1.out.set _, HO3.out⟩, ownsRow_below HOW4.out HB5.out, HK4.out.below_of HB5.out⟩⟩
    case measure => simp [lenV]; omega

end Go.Proofs.Ytkejmifkjgpdjaa

namespace Go.Proofs.Ytkejmifkjgpdjaa
set_option linter.unusedVariables false

def elB (ts : List Tk) (j : Nat) : Bool := match ts[j]? with | some t => !decide (t.name.size = 0) | none => false

theorem elB_iff {ts : List Tk} {j : Nat} : elB ts j = true ↔ elN ts j := by
  unfold elB elN
  by_cases h : j < ts.length
  · rw [List.getElem?_eq_getElem h]
    simp [h]
  · rw [List.getElem?_eq_none (by omega)]
    simp [h]

theorem elB_at {ts : List Tk} {j : Nat} (h : j < ts.length) : elB ts j = !decide (ts[j].name.size = 0) := by
  unfold elB
  rw [List.getElem?_eq_getElem h]

/-- What lies on the pile ahead of the i-th node, the top first. -/
def pileF (ts : List Tk) : Nat → List Nat
  | 0 => []
  | i + 1 => (if elB ts i = true then [i] else []) ++ (pileF ts i).dropWhile (notP (parI ts i))

theorem dw_filter {α : Type} {el p : α → Bool} (h : ∀ x, p x = false → el x = true) : ∀ l : List α, (l.filter el).dropWhile p = (l.dropWhile p).filter el
  | [] => rfl
  | x :: l => by
    cases e : el x
    · have hp : p x = true := by
        cases q : p x
        · rw [h x q] at e; cases e
        · rfl
      rw [List.filter_cons_of_neg (by rw [e]; decide), List.dropWhile_cons_of_pos hp]
      exact dw_filter h l
    · rw [List.filter_cons_of_pos e]
      cases q : p x
      · rw [List.dropWhile_cons_of_neg (by rw [q]; decide), List.dropWhile_cons_of_neg (by rw [q]; decide), List.filter_cons_of_pos e]
      · rw [List.dropWhile_cons_of_pos q, List.dropWhile_cons_of_pos q]
        exact dw_filter h l

theorem chain_tail (ts : List Tk) (i : Nat) : (chainF ts (i + 1)).tail = (chainF ts i).dropWhile (notP (parI ts i)) := rfl

theorem chain_tail_el {ts : List Tk} : ∀ i, (∀ j, j < i + 1 → UpOk ts j) → ∀ x ∈ (chainF ts (i + 1)).tail, elB ts x = true
  | 0, _ => fun x hx => by
    rw [chain_tail] at hx
    exact absurd hx (by simp [chainF])
  | i + 1, h => fun x hx => by
    have ih := chain_tail_el i (fun j hj => h j (by omega))
    rw [chain_tail] at hx
    have e : chainF ts (i + 1) = i :: (chainF ts (i + 1)).tail := rfl
    rw [e] at hx
    cases q : notP (parI ts (i + 1)) i
    · rw [List.dropWhile_cons_of_neg (by rw [q]; decide)] at hx
      rcases List.mem_cons.1 hx with rfl | hx
      · rcases h (x + 1) (by omega) with h0 | ⟨p, _, hp, he⟩
        · omega
        · unfold notP at q
          simp only [Bool.not_eq_false', decide_eq_true_eq] at q
          have : x = p := by omega
          subst this
          exact elB_iff.2 he
      · exact ih x hx
    · rw [List.dropWhile_cons_of_pos q] at hx
      exact ih x ((List.dropWhile_sublist _).mem hx)

theorem pile_is {ts : List Tk} : ∀ i, (∀ j, j < i → UpOk ts j) → pileF ts i = (chainF ts i).filter (elB ts)
  | 0, _ => rfl
  | i + 1, h => by
    have ih := pile_is i (fun j hj => h j (by omega))
    have e : chainF ts (i + 1) = i :: (chainF ts i).dropWhile (notP (parI ts i)) := rfl
    have key : ((chainF ts i).filter (elB ts)).dropWhile (notP (parI ts i)) = ((chainF ts i).dropWhile (notP (parI ts i))).filter (elB ts) := by
      rcases h i (by omega) with h0 | ⟨p, _, hp, he⟩
      · subst h0
        rfl
      · refine dw_filter (fun x hx => ?_) _
        unfold notP at hx
        simp only [Bool.not_eq_false', decide_eq_true_eq] at hx
        have : x = p := by omega
        subst this
        exact elB_iff.2 he
    rw [pileF, ih, key, e]
    cases q : elB ts i
    · rw [List.filter_cons_of_neg (by rw [q]; decide)]
      simp
    · rw [List.filter_cons_of_pos q]
      simp

/-- Where the node may stand there: what is left is what is around it. -/
theorem pile_ok {ts : List Tk} {i : Nat} (h : ∀ j, j < i → UpOk ts j) (hu : UpOk ts i) : (chainF ts (i + 1)).length = ((pileF ts i).dropWhile (notP (parI ts i))).length + 1 := by
  have h1 := pile_is (i + 1) (fun j hj => by rcases Nat.lt_or_eq_of_le (Nat.le_of_lt_succ hj) with h' | rfl; exact h j h'; exact hu)
  have h2 := chain_tail_el i (fun j hj => by rcases Nat.lt_or_eq_of_le (Nat.le_of_lt_succ hj) with h' | rfl; exact h j h'; exact hu)
  have e : chainF ts (i + 1) = i :: (chainF ts (i + 1)).tail := rfl
  rw [pileF, e] at h1
  rw [e, List.length_cons]
  congr 1
  have h3 : (chainF ts (i + 1)).tail.filter (elB ts) = (chainF ts (i + 1)).tail := List.filter_eq_self.2 h2
  cases q : elB ts i
  · rw [q, List.filter_cons_of_neg (by rw [q]; decide), h3] at h1
    have h1 : (pileF ts i).dropWhile (notP (parI ts i)) = (chainF ts (i + 1)).tail := h1
    rw [h1]
  · rw [q, List.filter_cons_of_pos q, h3] at h1
    have h1 : i :: (pileF ts i).dropWhile (notP (parI ts i)) = i :: (chainF ts (i + 1)).tail := h1
    injection h1 with _ h1
    rw [h1]

theorem dw_nil {α : Type} {p : α → Bool} : ∀ {l : List α}, l.dropWhile p = [] → ∀ x ∈ l, p x = true
  | [], _, x, hx => absurd hx List.not_mem_nil
  | y :: l, h, x, hx => by
    cases q : p y
    · rw [List.dropWhile_cons_of_neg (by rw [q]; decide)] at h
      cases h
    · rw [List.dropWhile_cons_of_pos q] at h
      rcases List.mem_cons.1 hx with rfl | hx
      · exact q
      · exact dw_nil h x hx

/-- It may stand there just if something is left. -/
theorem pile_up {ts : List Tk} {i : Nat} (h : ∀ j, j < i → UpOk ts j) (hi : 0 < i) : UpOk ts i ↔ 0 < ((pileF ts i).dropWhile (notP (parI ts i))).length := by
  rw [pile_is i h]
  constructor
  · rintro (h0 | ⟨p, hp, e, he⟩)
    · omega
    · rw [List.length_pos_iff]
      intro e0
      have := dw_nil e0 p (List.mem_filter.2 ⟨hp, elB_iff.2 he⟩)
      unfold notP at this
      simp only [Bool.not_eq_true', decide_eq_false_iff_not] at this
      exact this e
  · intro hl
    rw [List.length_pos_iff] at hl
    have h1 := List.head_dropWhile_not (notP (parI ts i)) hl
    have h2 := (List.dropWhile_sublist (notP (parI ts i))).mem (List.head_mem hl)
    obtain ⟨h3, h4⟩ := List.mem_filter.1 h2
    refine .inr ⟨_, h3, ?_, elB_iff.1 h4⟩
    generalize (List.dropWhile (notP (parI ts i)) (List.filter (elB ts) (chainF ts i))).head hl = z at h1 ⊢
    unfold notP at h1
    simpa using h1

theorem dw_len {α : Type} (p : α → Bool) (l : List α) : (l.dropWhile p).length ≤ l.length := (List.dropWhile_sublist p).length_le

theorem pile_len (ts : List Tk) : ∀ i, (pileF ts i).length ≤ i
  | 0 => Nat.le_refl _
  | i + 1 => by
    have := pile_len ts i
    have h2 := dw_len (notP (parI ts i)) (pileF ts i)
    rw [pileF, List.length_append]
    split <;> simp <;> omega

/-- The token that a node begins with. -/
def tokOfN (t : Tk) : Tk := if t.name.size = 0 then ⟨3, ⟨#[]⟩, t.attrs, t.text⟩ else ⟨1, t.name, t.attrs, t.text⟩

theorem tokOfN_B (t : Tk) : tokB (tokOfN t) = nodeB t := by
  unfold tokOfN nodeB
  split
  · unfold tokB
    rw [if_neg (show ¬ (3 : Int) = 1 by decide), if_neg (show ¬ (3 : Int) = 2 by decide), if_pos rfl, show decide ((⟨#[]⟩ : ByteArray).size = 0) = true from rfl, Bool.true_and]
  · unfold tokB
    rw [if_pos rfl]

theorem tokOfN_attrs (t : Tk) : (tokOfN t).attrs = t.attrs := by unfold tokOfN; split <;> rfl

theorem tokOfN_sz {n : Nat} {t : Tk} (h : TkSz n t) : TkSz n (tokOfN t) := by
  obtain ⟨h1, h2, h3, h4⟩ := h
  unfold tokOfN
  split
  · exact ⟨Nat.zero_le _, h2, h3, h4⟩
  · exact ⟨h1, h2, h3, h4⟩

noncomputable def twinB (ts : List Tk) (i : Nat) : Bool := open Classical in decide (TwinAt ts i)

theorem twinB_t {ts : List Tk} {i : Nat} (h : TwinAt ts i) : twinB ts i = true := by unfold twinB; simp [h]

theorem twinB_f {ts : List Tk} {i : Nat} (h : ¬ TwinAt ts i) : twinB ts i = false := by unfold twinB; simp [h]

end Go.Proofs.Ytkejmifkjgpdjaa
