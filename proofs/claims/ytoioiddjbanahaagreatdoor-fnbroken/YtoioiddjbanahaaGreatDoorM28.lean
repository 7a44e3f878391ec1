/-  -/
import Derived.Test.YtoioiddjbanahaaGreatDoorM17
import Derived.Test.YtoioiddjbanahaaGreatDoorM27
import Derived.Test.YtoioiddjbanahaaGreatDoorM12
import Derived.Test.YtoioiddjbanahaaGreatDoorM13
import Derived.Test.YtoioiddjbanahaaGreatDoorM26
import Derived.Test.YtoioiddjbanahaaGreatDoorM23
set_option linter.unusedVariables false
set_option linter.unusedSimpArgs false
namespace Go.Proofs.YtoioiddjbanahaaGreatDoor

open Go.RowKit

def inIB (c : Int) : Bool := (decide (97 <= c) && decide (c <= 122)) || (decide (48 <= c) && decide (c <= 57))

theorem inIB_all : ∀ n : Fin 256, inB idLS (UInt8.ofNat n.val) = inIB (n.val : Int) := by decide +kernel

theorem inIB_is (c : UInt8) : inB idLS c = inIB c.toNat := by
 have h := inIB_all ⟨c.toNat, c.toNat_lt⟩
 have e : UInt8.ofNat c.toNat = c := by simp
 rw [e] at h
 exact h

set_option maxHeartbeats 1000000 in
theorem cInId (c : Int) (w : World) (h0 : 0 <= c) (h1 : c <= 255) :
  Calls Tryz.prog 110 #[.int .u8 c] w fun e w' => e = .returned (.bool (inIB c)) /\ w' = w := by
 go_enter Tryz.func110, Tryz.ntmps110
 go_wp2_with (go_at_call 154; refine (cDigit _ _ h0 h1).mono ?_; rintro e w' ⟨rfl, rfl⟩)
 all_goals go_ret
 all_goals exact ⟨ret_bool (by rw [Bool.eq_iff_iff]; simp [inIB]; try omega), rfl⟩

def allId (l : List UInt8) : Bool := l.all fun c => inIB c.toNat

theorem allId_is (l : List UInt8) : (l.all fun c => idLS.data.toList.any fun d => decide (d = c)) = allId l := by
 unfold allId
 congr 1
 funext c
 exact inIB_is c

theorem allId_snoc (s : ByteArray) (k : Nat) (h : k < s.size) : allId (s.data.toList.take (k + 1)) = (allId (s.data.toList.take k) && inIB s[k].toNat) := by
 unfold allId
 rw [take_snoc s k h, List.all_append]
 simp

theorem allId_no (s : ByteArray) (k : Nat) (h : k < s.size) (hc : inIB s[k].toNat = false) : allId s.data.toList = false := by
 cases hA : allId s.data.toList with
 | false => rfl
 | true =>
  have := List.all_eq_true.1 hA s[k] (List.getElem_mem _)
  rw [hc] at this
  cases this

set_option maxHeartbeats 1000000 in
theorem cAllId (s : ByteArray) (w : World) (hs : s.size <= 1048576) :
  Calls Tryz.prog 109 #[.string s, .func (.func 110) #[] #[]] w fun e w' => e = .returned (.bool (allId s.data.toList)) /\ w' = w := by
 go_enter Tryz.func109, Tryz.ntmps109
 go_wp2
 go_loop [8] (fun i => ∃ k : Nat, k <= s.size /\ i = .int .i64 k /\ Hid (allId (s.data.toList.take k) = true)) (fun i => s.size - (intOf i).toNat)
 case atStart => exact ⟨0, Nat.zero_le _, rfl, rfl⟩
 case round =>
  obtain ⟨k, hk, rfl, HP⟩ := hrel
  by_cases hlt : k < s.size
  ·have hb : (s[k].toNat : Int) <= 255 := by have := s[k].toNat_lt; omega
   cases hc : inIB s[k].toNat
   ·go_wp2_with (go_at_call 110; refine (cInId _ _ (by omega) hb).mono ?_; rintro e w' ⟨rfl, rfl⟩)
    go_ret
    exact ⟨ret_bool (allId_no s k hlt hc).symm, rfl⟩
   ·go_wp2_with (go_at_call 110; refine (cInId _ _ (by omega) hb).mono ?_; rintro e w' ⟨rfl, rfl⟩)
    go_round
    case rel => exact ⟨k + 1, by omega, by go_num, by show allId _ = true; rw [allId_snoc s k hlt, HP.out, hc]; rfl⟩
    case measure => simp [intOf]; omega
  ·go_wp2
   go_ret
   exact ⟨ret_bool (by rw [<- take_full s k hlt]; exact HP.out.symm), rfl⟩

theorem idOk_is (s : ByteArray) : idOk s = (decide (1 <= s.size) && (decide (s.size <= 12) && allId s.data.toList)) := by
 unfold idOk ofB
 rw [allId_is, Bool.and_comm (allId s.data.toList)]
 have e : (!decide (s.size = 0)) = decide (1 <= s.size) := by
  by_cases h : s.size = 0
  ·rw [decide_eq_true h, decide_eq_false (show ¬ 1 <= s.size by omega)]; rfl
  ·rw [decide_eq_false h, decide_eq_true (show 1 <= s.size by omega)]; rfl
 rw [e]

set_option maxHeartbeats 2000000 in
theorem cIdOk (s : ByteArray) (w : World) (hs : s.size <= 1048576) :
  Calls Tryz.prog 57 #[.string s] w fun e w' => e = .returned (.bool (idOk s)) /\ w' = w := by
 have C := hid (fun wx => cAllId s wx hs)
 rw [idOk_is]
 generalize allId s.data.toList = M at *
 by_cases h1 : 1 <= s.size
 ·rw [decide_eq_true h1]
  have h1' : (1 : Int) <= (s.size : Int) := by omega
  by_cases h12 : s.size <= 12
  ·rw [decide_eq_true h12]
   have h12' : (s.size : Int) <= 12 := by omega
   go_enter Tryz.func57, Tryz.ntmps57
   go_wp2_with fail
   refine (C.out _).mono ?_
   rintro e w1 ⟨rfl, rfl⟩
   go_wp2_with fail
   go_ret
   exact ⟨by simp, rfl⟩
  ·rw [decide_eq_false h12]
   have h12' : ¬ (s.size : Int) <= 12 := by omega
   go_enter Tryz.func57, Tryz.ntmps57
   go_wp2_with fail
   go_ret
   exact ⟨by simp, rfl⟩
 ·rw [decide_eq_false h1]
  have h1' : ¬ (1 : Int) <= (s.size : Int) := by omega
  go_enter Tryz.func57, Tryz.ntmps57
  go_wp2_with fail
  go_ret
  exact ⟨by simp, rfl⟩

theorem treeB_p {ts : List Tk} (h : treeB ts = true) : TreeP ts := by
 by_cases q : TreeP ts
 ·exact q
 ·rw [treeB_f q] at h; cases h

theorem tree_id {ts : List Tk} (hT : TreeP ts) {k : Nat} (hk : k < ts.length) {i : Nat} (hi : i < ts[k].attrs.length) (hn : ts[k].attrs[i].name = idS) : idAt ts k = some ts[k].attrs[i].value := by
 rw [idAt_at hk]
 refine valF_at hi (fun x hx => ?_) hn
 obtain ⟨j, hj, e⟩ := List.mem_take_iff_getElem.1 hx
 obtain ⟨⟨_, hb⟩, -⟩ := hT.2.2.2.2 k hk
 by_cases h0 : ts[k].name.size = 0
 ·rw [nodeB_tx h0, Bool.and_eq_true] at hb
  have := of_decide_eq_true hb.1
  omega
 ·rw [nodeB_el h0, Bool.and_eq_true, Bool.and_eq_true] at hb
  have ho : AttrsOk ts[k].attrs := by
   by_cases q : AttrsOk ts[k].attrs
   ·exact q
   ·rw [attrsB_f q] at hb; cases hb.2.1
  subst e
  have := ho.2.2 i j hi (by omega) hi
  rw [hn] at this
  exact this

theorem id_tree {ts : List Tk} {k : Nat} {v : ByteArray} (hk : k < ts.length) (h : idAt ts k = some v) : ∃ (i : Nat) (hi : i < ts[k].attrs.length), ts[k].attrs[i].name = idS /\ ts[k].attrs[i].value = v := by
 rw [idAt_at hk] at h
 unfold valF at h
 rw [Option.map_eq_some_iff] at h
 obtain ⟨x, hx, e⟩ := h
 obtain ⟨i, hi, ei⟩ := List.getElem_of_mem (List.mem_of_find?_eq_some hx)
 have h2 := List.find?_some hx
 subst ei
 exact ⟨i, hi, by simpa using h2, e⟩

end Go.Proofs.YtoioiddjbanahaaGreatDoor

namespace Go.Proofs.YtoioiddjbanahaaGreatDoor

open Go.RowKit

theorem grown_of_belowJ {w w1 : World} (h : Below w.heap.size w w1) (row : Option Nat) : w.grownBy w1 row := ⟨h.os, h.tape, h.output, h.size, fun i hi _ => h.block i hi⟩

theorem CSt.belowJ {w0 : World} {a : Option Addr} {len cap b : Nat} {w wr w1 : World} (h : CSt w0 a len cap b w wr) (hb : Below wr.heap.size wr w1) : CSt w0 a len cap b w w1 := h.draw (h.cur.below hb) (grown_of_belowJ hb _)

theorem own_diff {w : World} {B B' s s' n n' : Nat} {v v' : Value} {xs xs' : List Value} {E E' : TypeId} (h : w.ownsRow B E s v n xs) (h' : w.ownsRow B' E' s' v' n' xs') (hE : E ≠ E') {k : Nat} (e : v.ownBlock = some k) : ¬ v'.ownBlock = some k := fun e' => by
 obtain ⟨c, fz, hk⟩ := own_kind h k e
 obtain ⟨c', fz', hk'⟩ := own_kind h' k e'
 rw [hk] at hk'
 injection hk' with hk'
 injection hk' with _ h2 _
 exact hE h2

structure TSj (z : Nat) (w0 : World) (a : Option Addr) (len cap b : Nat) (w wr : World) (g L cv : Nat) (es : List Nd.E) : Prop where
 c : CSt w0 a len cap b w wr
 hL : es.length = L
 row : wr.ownsRow w.heap.size 32 4 (.slice (some ⟨g, 0, none⟩) L cv) L (Nd.cs es)
 oe : OwnEs wr w.heap.size es
 sz : ∀ e ∈ es, TkSz z e.t

section

variable {z : Nat} {w0 : World} {a : Option Addr} {len cap b : Nat} {w wr w1 : World} {g L cv : Nat} {es : List Nd.E}

theorem TSj.draw (h : TSj z w0 a len cap b w wr g L cv es) (hC : Cur w0 a len cap b w1) (hg : wr.grownBy w1 (some b)) : TSj z w0 a len cap b w w1 g L cv es :=
 ⟨h.c.draw hC hg, h.hL, h.row.kept hg (.inr (fun x => by have := (h.row.lt b x).1; have := h.c.lt; omega)), ⟨fun e he => (h.oe.own e he).kept hg (.inr (fun x => by have := ((h.oe.own e he).lt b x).1; have := h.c.lt; omega)), h.oe.apo⟩, h.sz⟩

theorem TSj.below (h : TSj z w0 a len cap b w wr g L cv es) (hb : Below wr.heap.size wr w1) : TSj z w0 a len cap b w w1 g L cv es :=
 ⟨h.c.belowJ hb, h.hL, ownsRow_below h.row hb, h.oe.below hb, h.sz⟩

theorem TSj.alloc (h : TSj z w0 a len cap b w wr g L cv es) (o : Obj) : TSj z w0 a len cap b w (wr.alloc o) g L cv es := h.below ((Below.refl _ _).alloc (Nat.le_refl _) o)

theorem TSj.drewN (h : TSj z w0 a len cap b w wr g L cv es) (n : Nat) : TSj z w0 a len cap b w (wr.drewN n) g L cv es := h.below (below_drewN (Below.refl _ _) n)

theorem TSj.tk (h : TSj z w0 a len cap b w wr g L cv es) : TkRow wr (some ⟨g, 0, none⟩) (es.map (·.t)) := own_tkRow h.row h.hL (fun e he => (own_atR (h.oe.own e he) rfl).atRow)

theorem TSj.room (h : TSj z w0 a len cap b w wr g L cv es) : L <= cv /\ cv <= maxLen := own_cap h.row

theorem TSj.tks (h : TSj z w0 a len cap b w wr g L cv es) (hzz : z <= 1000) : TksSz 1048576 (es.map (·.t)) := fun t ht => by
 obtain ⟨e, he, rfl⟩ := List.mem_map.1 ht
 obtain ⟨q1, q2, q3, q4⟩ := h.sz e he
 exact ⟨by omega, by omega, fun y hy => by have := q3 y hy; omega, by omega⟩

theorem TSj.slot {x : Nat} (h : TSj z w0 a len cap b w wr g L cv es) (hx : x < es.length) :
  (wr.cell? ⟨g, x * 4, none⟩ = some (.int .i64 es[x].t.kind) /\ wr.cell? ⟨g, x * 4 + 1, none⟩ = some (.string es[x].t.name) /\ wr.cell? ⟨g, x * 4 + 2, none⟩ = some (.slice es[x].a es[x].t.attrs.length es[x].cap) /\ wr.cell? ⟨g, x * 4 + 3, none⟩ = some (.string es[x].t.text)) /\ ∀ j, wr.frozen? ⟨g, j, none⟩ = false := slot_own h.row h.hL hx

theorem TSj.lt (h : TSj z w0 a len cap b w wr g L cv es) : w.heap.size <= g /\ g < wr.heap.size := h.row.lt g rfl

theorem TSj.setF (h : TSj z w0 a len cap b w wr g L cv es) {x : Nat} (hx : x < es.length) {f : Nat} (hf : f < 4) {u : Value} {t' : Tk} (ht : t'.attrs = es[x].t.attrs) (hc : Nd.c1 ⟨t', es[x].a, es[x].cap⟩ = (Nd.c1 es[x]).set f u) (hz : TkSz z t') :
  TSj z w0 a len cap b w (wr.setCell ⟨g, x * 4 + f, none⟩ u) g L cv (es.set x ⟨t', es[x].a, es[x].cap⟩) := by
 obtain ⟨ho', hg'⟩ := h.row.stored (x * 4 + f) u
 rw [cs_set hx hf hc] at ho'
 have hge := h.lt.1
 have kp : ∀ e ∈ es, (wr.setCell ⟨g, x * 4 + f, none⟩ u).ownsRow w.heap.size 67 2 (.slice e.a e.t.attrs.length e.cap) e.t.attrs.length (atC e.t.attrs) := fun e he => (h.oe.own e he).kept hg' (.inr (fun x => own_diff h.row (h.oe.own e he) (by decide) rfl x))
 refine ⟨⟨h.c.cur.grown hg' (fun e => by have := Option.some.inj e; have := h.c.lt; omega) (fun k e => by have := Option.some.inj e; have := h.c.le; omega), g_later h.c.gr hg' hge, h.c.lt, h.c.le⟩, by rw [List.length_set]; exact h.hL, ho', ⟨fun e he => ?_, ?_⟩, fun e he => ?_⟩
 ·rcases List.mem_or_eq_of_mem_set he with h' | h'
  ·exact kp e h'
  ·subst h'
   have := kp _ (List.getElem_mem hx)
   show World.ownsRow _ _ _ _ (.slice es[x].a t'.attrs.length es[x].cap) t'.attrs.length (atC t'.attrs)
   rw [ht]
   exact this
 ·rw [List.pairwise_iff_getElem]
  intro i j hi hj hij k
  have hi' : i < es.length := by simpa using hi
  have hj' : j < es.length := by simpa using hj
  have key : ∀ (y : Nat) (hy : y < es.length), Value.slice ((es.set x ⟨t', es[x].a, es[x].cap⟩)[y]'(by simpa using hy)).a ((es.set x ⟨t', es[x].a, es[x].cap⟩)[y]'(by simpa using hy)).t.attrs.length ((es.set x ⟨t', es[x].a, es[x].cap⟩)[y]'(by simpa using hy)).cap = Value.slice es[y].a es[y].t.attrs.length es[y].cap := fun y hy => by
   rw [List.getElem_set]
   by_cases q : x = y
   ·subst q
    rw [if_pos rfl, ht]
   ·rw [if_neg q]
  rw [key i hi', key j hj']
  exact List.pairwise_iff_getElem.1 h.oe.apo i j hi' hj' hij k
 ·rcases List.mem_or_eq_of_mem_set he with h' | h'
  ·exact h.sz e h'
  ·subst h'
   exact hz

theorem TSj.put {w7 : World} (h : TSj z w0 a len cap b w wr g L cv es) (hc7 : CSt w0 a len cap b w w7) {x : Nat} (hx : x < es.length) (hr7 : w7.ownsRow w.heap.size 32 4 (.slice (some ⟨g, 0, none⟩) L cv) L (Nd.cs es))
  (ho7 : ∀ j (hj : j < es.length), ¬ j = x -> w7.ownsRow w.heap.size 67 2 (.slice es[j].a es[j].t.attrs.length es[j].cap) es[j].t.attrs.length (atC es[j].t.attrs))
  {a7 : Option Addr} {c7 : Nat} {l7 : List At} (hn7 : w7.ownsRow w.heap.size 67 2 (.slice a7 l7.length c7) l7.length (atC l7)) (hap : ∀ j (hj : j < es.length), ¬ j = x -> ∀ k, (Value.slice es[j].a es[j].t.attrs.length es[j].cap).ownBlock = some k -> ¬ (Value.slice a7 l7.length c7).ownBlock = some k)
  (hz : l7.length <= z /\ ∀ y ∈ l7, y.name.size <= z /\ y.value.size <= z) :
  TSj z w0 a len cap b w (w7.setCell ⟨g, x * 4 + 2, none⟩ (.slice a7 l7.length c7)) g L cv (es.set x ⟨⟨es[x].t.kind, es[x].t.name, l7, es[x].t.text⟩, a7, c7⟩) := by
 obtain ⟨ho', hg'⟩ := hr7.stored (x * 4 + 2) (.slice a7 l7.length c7)
 rw [cs_set (e' := ⟨⟨es[x].t.kind, es[x].t.name, l7, es[x].t.text⟩, a7, c7⟩) hx (by omega) rfl] at ho'
 have hge := h.lt.1
 have kn := hn7.kept hg' (.inr (fun x => own_diff hr7 hn7 (by decide) rfl x))
 have kp : ∀ j (hj : j < es.length), ¬ j = x -> (w7.setCell ⟨g, x * 4 + 2, none⟩ (.slice a7 l7.length c7)).ownsRow w.heap.size 67 2 (.slice es[j].a es[j].t.attrs.length es[j].cap) es[j].t.attrs.length (atC es[j].t.attrs) := fun j hj hne => (ho7 j hj hne).kept hg' (.inr (fun x => own_diff hr7 (ho7 j hj hne) (by decide) rfl x))
 refine ⟨⟨hc7.cur.grown hg' (fun e => by have := Option.some.inj e; have := h.c.lt; omega) (fun k e => by have := Option.some.inj e; have := h.c.le; omega), g_later hc7.gr hg' hge, h.c.lt, h.c.le⟩, by rw [List.length_set]; exact h.hL, ho', ⟨fun e he => ?_, ?_⟩, fun e he => ?_⟩
 ·obtain ⟨j, hj, rfl⟩ := List.mem_iff_getElem.1 he
  rw [List.length_set] at hj
  rw [List.getElem_set]
  by_cases q : x = j
  ·rw [if_pos q]
   exact kn
  ·rw [if_neg q]
   exact kp j hj (fun e => q e.symm)
 ·rw [List.pairwise_iff_getElem]
  intro i j hi hj hij k
  have hi' : i < es.length := by simpa using hi
  have hj' : j < es.length := by simpa using hj
  rw [List.getElem_set, List.getElem_set]
  by_cases q1 : x = i
  ·rw [if_pos q1, if_neg (by omega)]
   exact fun e1 e2 => hap j hj' (by omega) k e2 e1
  ·rw [if_neg q1]
   by_cases q2 : x = j
   ·rw [if_pos q2]
    exact hap i hi' (by omega) k
   ·rw [if_neg q2]
    exact List.pairwise_iff_getElem.1 h.oe.apo i j hi' hj' hij k
 ·rcases List.mem_or_eq_of_mem_set he with h' | h'
  ·exact h.sz e h'
  ·subst h'
   obtain ⟨q1, q2, q3, q4⟩ := h.sz _ (List.getElem_mem hx)
   exact ⟨q1, hz.1, hz.2, q4⟩

theorem TSj.app {w7 : World} (h : TSj z w0 a len cap b w wr g L cv es) {x : Nat} (hx : x < es.length) (h6 : es[x].t.attrs.length < 6) (hzz : 6 <= z) {y : At} (hy : y.name.size <= z /\ y.value.size <= z) {v7 : Value} (ho : w7.ownsRow w.heap.size 67 2 v7 (es[x].t.attrs.length + 1) (atC es[x].t.attrs ++ [.string y.name, .string y.value])) (hg : wr.grownBy w7 (Value.slice es[x].a es[x].t.attrs.length es[x].cap).ownBlock) (hat : v7.ownBlock = (Value.slice es[x].a es[x].t.attrs.length es[x].cap).ownBlock \/ v7.ownBlock = some wr.heap.size) :
  ∀ (a7 : Option Addr) (c7 : Nat), v7 = .slice a7 (es[x].t.attrs.length + 1) c7 -> ∃ es', TSj z w0 a len cap b w (w7.setCell ⟨g, x * 4 + 2, none⟩ v7) g L cv es' := by
 rintro a7 c7 rfl
 have hown := h.oe.own _ (List.getElem_mem hx)
 have hcur : Cur w0 a len cap b w7 := h.c.cur.grown hg (fun e => by have := (hown.lt b e.symm).1; have := h.c.lt; omega) (fun k e => by have := (hown.lt k e).1; have := h.c.le; omega)
 have hgr : w.grownBy w7 (some b) := g_own h.c.gr hg (fun i e => (hown.lt i e).1)
 have hl : es[x].t.attrs.length + 1 = (es[x].t.attrs ++ [y]).length := by rw [List.length_append]; rfl
 have hat' : atC es[x].t.attrs ++ [.string y.name, .string y.value] = atC (es[x].t.attrs ++ [y]) := by rw [atC_app]; rfl
 rw [hat', hl] at ho
 rw [hl] at hat ⊢
 obtain ⟨q1, q2, q3, q4⟩ := h.sz _ (List.getElem_mem hx)
 have apart : ∀ j (hj : j < es.length), ¬ j = x -> ∀ k, (Value.slice es[j].a es[j].t.attrs.length es[j].cap).ownBlock = some k -> ¬ (Value.slice es[x].a es[x].t.attrs.length es[x].cap).ownBlock = some k := fun j hj hne k e1 e2 => by
  rcases Nat.lt_or_gt_of_ne hne with h' | h'
  ·exact List.pairwise_iff_getElem.1 h.oe.apo j x hj hx h' k e1 e2
  ·exact List.pairwise_iff_getElem.1 h.oe.apo x j hx hj h' k e2 e1
 refine ⟨_, h.put ⟨hcur, hgr, h.c.lt, h.c.le⟩ hx (own_grownR h.row hg (own_kind hown) (by decide)) (fun j hj hne => (h.oe.own _ (List.getElem_mem hj)).kept hg ?_) ho (fun j hj hne k e1 e2 => ?_) ⟨by rw [List.length_append]; show _ + 1 <= z; omega, fun z hz => ?_⟩⟩
 ·rcases hb : (Value.slice es[j].a es[j].t.attrs.length es[j].cap).ownBlock with _ | k
  ·exact .inl rfl
  ·exact .inr (fun e => apart j hj hne k hb e.symm)
 ·rcases hat with h' | h'
  ·exact apart j hj hne k e1 (h'.symm.trans e2)
  ·rw [h'] at e2
   cases e2
   have := ((h.oe.own _ (List.getElem_mem hj)).lt _ e1).2
   omega
 ·rcases List.mem_append.1 hz with h' | h'
  ·exact q3 z h'
  ·rw [List.mem_singleton] at h'
   subst h'
   exact hy

theorem TSj.fresh {w7 : World} (h : TSj z w0 a len cap b w wr g L cv es) {x : Nat} (hx : x < es.length) (hb : Below wr.heap.size wr w7) {a7 : Option Addr} {c7 : Nat} (hn : OwnC w7 wr.heap.size a7 c7 es[x].t.attrs) :
  TSj z w0 a len cap b w (w7.setCell ⟨g, x * 4 + 2, none⟩ (.slice a7 es[x].t.attrs.length c7)) g L cv (es.set x ⟨es[x].t, a7, c7⟩) := by
 obtain ⟨q1, q2, q3, q4⟩ := h.sz _ (List.getElem_mem hx)
 exact h.put (h.c.belowJ hb) hx (ownsRow_below h.row hb) (fun j hj _ => ownsRow_below (h.oe.own _ (List.getElem_mem hj)) hb) (own_baseO hn.2 (h.c.gr.size)) (fun j hj hne k e1 e2 => by
  have h1 := ((h.oe.own _ (List.getElem_mem hj)).lt k e1).2
  have h2 := (hn.2.lt k e2).1
  omega) ⟨q2, q3⟩

theorem TSj.more {z' : Nat} (h : TSj z w0 a len cap b w wr g L cv es) (hz : z <= z') : TSj z' w0 a len cap b w wr g L cv es :=
 ⟨h.c, h.hL, h.row, h.oe, fun e he => by
  obtain ⟨q1, q2, q3, q4⟩ := h.sz e he
  exact ⟨by omega, by omega, fun y hy => by have := q3 y hy; omega, by omega⟩⟩

theorem atC_setJ : ∀ (l : List At) (j : Nat) (hj : j < l.length) (s : ByteArray), (atC l).set (j * 2 + 1) (.string s) = atC (l.set j ⟨l[j].name, s⟩)
 | y :: l, 0, _, s => rfl
 | y :: l, j + 1, h, s => by
  have ih := atC_setJ l j (by simpa using h) s
  have e1 : ∀ (y : At) (l : List At), atC (y :: l) = .string y.name :: .string y.value :: atC l := fun _ _ => rfl
  rw [e1, show (j + 1) * 2 + 1 = (j * 2 + 1) + 1 + 1 by omega, List.set_cons_succ, List.set_cons_succ, ih]
  rfl

theorem cs_same {es : List Nd.E} {x : Nat} (hx : x < es.length) {e' : Nd.E} (he : Nd.c1 e' = Nd.c1 es[x]) : Nd.cs (es.set x e') = Nd.cs es := by
 have h0 : (Nd.c1 es[x]).set 0 (.int .i64 es[x].t.kind) = Nd.c1 es[x] := rfl
 rw [<- cs_set hx (f := 0) (by omega) (he.trans h0.symm)]
 obtain ⟨k0, _⟩ := Nd.cs_get es x hx
 obtain ⟨hl, k1⟩ := List.getElem?_eq_some_iff.1 k0
 rw [show x * 4 + 0 = x * 4 from rfl, <- k1]
 exact List.set_getElem_self hl

theorem TSj.setV (h : TSj z w0 a len cap b w wr g L cv es) {x : Nat} (hx : x < es.length) {g1 : Nat} (ha : es[x].a = some ⟨g1, 0, none⟩) {j : Nat} (hj : j < es[x].t.attrs.length) {s : ByteArray} (hs : s.size <= z) :
  ∃ es', TSj z w0 a len cap b w (wr.setCell ⟨g1, j * 2 + 1, none⟩ (.string s)) g L cv es' := by
 have hown := h.oe.own _ (List.getElem_mem hx)
 have hb : (Value.slice es[x].a es[x].t.attrs.length es[x].cap).ownBlock = some g1 := by rw [ha]; rfl
 have hown2 := hown
 rw [ha] at hown2
 obtain ⟨ho', hg'⟩ := hown2.stored (j * 2 + 1) (.string s)
 rw [atC_setJ _ j hj] at ho'
 have hge := (hown.lt g1 hb).1
 obtain ⟨l', hl'⟩ : ∃ l', es[x].t.attrs.set j ⟨es[x].t.attrs[j].name, s⟩ = l' := ⟨_, rfl⟩
 have hll : l'.length = es[x].t.attrs.length := by rw [<- hl', List.length_set]
 rw [hl', <- hll, <- ha] at ho'
 obtain ⟨q1, q2, q3, q4⟩ := h.sz _ (List.getElem_mem hx)
 have apart : ∀ y (hy : y < es.length), ¬ y = x -> ¬ (Value.slice es[y].a es[y].t.attrs.length es[y].cap).ownBlock = some g1 := fun y hy hne e1 => by
  rcases Nat.lt_or_gt_of_ne hne with h' | h'
  ·exact List.pairwise_iff_getElem.1 h.oe.apo y x hy hx h' g1 e1 hb
  ·exact List.pairwise_iff_getElem.1 h.oe.apo x y hx hy h' g1 hb e1
 refine ⟨es.set x ⟨⟨es[x].t.kind, es[x].t.name, l', es[x].t.text⟩, es[x].a, es[x].cap⟩, ⟨h.c.cur.grown hg' (fun e => by have := Option.some.inj e; have := h.c.lt; omega) (fun k e => by have := Option.some.inj e; have := h.c.le; omega), g_later h.c.gr hg' hge, h.c.lt, h.c.le⟩, by rw [List.length_set]; exact h.hL, ?_, ⟨fun e he => ?_, ?_⟩, fun e he => ?_⟩
 ·rw [cs_same hx (by show [_, _, _, _] = [_, _, _, _]; rw [hll])]
  exact h.row.kept hg' (.inr (fun e => own_diff hown h.row (by decide) hb e))
 ·obtain ⟨y, hy, rfl⟩ := List.mem_iff_getElem.1 he
  rw [List.length_set] at hy
  rw [List.getElem_set]
  by_cases q : x = y
  ·rw [if_pos q]
   exact ho'
  ·rw [if_neg q]
   exact (h.oe.own _ (List.getElem_mem hy)).kept hg' (.inr (apart y hy (fun e => q e.symm)))
 ·rw [List.pairwise_iff_getElem]
  intro i k hi hk hik m
  have hi' : i < es.length := by simpa using hi
  have hk' : k < es.length := by simpa using hk
  have key : ∀ (y : Nat) (hy : y < es.length), Value.slice ((es.set x ⟨⟨es[x].t.kind, es[x].t.name, l', es[x].t.text⟩, es[x].a, es[x].cap⟩)[y]'(by simpa using hy)).a ((es.set x ⟨⟨es[x].t.kind, es[x].t.name, l', es[x].t.text⟩, es[x].a, es[x].cap⟩)[y]'(by simpa using hy)).t.attrs.length ((es.set x ⟨⟨es[x].t.kind, es[x].t.name, l', es[x].t.text⟩, es[x].a, es[x].cap⟩)[y]'(by simpa using hy)).cap = Value.slice es[y].a es[y].t.attrs.length es[y].cap := fun y hy => by
   rw [List.getElem_set]
   by_cases q : x = y
   ·subst q
    rw [if_pos rfl, <- hll]
   ·rw [if_neg q]
  rw [key i hi', key k hk']
  exact List.pairwise_iff_getElem.1 h.oe.apo i k hi' hk' hik m
 ·rcases List.mem_or_eq_of_mem_set he with h' | h'
  ·exact h.sz e h'
  ·subst h'
   refine ⟨q1, by show l'.length <= z; omega, fun y hy => ?_, q4⟩
   have hy' : y ∈ es[x].t.attrs.set j ⟨es[x].t.attrs[j].name, s⟩ := by rw [hl']; exact hy
   rcases List.mem_or_eq_of_mem_set hy' with h' | h'
   ·exact q3 y h'
   ·subst h'
    exact ⟨(q3 _ (List.getElem_mem hj)).1, hs⟩

end

theorem NSt.toJ {w0 : World} {a : Option Addr} {len cap b : Nat} {w wr : World} {a' : Option Addr} {c' : Nat} {es : List Nd.E} {at_ : Nat} (h : NSt w0 a len cap b w wr (.slice a' es.length c') es at_) (h1 : 1 <= es.length) : ∃ g, a' = some ⟨g, 0, none⟩ /\ TSj 20 w0 a len cap b w wr g es.length c' es := by
 rcases h.row.own.2 with ⟨_, h0⟩ | ⟨g, cp, cur, e, _⟩
 ·omega
 ·cases e
  exact ⟨g, rfl, h.c, rfl, h.row.own, ⟨h.own, h.apo⟩, h.sz⟩

theorem RowOf.toJ {z : Nat} {w0 : World} {a : Option Addr} {len cap b : Nat} {w w1 w' : World} {v : Value} {L : List Tk} (h : RowOf w1 w' v L) (hc : CSt w0 a len cap b w w1) (h1 : 1 <= L.length) (hz : ∀ t ∈ L, TkSz z t) : ∃ g cv es, v = .slice (some ⟨g, 0, none⟩) L.length cv /\ es.map (·.t) = L /\ TSj z w0 a len cap b w w' g L.length cv es := by
 obtain ⟨es, a', c', rfl, hr, hm, ho⟩ := h.row
 have hl : es.length = L.length := by rw [<- hm, List.length_map]
 rcases hr.own.2 with ⟨_, h0⟩ | ⟨g, cp, cur, e, _⟩
 ·omega
 ·cases e
  refine ⟨g, c', es, by rw [hl], hm, hc.belowJ h.bel, hl, ?_, ho.mono hc.gr.size, fun e he => hz _ (by rw [<- hm]; exact List.mem_map_of_mem he)⟩
  rw [<- hl]
  exact own_baseO hr.own hc.gr.size

theorem TSj.base {z : Nat} {w0 : World} {a : Option Addr} {len cap b : Nat} {w w1 wr : World} {g L cv : Nat} {es : List Nd.E} (h : TSj z w0 a len cap b w1 wr g L cv es) (hc : CSt w0 a len cap b w w1) : TSj z w0 a len cap b w wr g L cv es :=
 ⟨hc.draw h.c.cur h.c.gr, h.hL, own_baseO h.row hc.gr.size, h.oe.mono hc.gr.size, h.sz⟩

theorem TSj.out {z : Nat} {w0 : World} {a : Option Addr} {len cap b : Nat} {w w1 wr w' : World} {g L cv : Nat} {es : List Nd.E} (h : TSj z w0 a len cap b w1 wr g L cv es) (hc : CSt w0 a len cap b w w1) {k : Nat} (h1 : w.heap.size <= k) (h2 : k < w1.heap.size) (h3 : ¬ k = b) (hg : wr.grownBy w' (some k)) : TSj z w0 a len cap b w w' g L cv es := by
 have kr := h.row.kept hg (.inr (fun x => by have := (h.row.lt k x).1; omega))
 refine ⟨⟨h.c.cur.grown hg (fun e => h3 (Option.some.inj e).symm) (fun i e => by have := Option.some.inj e; have := hc.le; omega), g_own (gtrans hc.gr h.c.gr) hg (fun i e => by have := Option.some.inj e; omega), hc.lt, hc.le⟩, h.hL, own_baseO kr hc.gr.size, ⟨fun e he => own_baseO ((h.oe.own e he).kept hg (.inr (fun x => by have := ((h.oe.own e he).lt k x).1; omega))) hc.gr.size, h.oe.apo⟩, h.sz⟩

theorem seal_len {ts : List Tk} {x kn ke kd : Int} (h : ts.length <= 50) (hz : TksSz 100 ts) : (sealingL ts x kn ke kd).length <= 50 /\ TksSz 100 (sealingL ts x kn ke kd) := by
 unfold sealingL
 split
 ·split
  ·rename_i h1 h2
   unfold sealingB at h2
   rw [Bool.and_eq_true] at h2
   unfold graftL
   rw [if_pos h1, if_pos h2.2]
   have h3 := h2.2
   unfold graftB at h3
   rw [Bool.and_eq_true, Bool.and_eq_true] at h3
   have hT := treeB_p h3.2.2
   exact ⟨hT.2.1, tree_smallJ hT⟩
  ·exact ⟨h, hz⟩
 ·exact ⟨Nat.zero_le _, fun t ht => absurd ht List.not_mem_nil⟩

end Go.Proofs.YtoioiddjbanahaaGreatDoor

namespace Go.Proofs.YtoioiddjbanahaaGreatDoor

open Go.RowKit

theorem gcd_step (a b : Nat) : Nat.gcd b (a % b) = Nat.gcd a b := by
 rw [Nat.gcd_comm b (a % b), <- Nat.gcd_rec, Nat.gcd_comm]

theorem rem_tmod (a b : Nat) : (a : Int).tmod (b : Int) = ((a % b : Nat) : Int) := (Int.ofNat_tmod a b).symm

theorem quo_tdiv (a b : Nat) : (a : Int).tdiv (b : Int) = ((a / b : Nat) : Int) := (Int.ofNat_tdiv a b).symm

set_option maxHeartbeats 1000000 in
theorem cGcdL (a b : Nat) (w : World) (ha : a <= 3000000000) (hb : b <= 3000000000) :
  Calls Tryz.prog 207 #[.int .i64 a, .int .i64 b] w fun e w' => e = .returned (.int .i64 (Nat.gcd a b : Nat)) /\ w' = w := by
 obtain ⟨R, hR⟩ : ∃ R : Nat, Nat.gcd a b = R := ⟨_, rfl⟩
 have HR : Hid (Nat.gcd a b = R) := hR
 rw [hR]
 clear hR
 go_enter Tryz.func207, Tryz.ntmps207
 go_wp2
 go_loop [0, 1] (fun x y => ∃ a' b' : Nat, x = .int .i64 (a' : Int) /\ y = .int .i64 (b' : Int) /\ a' <= 3000000000 /\ b' <= 3000000000 /\ Hid (Nat.gcd a' b' = R)) (fun _ y => (intOf y).toNat)
 case atStart => exact ⟨a, b, rfl, rfl, ha, hb, HR⟩
 case round =>
  obtain ⟨a', b', rfl, rfl, ha', hb', HG⟩ := hrel
  by_cases hz : b' = 0
  ·subst hz
   have := HG.out
   rw [Nat.gcd_zero_right] at this
   subst this
   clear HG
   go_wp2
   go_ret
   exact ⟨rfl, rfl⟩
  ·have hpos : decide ((0 : Int) < (b' : Int)) = true := by simp; omega
   have hne : ¬ (b' : Int) = 0 := by omega
   have hm := rem_tmod a' b'
   have hlt : a' % b' < b' := Nat.mod_lt _ (by omega)
   have HN : Hid (Nat.gcd b' (a' % b') = R) := by
    have := gcd_step a' b'
    rw [HG.out] at this
    exact this
   generalize a' % b' = r at *
   have e4 : wrap64 (r : Int) = (r : Int) := IntWalk.wrap64_in _ (by omega)
   clear HG
   go_wp2
   go_round
   case rel => exact ⟨b', r, rfl, rfl, hb', by omega, HN⟩
   case measure => simp [intOf]; omega

theorem small64 (k : Nat) (h : k <= 3000000000) : wrap64 (k : Int) = (k : Int) /\ IntKind.i64.wrap (k : Int) = (k : Int) :=
 ⟨IntWalk.wrap64_in _ (by omega), IntWalk.i64_in _ (by omega)⟩

theorem great_facts (g r : Nat) (hg : g <= 3000000000) (hr : r <= 3000000000) (hz : ¬ r = 0) : ∃ q k P : Nat, g % r = k /\ k < r /\ (g : Int).tdiv (r : Int) = (q : Int) /\ wrap64 (q : Int) = (q : Int)
  /\ wrap64 ((q : Int) * (r : Int)) = (P : Int) /\ IntKind.i64.wrap ((q : Int) * (r : Int)) = (P : Int) /\ wrap64 ((g : Int) - (P : Int)) = (k : Int) /\ IntKind.i64.wrap ((g : Int) - (P : Int)) = (k : Int) := by
 have hdm := Nat.div_add_mod g r
 have hlt : g % r < r := Nat.mod_lt _ (Nat.pos_of_ne_zero hz)
 have hq : g / r <= 3000000000 := Nat.le_trans (Nat.div_le_self g r) hg
 have hP : r * (g / r) <= 3000000000 := Nat.le_trans (Nat.mul_div_le g r) hg
 have hk : g % r <= 3000000000 := Nat.le_trans (Nat.mod_le g r) hg
 have ePi : ((g / r : Nat) : Int) * (r : Int) = ((r * (g / r) : Nat) : Int) := by rw [Int.mul_comm]; simp
 have eS : (g : Int) - ((r * (g / r) : Nat) : Int) = ((g % r : Nat) : Int) := by
  have : (g : Int) = ((r * (g / r) + g % r : Nat) : Int) := by rw [hdm]
  rw [this, Int.natCast_add]
  generalize ((r * (g / r) : Nat) : Int) = x; generalize ((g % r : Nat) : Int) = y; omega
 refine ⟨g / r, g % r, r * (g / r), rfl, hlt, quo_tdiv g r, (small64 _ hq).1, ?_, ?_, ?_, ?_⟩
 ·rw [ePi]; exact (small64 _ hP).1
 ·rw [ePi]; exact (small64 _ hP).2
 ·rw [eS]; exact (small64 _ hk).1
 ·rw [eS]; exact (small64 _ hk).2

end Go.Proofs.YtoioiddjbanahaaGreatDoor

namespace Go.Proofs.YtoioiddjbanahaaGreatDoor

open Go.RowKit

def IsI (a n X : Int) : Prop := restOk a n /\ 0 < X /\ X < n /\ (X * a) % n = 1

theorem IsI.unique {a n X Y : Int} (h : IsI a n X) (k : IsI a n Y) : X = Y := by
 obtain ⟨_, h1, h2, h3⟩ := h
 obtain ⟨_, k1, k2, k3⟩ := k
 have e1 : (X * (Y * a)) % n = X := by
  rw [Int.mul_emod, k3, Int.mul_one, Int.emod_emod]
  exact Int.emod_eq_of_lt (by omega) h2
 have e2 : (X * (Y * a)) % n = Y := by
  rw [Int.mul_left_comm, Int.mul_emod, h3, Int.mul_one, Int.emod_emod]
  exact Int.emod_eq_of_lt (by omega) k2
 rw [<- e1, e2]

theorem isI_of {a n x k : Int} (hr : restOk a n) (h : x * a = 1 + k * n) : ∀ X : Int, (∃ j : Int, X = x + j * n) -> 0 <= X -> X < n -> IsI a n X := by
 rintro X ⟨j, rfl⟩ h0 h1
 have hn : 2 <= n := hr.1.1
 have e : (x + j * n) * a = 1 + n * (k + j * a) := by
  rw [Int.add_mul, h, Int.mul_add, Int.mul_right_comm j n a, Int.mul_comm (j * a) n, Int.mul_comm k n]
  omega
 have hm : ((x + j * n) * a) % n = 1 := by
  rw [e, Int.add_mul_emod_self_left]
  exact Int.emod_eq_of_lt (by omega) (by omega)
 refine ⟨hr, ?_, h1, hm⟩
 rcases Int.lt_or_eq_of_le h0 with h' | h'
 ·exact h'
 ·rw [<- h'] at hm
  simp at hm

theorem isI_gcd {a n X : Int} (h : IsI a n X) : Nat.gcd a.toNat n.toNat = 1 := by
 obtain ⟨hr, _, _, h3⟩ := h
 have hn : 2 <= n := hr.1.1
 have ea : (a.toNat : Int) = a := Int.toNat_of_nonneg hr.2.1
 have en : (n.toNat : Int) = n := Int.toNat_of_nonneg (by omega)
 have da : ((Nat.gcd a.toNat n.toNat : Nat) : Int) ∣ a := by
  rw [<- ea]; simp only [Int.toNat_natCast]; exact Int.natCast_dvd_natCast.2 (Nat.gcd_dvd_left _ _)
 have dn : ((Nat.gcd a.toNat n.toNat : Nat) : Int) ∣ n := by
  rw [<- en]; simp only [Int.toNat_natCast]; exact Int.natCast_dvd_natCast.2 (Nat.gcd_dvd_right _ _)
 have d1 : ((Nat.gcd a.toNat n.toNat : Nat) : Int) ∣ 1 := by
  rw [<- h3]
  have e := Int.mul_ediv_add_emod (X * a) n
  have e2 : X * a % n = X * a - n * (X * a / n) := by omega
  rw [e2]
  exact Int.dvd_sub (Int.dvd_mul_of_dvd_right da) (Int.dvd_mul_of_dvd_left dn)
 have := Int.natCast_dvd_natCast.1 (show ((Nat.gcd a.toNat n.toNat : Nat) : Int) ∣ ((1 : Nat) : Int) from d1)
 exact Nat.dvd_one.1 this

noncomputable def invI (a n : Int) : Int := open Classical in if h : ∃ X, IsI a n X then h.choose else 0

theorem invI_eq {a n X : Int} (h : IsI a n X) : invI a n = X := by
 have hx : ∃ X, IsI a n X := ⟨X, h⟩
 unfold invI
 rw [dif_pos hx]
 exact hx.choose_spec.unique h

theorem invI_none {a n : Int} (h : ¬ ∃ X, IsI a n X) : invI a n = 0 := by
 unfold invI
 rw [dif_neg h]

theorem invI_range {a n : Int} (h : ¬ restOk a n) : invI a n = 0 := invI_none (fun ⟨_, k⟩ => h k.1)

theorem invI_gcd {a n : Int} (h : ¬ Nat.gcd a.toNat n.toNat = 1) : invI a n = 0 := invI_none (fun ⟨_, k⟩ => h (isI_gcd k))

theorem invI_is {a n : Int} (h : ¬ invI a n = 0) : IsI a n (invI a n) := by
 by_cases k : ∃ X, IsI a n X
 ·obtain ⟨X, hX⟩ := k
  rw [invI_eq hX]
  exact hX
 ·exact absurd (invI_none k) h

def Kept (a n p q : Nat) (x y : Int) : Prop :=
 (∃ k : Int, x * a = p + k * n) /\ (∃ k : Int, y * a = q + k * n) /\ p * y.natAbs + q * x.natAbs = n /\ ((0 <= x /\ y <= 0) \/ (x <= 0 /\ 0 <= y)) /\ x.natAbs <= n /\ y.natAbs <= n

theorem abs_step (x y : Int) (k : Nat) (h : (0 <= x /\ y <= 0) \/ (x <= 0 /\ 0 <= y)) : (x - k * y).natAbs = x.natAbs + k * y.natAbs /\ ((0 <= y /\ x - k * y <= 0) \/ (y <= 0 /\ 0 <= x - k * y)) := by
 rcases h with ⟨h1, h2⟩ | ⟨h1, h2⟩
 ·obtain ⟨X, rfl⟩ : ∃ X : Nat, x = X := ⟨x.toNat, by omega⟩
  obtain ⟨Y, rfl⟩ : ∃ Y : Nat, y = -(Y : Int) := ⟨(-y).toNat, by omega⟩
  have e : (X : Int) - (k : Int) * -(Y : Int) = ((X + k * Y : Nat) : Int) := by rw [Int.natCast_add, Int.natCast_mul, Int.mul_neg]; omega
  rw [e]
  refine ⟨?_, .inr ⟨by omega, by omega⟩⟩
  rw [Int.natAbs_natCast, Int.natAbs_natCast, Int.natAbs_neg, Int.natAbs_natCast]
 ·obtain ⟨X, rfl⟩ : ∃ X : Nat, x = -(X : Int) := ⟨(-x).toNat, by omega⟩
  obtain ⟨Y, rfl⟩ : ∃ Y : Nat, y = (Y : Int) := ⟨y.toNat, by omega⟩
  have e : -(X : Int) - (k : Int) * (Y : Int) = -((X + k * Y : Nat) : Int) := by rw [Int.natCast_add, Int.natCast_mul]; omega
  rw [e]
  refine ⟨?_, .inl ⟨by omega, by omega⟩⟩
  rw [Int.natAbs_neg, Int.natAbs_natCast, Int.natAbs_neg, Int.natAbs_natCast, Int.natAbs_natCast]

theorem Kept.step {a n p q : Nat} {x y : Int} (h : Kept a n p q x y) (hq : 0 < q) :
  Kept a n q (p % q) y (x - ((p / q : Nat) : Int) * y) /\ (p / q) * y.natAbs <= n := by
 obtain ⟨⟨k1, h1⟩, ⟨k2, h2⟩, h3, h4, h5, h6⟩ := h
 have hdm := Nat.div_add_mod p q
 obtain ⟨e1, e2⟩ := abs_step x y (p / q) h4
 generalize p / q = k at *
 generalize p % q = r at *
 have e3 : q * (x - (k : Int) * y).natAbs + r * y.natAbs = n := by
  rw [e1, Nat.mul_add, <- h3, <- hdm, Nat.add_mul, Nat.mul_assoc]
  omega
 have hle : (x - (k : Int) * y).natAbs <= n := by
  have := Nat.mul_le_mul_right (x - (k : Int) * y).natAbs (show 1 <= q from hq)
  rw [Nat.one_mul] at this
  omega
 refine ⟨⟨⟨k2, h2⟩, ⟨k1 - k * k2, ?_⟩, e3, e2, h6, hle⟩, by omega⟩
 have ep : (p : Int) = (q : Int) * k + r := by rw [<- hdm, Int.natCast_add, Int.natCast_mul]
 rw [Int.sub_mul, h1, Int.mul_assoc, h2, ep, Int.mul_add, Int.sub_mul, Int.mul_assoc, Int.mul_comm (q : Int) k]
 omega

theorem kept_spec (a n : Nat) (hn : 1 <= n) : Kept a n a n 1 0 :=
 ⟨⟨0, by omega⟩, ⟨-1, by omega⟩, by simp, .inl (by omega), by simpa using hn, by simp⟩

theorem kept_end {a n : Nat} {x y : Int} (h : Kept a n 1 0 x y) (hr : restOk a n) : (- (n : Int) < x /\ x < n) /\ ((x < 0 -> invI a n = x + n) /\ (¬ x < 0 -> invI a n = x)) := by
 obtain ⟨⟨k, h1⟩, _, _, _, h5, _⟩ := h
 have hn : 2 <= (n : Int) := hr.1.1
 have hk : x * (a : Int) = 1 + k * n := h1
 have no : ∀ j : Int, ¬ x = j * n := by
  intro j hj
  have e : (1 : Int) = (n : Int) * (j * a - k) := by
   rw [hj, Int.mul_right_comm] at hk
   rw [Int.mul_sub, Int.mul_comm (n : Int) (j * a), Int.mul_comm (n : Int) k]
   omega
  have hd : (n : Int) ∣ 1 := ⟨_, e⟩
  have := Int.le_of_dvd (by omega) hd
  omega
 have n1 := no 1
 have n2 := no (-1)
 have hx : - (n : Int) < x /\ x < n := by omega
 refine ⟨hx, fun h => ?_, fun h => ?_⟩
 ·exact invI_eq (isI_of hr hk (x + n) ⟨1, by omega⟩ (by omega) (by omega))
 ·exact invI_eq (isI_of hr hk x ⟨0, by omega⟩ (by omega) (by omega))

theorem tmod_end (x n : Int) (h1 : - n < x) (h2 : x < n) : x.tmod n = x /\ (x < 0 -> (x + n).tmod n = x + n) /\ (¬ x < 0 -> (x + n).tmod n = x) := by
 have pos : ∀ y : Int, 0 <= y -> y < n -> y.tmod n = y := fun y a b => Int.tmod_eq_of_lt a b
 refine ⟨?_, fun h => pos _ (by omega) (by omega), fun h => ?_⟩
 ·by_cases h : x < 0
  ·have e : x = -(-x) := by omega
   rw [e, Int.neg_tmod, pos (-x) (by omega) (by omega)]
  ·exact pos x (by omega) h2
 ·rw [Int.tmod_eq_emod_of_nonneg (by omega), Int.add_emod_right]
  exact Int.emod_eq_of_lt (by omega) h2

theorem fac_facts (q n : Nat) (x y : Int) (hn : n <= 3000000000) (h : q * y.natAbs <= n) (k : (x - (q : Int) * y).natAbs <= n) :
  ∃ M Z : Int, x - (q : Int) * y = Z /\ wrap64 ((q : Int) * y) = M /\ IntKind.i64.wrap ((q : Int) * y) = M /\ wrap64 (x - M) = Z /\ IntKind.i64.wrap (x - M) = Z := by
 have e : ((q : Int) * y).natAbs <= n := by rw [Int.natAbs_mul, Int.natAbs_natCast]; exact h
 generalize (q : Int) * y = M at *
 have hM : wrap64 M = M := IntWalk.wrap64_in _ (by omega)
 have hM2 : IntKind.i64.wrap M = M := IntWalk.i64_in _ (by omega)
 exact ⟨M, x - M, rfl, hM, hM2, IntWalk.wrap64_in _ (by omega), IntWalk.i64_in _ (by omega)⟩

theorem great_facts2 (g r : Nat) (hg : g <= 3000000000) (hr : r <= 3000000000) (hz : ¬ r = 0) : ∃ q k P : Nat, g / r = q /\ g % r = k /\ k < r /\ (g : Int).tdiv (r : Int) = (q : Int) /\ wrap64 (q : Int) = (q : Int)
  /\ wrap64 ((q : Int) * (r : Int)) = (P : Int) /\ IntKind.i64.wrap ((q : Int) * (r : Int)) = (P : Int) /\ wrap64 ((g : Int) - (P : Int)) = (k : Int) /\ IntKind.i64.wrap ((g : Int) - (P : Int)) = (k : Int) := by
 obtain ⟨q, k, P, h1, h2, h3, h⟩ := great_facts g r hg hr hz
 refine ⟨q, k, P, ?_, h1, h2, h3, h⟩
 rw [quo_tdiv] at h3
 omega

end Go.Proofs.YtoioiddjbanahaaGreatDoor
