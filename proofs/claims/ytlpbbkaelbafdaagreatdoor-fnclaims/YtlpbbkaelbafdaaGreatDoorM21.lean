/-  -/
import Derived.Test.YtlpbbkaelbafdaaGreatDoorM20
import Derived.Test.YtlpbbkaelbafdaaGreatDoorM11
import Derived.Test.YtlpbbkaelbafdaaGreatDoorM18
import Derived.Test.YtlpbbkaelbafdaaGreatDoorM16
import Derived.Maps.AppendAt
import Derived.Deep.RegionHeld3
set_option linter.unusedVariables false
set_option linter.unusedSimpArgs false
namespace Go.Proofs.YtlpbbkaelbafdaaGreatDoor
open Go.RowKit

structure DSt (w wr : World) (B4 B6 bc gn : Nat) (idv : ByteArray) (fr ti : Int) (v : Value) (tl : List ByteArray) : Prop where
 bel : Below w.heap.size w wr
 h4 : wr.heap[B4]? = some (.cells #[.string ⟨#[]⟩, .string ⟨#[]⟩, .string ⟨#[]⟩, .int .i64 0, .int .i64 0, .string ⟨#[]⟩, .string ⟨#[]⟩, .slice none 0 0] 26 (0, 0))
 h6 : wr.heap[B6]? = some (.cells #[.string ⟨#[]⟩, .string ⟨#[]⟩, .string ⟨#[]⟩, .int .i64 0, .int .i64 0, .string ⟨#[]⟩, .string ⟨#[]⟩, .slice none 0 0] 26 (0, 0))
 hc : wr.heap[bc]? = some (.cells #[.string idv, .string ⟨#[]⟩, .string ⟨#[]⟩, .int .i64 fr, .int .i64 ti, .string ⟨#[]⟩, .string ⟨#[]⟩, .slice none 0 0] 26 (0, 0))
 hg : wr.heap[gn]? = some (.cells nmCells 9 (0, 0))
 own : wr.ownsRow w.heap.size 9 1 v tl.length (keyV tl)
 n4 : ¬ v.ownBlock = some B4
 n6 : ¬ v.ownBlock = some B6
 nc : ¬ v.ownBlock = some bc
 ng : ¬ v.ownBlock = some gn
 c4 : w.heap.size <= B4
 c6 : ¬ B4 = B6
 cc : w.heap.size <= bc
 d4 : ¬ bc = B4
 d6 : ¬ bc = B6
 dg : ¬ bc = gn

theorem DSt.below {w wr w' : World} {B4 B6 bc gn : Nat} {idv : ByteArray} {fr ti : Int} {v : Value} {tl : List ByteArray} (h : DSt w wr B4 B6 bc gn idv fr ti v tl) (hb : Below wr.heap.size wr w') : DSt w w' B4 B6 bc gn idv fr ti v tl :=
 ⟨bb h.bel hb, blk_below h.h4 hb, blk_below h.h6 hb, blk_below h.hc hb, blk_below h.hg hb, ownsRow_below h.own hb, h.n4, h.n6, h.nc, h.ng, h.c4, h.c6, h.cc, h.d4, h.d6, h.dg⟩

theorem DSt.more {w wr w' : World} {B4 B6 bc gn : Nat} {idv : ByteArray} {fr ti : Int} {v v' : Value} {tl : List ByteArray} {s : ByteArray} (h : DSt w wr B4 B6 bc gn idv fr ti v tl) (ho : w'.ownsRow w.heap.size 9 1 v' (tl.length + 1) (keyV tl ++ [.string s])) (hgr : wr.grownBy w' v.ownBlock) (hw : v'.ownBlock = v.ownBlock \/ v'.ownBlock = some wr.heap.size) : DSt w w' B4 B6 bc gn idv fr ti v' (tl ++ [s]) := by
 have key : ∀ b o, wr.heap[b]? = some o -> ¬ v.ownBlock = some b -> w'.heap[b]? = some o /\ ¬ v'.ownBlock = some b := fun b o hb k => by
  refine ⟨(hgr.block b (lt_of_heap hb) (fun x => k x.symm)).trans hb, fun x => ?_⟩
  rcases hw with hw | hw
  ·exact k (hw.symm.trans x)
  ·rw [hw] at x
   have := lt_of_heap hb
   have := Option.some.inj x
   omega
 have ek : keyV (tl ++ [s]) = keyV tl ++ [.string s] := by unfold keyV; rw [List.map_append]; rfl
 exact ⟨h.bel.grown hgr h.bel.size (fun k e => (h.own.lt k e).1), (key _ _ h.h4 h.n4).1, (key _ _ h.h6 h.n6).1, (key _ _ h.hc h.nc).1, (key _ _ h.hg h.ng).1, by rw [List.length_append, ek]; exact ho, (key _ _ h.h4 h.n4).2, (key _ _ h.h6 h.n6).2, (key _ _ h.hc h.nc).2, (key _ _ h.hg h.ng).2, h.c4, h.c6, h.cc, h.d4, h.d6, h.dg⟩

theorem DSt.times {w wr : World} {B4 B6 bc gn : Nat} {idv : ByteArray} {fr ti : Int} {v : Value} {tl : List ByteArray} (h : DSt w wr B4 B6 bc gn idv fr ti v tl) (x y : Int) : DSt w ((wr.setCell ⟨bc, 3, none⟩ (.int .i64 x)).setCell ⟨bc, 4, none⟩ (.int .i64 y)) B4 B6 bc gn idv x y v tl := by
 have s1 : ∀ b (i : Nat) (u : Value) (W : World) o, ¬ b = bc -> W.heap[b]? = some o -> (W.setCell ⟨bc, i, none⟩ u).heap[b]? = some o := fun b i u W o hb h => (Below.heap_setCell _ _ _ _ hb).trans h
 have hc1 := heap_setCell_same wr bc 3 _ _ (.int .i64 x) h.hc
 have hc2 := heap_setCell_same _ bc 4 _ _ (.int .i64 y) hc1
 refine ⟨(h.bel.setCell h.cc _).setCell h.cc _, s1 _ _ _ _ _ (fun e => h.d4 e.symm) (s1 _ _ _ _ _ (fun e => h.d4 e.symm) h.h4), s1 _ _ _ _ _ (fun e => h.d6 e.symm) (s1 _ _ _ _ _ (fun e => h.d6 e.symm) h.h6), hc2, s1 _ _ _ _ _ (fun e => h.dg e.symm) (s1 _ _ _ _ _ (fun e => h.dg e.symm) h.hg), ?_, h.n4, h.n6, h.nc, h.ng, h.c4, h.c6, h.cc, h.d4, h.d6, h.dg⟩
 refine ⟨h.own.1, ?_⟩
 rcases h.own.2 with h' | ⟨g, cap, cur, k1, k2, k3, k4⟩
 ·exact .inl h'
 ·refine .inr ⟨g, cap, cur, k1, k2, ?_, k4⟩
  have hne : ¬ g = bc := fun e => h.nc (by rw [k1, <- e]; rfl)
  exact s1 _ _ _ _ _ hne (s1 _ _ _ _ _ hne k3)

theorem nm_at : ∀ q, q < 5 -> nmCells[q]? = some (.string (localN q))
 | 0, _ => rfl
 | 1, _ => rfl
 | 2, _ => rfl
 | 3, _ => rfl
 | 4, _ => rfl

theorem DSt.nm {w wr : World} {B4 B6 bc gn : Nat} {idv : ByteArray} {fr ti : Int} {v : Value} {tl : List ByteArray} (h : DSt w wr B4 B6 bc gn idv fr ti v tl) {q : Nat} (hq : q < 5) : wr.cell? ⟨gn, q, none⟩ = some (.string (localN q)) := by
 rw [Lib.cell_of_heap h.hg]
 exact nm_at q hq

theorem one_int {w : World} {B j : Nat} {v : Value} (h : w.ownsRow B 2 1 v 1 (intC [j])) : ∃ g c cu, v = .slice (some ⟨g, 0, none⟩) 1 c /\ B <= g /\ w.heap[g]? = some (.cells cu 2 (0, 0)) /\ cu[0]? = some (.int .i64 (j : Int)) := by
 rcases h.2 with ⟨_, h0⟩ | ⟨g, cap, cur, e, hg, hh, hn, hc, hs, ht⟩
 ·cases h0
 ·refine ⟨g, cap, cur, e, hg, hh, ?_⟩
  have h1 : (cur.toList.take (1 * 1))[0]? = some (.int .i64 (j : Int)) := by rw [ht]; rfl
  rw [List.getElem?_take] at h1
  split at h1
  ·rw [<- Array.getElem?_toList]; exact h1
  ·cases h1

end Go.Proofs.YtlpbbkaelbafdaaGreatDoor

namespace Go.Proofs.YtlpbbkaelbafdaaGreatDoor
open Go.RowKit

def qaC (l : List At) : List Value := l.flatMap fun x => [.string x.name, .string x.value]

theorem qaC_app (l m : List At) : qaC (l ++ m) = qaC l ++ qaC m := by unfold qaC; rw [List.flatMap_append]

theorem qaC_len (l : List At) : (qaC l).length = l.length * 2 := by
 induction l with
 | nil => rfl
 | cons x l ih => show (qaC l).length + 2 = _; rw [ih, List.length_cons]; omega

theorem qaC_get (l : List At) (j : Nat) (h : j < l.length) : (qaC l)[j * 2]? = some (.string l[j].name) /\ (qaC l)[j * 2 + 1]? = some (.string l[j].value) := by
 induction l generalizing j with
 | nil => simp at h
 | cons x l ih =>
  have e : qaC (x :: l) = .string x.name :: .string x.value :: qaC l := rfl
  rw [e]
  match j with
  | 0 => exact ⟨rfl, rfl⟩
  | j + 1 =>
   have := ih j (by simpa using h)
   rw [show (j + 1) * 2 = j * 2 + 1 + 1 by omega]
   exact this

theorem infoQA : (Tryz.prog.info? 40).map (fun i => (i.zero, i.size, i.bytes)) = some (some (.agg #[.string ⟨#[]⟩, .string ⟨#[]⟩]), 2, 32) := by kernel_rfl

theorem qa_own {w : World} {B : Nat} {v : Value} {l : List At} (h : w.ownsRow B 40 2 v l.length (qaC l)) : ∃ a c, v = .slice a l.length c /\ OwnAts w B a l := by
 rcases h.2 with ⟨rfl, h0⟩ | ⟨g, cap, cur, rfl, hg, hh, hn, hc, hs, ht⟩
 ·exact ⟨none, 0, by rw [h0], fun hl => by omega⟩
 ·refine ⟨some ⟨g, 0, none⟩, cap, rfl, fun hl => ⟨g, 0, cur, rfl, hg, hh, fun m hm => ?_⟩⟩
  obtain ⟨k0, k1⟩ := qaC_get l m hm
  have hx : ∀ (k : Nat) (u : Value), (qaC l)[k]? = some u -> cur[k]? = some u := by
   intro k u hk
   rw [<- Array.getElem?_toList]
   rw [<- ht, List.getElem?_take] at hk
   split at hk
   ·exact hk
   ·cases hk
  rw [Nat.zero_add]
  exact ⟨hx _ _ k0, hx _ _ k1⟩

theorem OwnAts.rd {w : World} {B : Nat} {a : Option Addr} {l : List At} (h : OwnAts w B a l) : AtRow w a l := fun j hj => by
 obtain ⟨g, o, cu, e1, e2, e3, e4⟩ := h (Nat.lt_of_le_of_lt (Nat.zero_le _) hj)
 rw [e1]
 exact e4.atRow e3 j hj

def KidK (wr : World) (v : Value) (bc : Nat) (al : Option Addr) (L : List Nat) : Prop := 0 < L.length -> ∃ g cu, al = some ⟨g, 0, none⟩ /\ wr.heap[g]? = some (.cells cu 2 (0, 0)) /\ (¬ v.ownBlock = some g) /\ (¬ g = bc) /\ ∀ i (h : i < L.length), cu[i]? = some (.int .i64 ((L[i] : Nat) : Int))

theorem kid_of {w : World} {B bc : Nat} {v : Value} {L : List Nat} (h : w.ownsRow B 2 1 v L.length (intC L)) (hb : bc < B) : ∃ a c, v = .slice a L.length c /\ ∀ u : Value, (∀ g, B <= g -> ¬ u.ownBlock = some g) -> KidK w u bc a L := by
 rcases h.2 with ⟨rfl, h0⟩ | ⟨g, cap, cur, rfl, hg, hh, hn, hc, hs, ht⟩
 ·exact ⟨none, 0, by rw [h0], fun u _ hl => by omega⟩
 ·refine ⟨some ⟨g, 0, none⟩, cap, rfl, fun u hu hl => ⟨g, cur, rfl, hh, hu g hg, by omega, fun i hi => ?_⟩⟩
  have h1 : (cur.toList.take (L.length * 1))[i]? = some (.int .i64 ((L[i] : Nat) : Int)) := by
   rw [ht]
   unfold intC
   rw [List.getElem?_map, List.getElem?_eq_getElem hi]
   rfl
  rw [List.getElem?_take] at h1
  split at h1
  ·rw [<- Array.getElem?_toList]; exact h1
  ·cases h1

structure FSt (w wr : World) (B4 B6 bc : Nat) (x : Cm) (v : Value) (fl : List At) (al : Option Addr) (L : List Nat) : Prop where
 bel : Below w.heap.size w wr
 h4 : wr.heap[B4]? = some (.cells #[.string ⟨#[]⟩, .string ⟨#[]⟩, .string ⟨#[]⟩, .int .i64 0, .int .i64 0, .string ⟨#[]⟩, .string ⟨#[]⟩, .slice none 0 0] 26 (0, 0))
 h6 : wr.heap[B6]? = some (.cells #[.string ⟨#[]⟩, .string ⟨#[]⟩, .string ⟨#[]⟩, .int .i64 0, .int .i64 0, .string ⟨#[]⟩, .string ⟨#[]⟩, .slice none 0 0] 26 (0, 0))
 hc : wr.heap[bc]? = some (.cells #[.string x.id, .string x.iss, .string x.sub, .int .i64 x.frm, .int .i64 x.til, .string x.whom, .string x.ans, v] 26 (0, 0))
 own : wr.ownsRow w.heap.size 40 2 v fl.length (qaC fl)
 kd : KidK wr v bc al L
 n4 : ¬ v.ownBlock = some B4
 n6 : ¬ v.ownBlock = some B6
 nc : ¬ v.ownBlock = some bc
 c4 : w.heap.size <= B4
 cc : w.heap.size <= bc
 d4 : ¬ bc = B4
 d6 : ¬ bc = B6

theorem KidK.kept {w w' : World} {v v' : Value} {bc : Nat} {al : Option Addr} {L : List Nat} (h : KidK w v bc al L) (k : Kept v w v' w') : KidK w' v' bc al L := fun hl => by
 obtain ⟨g, cu, e1, e2, e3, e4, e5⟩ := h hl
 exact ⟨g, cu, e1, (k _ _ e2 e3).1, (k _ _ e2 e3).2, e4, e5⟩

theorem FSt.below {w wr w' : World} {B4 B6 bc : Nat} {x : Cm} {v : Value} {fl : List At} {al : Option Addr} {L : List Nat} (h : FSt w wr B4 B6 bc x v fl al L) (hb : Below wr.heap.size wr w') : FSt w w' B4 B6 bc x v fl al L :=
 ⟨bb h.bel hb, blk_below h.h4 hb, blk_below h.h6 hb, blk_below h.hc hb, ownsRow_below h.own hb, h.kd.kept (Kept.of_below hb), h.n4, h.n6, h.nc, h.c4, h.cc, h.d4, h.d6⟩

theorem FSt.more {w wr w' : World} {B4 B6 bc : Nat} {x : Cm} {v v' : Value} {fl : List At} {al : Option Addr} {L : List Nat} {s t : ByteArray} (h : FSt w wr B4 B6 bc x v fl al L) (ho : w'.ownsRow w.heap.size 40 2 v' (fl.length + 1) (qaC fl ++ [.string s, .string t])) (hgr : wr.grownBy w' v.ownBlock) (hw : v'.ownBlock = v.ownBlock \/ v'.ownBlock = some wr.heap.size) : FSt w (w'.setCell ⟨bc, 7, none⟩ v') B4 B6 bc x v' (fl ++ [⟨s, t⟩]) al L := by
 have key : Kept v wr v' w' := fun b o hb k => by
  refine ⟨(hgr.block b (lt_of_heap hb) (fun x => k x.symm)).trans hb, fun x => ?_⟩
  rcases hw with hw | hw
  ·exact k (hw.symm.trans x)
  ·rw [hw] at x
   have := lt_of_heap hb
   have := Option.some.inj x
   omega
 have ek : qaC (fl ++ [⟨s, t⟩]) = qaC fl ++ [.string s, .string t] := by rw [qaC_app]; rfl
 have hc1 := heap_setCell_same w' bc 7 _ _ v' (key _ _ h.hc h.nc).1
 have st : ∀ b o, ¬ b = bc -> w'.heap[b]? = some o -> (w'.setCell ⟨bc, 7, none⟩ v').heap[b]? = some o := fun b o hb h => (Below.heap_setCell _ _ _ _ hb).trans h
 have nc' := (key _ _ h.hc h.nc).2
 refine ⟨(h.bel.grown hgr h.bel.size (fun k e => (h.own.lt k e).1)).setCell h.cc _, st _ _ (fun e => h.d4 e.symm) (key _ _ h.h4 h.n4).1, st _ _ (fun e => h.d6 e.symm) (key _ _ h.h6 h.n6).1, hc1, ?_, fun hl => ?_, (key _ _ h.h4 h.n4).2, (key _ _ h.h6 h.n6).2, nc', h.c4, h.cc, h.d4, h.d6⟩
 ·rw [List.length_append, ek]
  refine ⟨ho.1, ?_⟩
  rcases ho.2 with h' | ⟨g, cap, cur, k1, k2, k3, k4⟩
  ·exact .inl h'
  ·refine .inr ⟨g, cap, cur, k1, k2, st _ _ (fun e => nc' (by rw [k1, <- e]; rfl)) k3, k4⟩
 ·obtain ⟨g, cu, e1, e2, e3, e4, e5⟩ := (h.kd.kept key) hl
  exact ⟨g, cu, e1, st _ _ e4 e2, e3, e4, e5⟩

theorem txt_row {w : World} {B : Nat} {v : Value} {l : List ByteArray} (h : w.ownsRow B 9 1 v l.length (keyV l)) (hl : 0 < l.length) : ∃ g c cu, v = .slice (some ⟨g, 0, none⟩) l.length c /\ w.heap[g]? = some (.cells cu 9 (0, 0)) /\ ∀ i (h : i < l.length), cu[i]? = some (.string l[i]) := by
 rcases h.2 with ⟨_, h0⟩ | ⟨g, cap, cur, e, hg, hh, hn, hc, hs, ht⟩
 ·omega
 ·refine ⟨g, cap, cur, e, hh, fun i hi => ?_⟩
  have h1 : (cur.toList.take (l.length * 1))[i]? = some (.string l[i]) := by
   rw [ht]
   unfold keyV
   rw [List.getElem?_map, List.getElem?_eq_getElem hi]
   rfl
  rw [List.getElem?_take] at h1
  split at h1
  ·rw [<- Array.getElem?_toList]; exact h1
  ·cases h1

theorem DSt.fin {w wr : World} {B4 B6 bc gn : Nat} {idv : ByteArray} {fr ti : Int} {v : Value} {tl : List ByteArray} (h : DSt w wr B4 B6 bc gn idv fr ti v tl) (T0 T1 T3 T4 : ByteArray) {W : World} (hW : (((wr.setCell ⟨bc, 1, none⟩ (.string T0)).setCell ⟨bc, 2, none⟩ (.string T1)).setCell ⟨bc, 5, none⟩ (.string T3)).setCell ⟨bc, 6, none⟩ (.string T4) = W) :
  Below w.heap.size w W /\ W.heap[B4]? = some (.cells #[.string ⟨#[]⟩, .string ⟨#[]⟩, .string ⟨#[]⟩, .int .i64 0, .int .i64 0, .string ⟨#[]⟩, .string ⟨#[]⟩, .slice none 0 0] 26 (0, 0)) /\ W.heap[B6]? = some (.cells #[.string ⟨#[]⟩, .string ⟨#[]⟩, .string ⟨#[]⟩, .int .i64 0, .int .i64 0, .string ⟨#[]⟩, .string ⟨#[]⟩, .slice none 0 0] 26 (0, 0)) /\ W.heap[bc]? = some (.cells #[.string idv, .string T0, .string T1, .int .i64 fr, .int .i64 ti, .string T3, .string T4, .slice none 0 0] 26 (0, 0)) := by
 subst hW
 have s1 : ∀ b (i : Nat) (u : Value) (W : World) o, ¬ b = bc -> W.heap[b]? = some o -> (W.setCell ⟨bc, i, none⟩ u).heap[b]? = some o := fun b i u W o hb h => (Below.heap_setCell _ _ _ _ hb).trans h
 have k1 := heap_setCell_same wr bc 1 _ _ (.string T0) h.hc
 have k2 := heap_setCell_same _ bc 2 _ _ (.string T1) k1
 have k3 := heap_setCell_same _ bc 5 _ _ (.string T3) k2
 have k4 := heap_setCell_same _ bc 6 _ _ (.string T4) k3
 have e4 : ¬ B4 = bc := fun e => h.d4 e.symm
 have e6 : ¬ B6 = bc := fun e => h.d6 e.symm
 exact ⟨(((h.bel.setCell h.cc _).setCell h.cc _).setCell h.cc _).setCell h.cc _, s1 _ _ _ _ _ e4 (s1 _ _ _ _ _ e4 (s1 _ _ _ _ _ e4 (s1 _ _ _ _ _ e4 h.h4))), s1 _ _ _ _ _ e6 (s1 _ _ _ _ _ e6 (s1 _ _ _ _ _ e6 (s1 _ _ _ _ _ e6 h.h6))), k4⟩

theorem txN_sz {ts : List Tk} (hT : TreeP ts) (j : Nat) : (txN ts j).size <= 3000 := by
 unfold txN
 have h1 := joinT_size (tree_text hT) (kidsN ts j)
 have h2 : (kidsN ts j).length <= ts.length := by
  unfold kidsN kidsTo
  exact Nat.le_trans (List.length_filter_le _ _) (by rw [List.length_range]; exact Nat.le_refl _)
 have h3 := hT.2.1
 omega

theorem fstT_sz {ts : List Tk} (hT : TreeP ts) (l : List Nat) : (fstT ts l).size <= 3000 := by
 match l with
 | [] => exact Nat.zero_le _
 | j :: _ => exact txN_sz hT j

theorem valN_sz {ts : List Tk} (hz : TksSz 1048576 ts) (j : Nat) (name : ByteArray) : (valN ts j name).size <= 1048576 := by
 unfold valN atN
 cases h : ts[j]? with
 | none => exact Nat.zero_le _
 | some t =>
  cases h2 : valF t.attrs name with
  | none => exact Nat.zero_le _
  | some v =>
   obtain ⟨x, hx, e⟩ := valF_mem h2
   rw [<- e]
   exact ((hz t (List.mem_of_getElem? h)).2.2.1 x hx).2

theorem qdC_sz {ts : List Tk} (hT : TreeP ts) (hz : TksSz 1048576 ts) (k : Nat) : CmSz 1048576 (qdC ts k) := by
 have f := fun l => Nat.le_trans (fstT_sz hT l) (show 3000 <= 1048576 by decide)
 have h50 := hT.2.1
 refine ⟨valN_sz hz k idS, f _, f _, f _, f _, ?_, fun x hx => ?_⟩
 ·show (facN ts (kidsK ts k (localN 5))).length <= 1048576
  unfold facN
  rw [List.length_map]
  have := kidsK_len ts k (localN 5)
  omega
 ·have hx' : x ∈ facN ts (kidsK ts k (localN 5)) := hx
  unfold facN at hx'
  obtain ⟨j, hj, rfl⟩ := List.mem_map.1 hx'
  exact ⟨valN_sz hz j nameS, Nat.le_trans (txN_sz hT j) (by decide)⟩

theorem facN_next {ts : List Tk} {l : List Nat} {i : Nat} (h : i < l.length) : facN ts (l.take (i + 1)) = facN ts (l.take i) ++ [⟨valN ts l[i] nameS, txN ts l[i]⟩] := by
 unfold facN
 rw [List.take_succ_eq_append_getElem h, List.map_append]
 rfl

theorem decP_of {ts : List Tk} {k : Nat} (h : DecQ ts k 5) (h2 : ∀ j ∈ kidsK ts k (localN 5), hasNm ts j = true) (h3 : claimB (qdC ts k) = true) : DecP ts k := by
 obtain ⟨a0, a1, a2, a3, a4⟩ := h
 exact ⟨a0 (by omega), a1 (by omega), (a2 (by omega)).1, a3 (by omega), (a4 (by omega)).1, (a4 (by omega)).2, (a2 (by omega)).2.1, (a2 (by omega)).2.2, h2, h3⟩

theorem q_two_cells (T : TypeId) (w : World) (x y : Value) : ∀ j u, [x, y][j]? = some u -> (w.alloc (.cells #[x, y] T)).cell? ((⟨w.heap.size, 0, none⟩ : Addr).add j) = some u := by
 intro j u hj
 rw [add_plainW, Nat.zero_add, Lib.cell_of_heap (heap_alloc_new w (.cells #[x, y] T))]
 match j, hj with
 | 0, hj => exact hj
 | 1, hj => exact hj

theorem q_two_one (x y : ByteArray) : ∀ u ∈ [Value.string x, Value.string y], u.oneCell' = true := by
 intro u hu
 simp at hu
 rcases hu with rfl | rfl <;> rfl

theorem AtRow.set4 {w : World} {a : Option Addr} {l : List At} (h : AtRow w a l) {b i : Nat} {u : Value} (hne : ∀ g o, a = some ⟨g, o, none⟩ -> 0 < l.length -> ¬ g = b) : AtRow (w.setCell ⟨b, i, none⟩ u) a l := fun j hj => by
 obtain ⟨g, o, e, _⟩ := h j hj
 subst e
 exact (AtRow.setCell h (p := ⟨b, i, none⟩) (hne g o rfl (by omega)) u) j hj

theorem qdC_parts (ts : List Tk) (k : Nat) : (qdC ts k).facts = facN ts (kidsK ts k (localN 5)) := rfl

theorem FSt.app {w W w9 : World} {B4 B6 bc gl : Nat} {x : Cm} {v v9 : Value} {fl : List At} {L : List Nat} {s t : ByteArray} (h : FSt w W B4 B6 bc x v fl (some ⟨gl, 0, none⟩) L) (ho : w9.ownsRow w.heap.size 40 2 v9 (fl.length + 1) (qaC fl ++ [.string s, .string t])) (hgr : W.grownBy w9 v.ownBlock) (hw : v9.ownBlock = v.ownBlock \/ v9.ownBlock = some W.heap.size) (i : Nat) (hi : i < L.length) :
  ∃ a9 c9, v9 = .slice a9 (fl.length + 1) c9 /\ FSt w (w9.setCell ⟨bc, 7, none⟩ v9) B4 B6 bc x v9 (fl ++ [⟨s, t⟩]) (some ⟨gl, 0, none⟩) L /\ (w9.cell? ⟨bc, 7, none⟩ = some v /\ w9.frozen? ⟨bc, 7, none⟩ = false) /\ w9.cell? ⟨gl, i, none⟩ = some (.int .i64 ((L[i] : Nat) : Int)) /\ ∀ u, (w9.setCell ⟨bc, 7, none⟩ u).cell? ⟨gl, i, none⟩ = some (.int .i64 ((L[i] : Nat) : Int)) := by
 have hm := h.more ho hgr hw
 obtain ⟨a9, c9, hv9, _⟩ := qa_own hm.own
 rw [List.length_append, show [(⟨s, t⟩ : At)].length = 1 from rfl] at hv9
 have hc9 := (hgr.block bc (lt_of_heap h.hc) (fun e => h.nc e.symm)).trans h.hc
 obtain ⟨⟨_, _, _, _, _, _, _, z7⟩, _, _, _, _, _, _, _, zf7⟩ := box8 hc9
 obtain ⟨g', cu', e', h1, h2, h3, h4⟩ := h.kd (by omega)
 cases e'
 have hk : w9.heap[gl]? = some (.cells cu' 2 (0, 0)) := (hgr.block gl (lt_of_heap h1) (fun e => h2 e.symm)).trans h1
 refine ⟨a9, c9, hv9, hm, ⟨z7, zf7⟩, ?_, fun u => ?_⟩
 ·rw [Lib.cell_of_heap hk]
  exact h4 i hi
 ·have hk2 : (w9.setCell ⟨bc, 7, none⟩ u).heap[gl]? = some (.cells cu' 2 (0, 0)) := (Below.heap_setCell _ _ _ _ h3).trans hk
  rw [Lib.cell_of_heap hk2]
  exact h4 i hi

theorem OwnAts.set4 {w : World} {B : Nat} {a : Option Addr} {l : List At} (h : OwnAts w B a l) {b i : Nat} {u : Value} (hne : ∀ g o, a = some ⟨g, o, none⟩ -> 0 < l.length -> ¬ g = b) : OwnAts (w.setCell ⟨b, i, none⟩ u) B a l := fun hl => by
 obtain ⟨g, o, cu, e1, e2, e3, e4⟩ := h hl
 exact ⟨g, o, cu, e1, e2, (Below.heap_setCell _ _ _ _ (hne g o e1 hl)).trans e3, e4⟩

def DecAns (w : World) (c : Cm) (b : Bool) (e : Ending) (w' : World) : Prop := ∃ a' cap', e = .returned (.tuple #[cmV c a' cap', .bool b]) /\ OwnAts w' w.heap.size a' c.facts /\ Below w.heap.size w w'

end Go.Proofs.YtlpbbkaelbafdaaGreatDoor

namespace Go.Proofs.YtlpbbkaelbafdaaGreatDoor
open Go.RowKit

structure FH (B : Nat) (w : World) (bc : Nat) (c : Cm) (v : Value) (fl : List At) : Prop where
 hc : ClH w bc c v
 own : w.ownsRow B 40 2 v fl.length (qaC fl)
 nc : ¬ v.ownBlock = some bc

theorem FH.below {B bc : Nat} {w w' : World} {c : Cm} {v : Value} {fl : List At} (h : FH B w bc c v fl) (hb : Below w.heap.size w w') : FH B w' bc c v fl :=
 ⟨blk_below h.hc hb, ownsRow_below h.own hb, h.nc⟩

theorem FH.app {B bc : Nat} {W w9 : World} {c : Cm} {v v9 : Value} {fl : List At} {s t : ByteArray} (h : FH B W bc c v fl) (ho : w9.ownsRow B 40 2 v9 (fl.length + 1) (qaC fl ++ [.string s, .string t])) (hgr : W.grownBy w9 v.ownBlock) (hw : v9.ownBlock = v.ownBlock \/ v9.ownBlock = some W.heap.size) :
  ∃ a9 c9, v9 = .slice a9 (fl.length + 1) c9 /\ FH B (w9.setCell ⟨bc, 7, none⟩ v9) bc c v9 (fl ++ [⟨s, t⟩]) /\ (w9.cell? ⟨bc, 7, none⟩ = some v /\ w9.frozen? ⟨bc, 7, none⟩ = false) /\ KeepB (fun k => k = bc \/ v.ownBlock = some k) W (w9.setCell ⟨bc, 7, none⟩ v9) := by
 have hc9 : ClH w9 bc c v := (hgr.block bc (lt_of_heap h.hc) (fun e => h.nc e.symm)).trans h.hc
 have nc' : ¬ v9.ownBlock = some bc := fun x => by
  rcases hw with hw | hw
  ·exact h.nc (hw.symm.trans x)
  ·rw [hw] at x
   have := lt_of_heap h.hc
   have := Option.some.inj x
   omega
 have ek : qaC (fl ++ [⟨s, t⟩]) = qaC fl ++ [.string s, .string t] := by rw [qaC_app]; rfl
 have hown : (w9.setCell ⟨bc, 7, none⟩ v9).ownsRow B 40 2 v9 (fl ++ [(⟨s, t⟩ : At)]).length (qaC (fl ++ [⟨s, t⟩])) := by
  rw [List.length_append, ek]
  refine ⟨ho.1, ?_⟩
  rcases ho.2 with h' | ⟨g, cap, cur, k1, k2, k3, k4⟩
  ·exact .inl h'
  ·exact .inr ⟨g, cap, cur, k1, k2, (Below.heap_setCell _ _ _ _ (show ¬ g = bc from fun e => nc' (by rw [k1, <- e]; rfl))).trans k3, k4⟩
 obtain ⟨a9, c9, hv9, _⟩ := qa_own hown
 rw [List.length_append, show [(⟨s, t⟩ : At)].length = 1 from rfl] at hv9
 obtain ⟨⟨_, _, _, _, _, _, _, z7⟩, _, _, _, _, _, _, _, zf7⟩ := box8 hc9
 refine ⟨a9, c9, hv9, ⟨heap_setCell_same w9 bc 7 _ _ v9 hc9, hown, nc'⟩, ⟨z7, zf7⟩, ?_⟩
 exact KeepB.trans ⟨hgr.os, hgr.tape, hgr.output, hgr.size, fun i hi hr => hgr.block i hi (fun e => hr (.inr e.symm))⟩ (KeepB.of_set (p := fun k => k = bc \/ v.ownBlock = some k) w9 7 v9 (.inl rfl))

set_option maxRecDepth 8000 in
set_option maxHeartbeats 4000000 in
theorem cFactHeard (B bc : Nat) (c : Cm) (v : Value) (fl : List At) (a : Option Addr) (cap : Nat) (l : List At) (tx : ByteArray) (w : World) (h : FH B w bc c v fl) (hfl : fl.length <= 1048576) (hB : B <= w.heap.size) (hR : AtRow w a l) (hz : AtSz 1048576 l) (hn : l.length <= 1048576) :
  Calls Tryz.prog 71 #[.pointer (some ⟨bc, 0, none⟩), .agg #[.slice a l.length cap, .string tx]] w fun e w' => e = .returned (.bool (valF l nameS).isSome) /\ ∃ v', FH B w' bc c v' (fl ++ [⟨(valF l nameS).getD ByteArray.empty, tx⟩]) /\ KeepB (fun k => k = bc \/ v.ownBlock = some k) w w' /\ (v'.ownBlock = v.ownBlock \/ ∃ k, v'.ownBlock = some k /\ w.heap.size <= k) := by
 have HB0 := hid ((Below.refl w.heap.size w).alloc (Nat.le_refl _) (.cells #[.slice a l.length cap, .string tx] 54))
 have M0 := hid (heap_alloc_new w (.cells #[.slice a l.length cap, .string tx] 54))
 have C1 := hid (fun wx (h : Below w.heap.size w wx) => cValueInI a cap l nameS wx (hR.below h) hz hn (by decide))
 have H0 := hid h
 have HBB := hid hB
 have H3 := hid (show fl.length + 1 <= maxLen by unfold maxLen; omega)
 have H4 := hid (show (fl.length + 1) * 32 <= 140737488355328 by omega)
 obtain ⟨w0, hw0⟩ : ∃ w0, w.alloc (.cells #[.slice a l.length cap, .string tx] 54) = w0 := ⟨_, rfl⟩
 rw [hw0] at HB0 M0
 obtain ⟨sb, hs⟩ : ∃ g, w.heap.size = g := ⟨_, rfl⟩
 have z0 : w0.cell? ⟨sb, 0, none⟩ = some (.slice a l.length cap) := by rw [hs] at M0; rw [Lib.cell_of_heap M0.out]; rfl
 obtain ⟨i1, hi1, hy0, hy1, hy2⟩ := info_parts infoQA
 have HJ := hid (And.intro hi1 (And.intro hy0 (And.intro hy1 hy2)))
 clear h hR hz hn hfl hB hi1 hy0 hy1 hy2
 generalize (valF l nameS).getD ByteArray.empty = NV at *
 generalize (valF l nameS).isSome = s at *
 go_enter Tryz.func71, Tryz.ntmps71
 go_wp2_with fail
 refine (C1.out _ HB0.out).mono ?_
 rintro e w1 ⟨rfl, hb1⟩
 have HB1 := hid (HB0.out.trans (hb1.mono HB0.out.size))
 have zt : w1.cell? ⟨sb, 1, none⟩ = some (.string tx) := by
  rw [hs] at M0; rw [Lib.cell_of_heap ((hb1.block sb (lt_of_heap M0.out)).trans M0.out)]; rfl
 clear hb1 z0 C1
 have HSx := hid ((H0.out.below HB1.out).below ((Below.refl w1.heap.size w1).drew))
 have HBx := hid (HB1.out.trans (((Below.refl w1.heap.size w1).drew).mono HB1.out.size))
 have c7 : w1.cell? ⟨bc, 7, none⟩ = some v := by rw [Lib.cell_of_heap (H0.out.below HB1.out).hc]; rfl
 have cC : ∀ o, (w1.drew.alloc o).cell? ⟨bc, 7, none⟩ = some v := fun o => by rw [Lib.cell_of_heap (HSx.out.below ((Below.refl w1.drew.heap.size w1.drew).alloc (Nat.le_refl _) o)).hc]; rfl
 have cD : ∀ o, (w1.alloc o).cell? ⟨bc, 7, none⟩ = some v := cC
 have cE : ∀ o, (w1.alloc o).drew.cell? ⟨bc, 7, none⟩ = some v := cC
 go_wp2_with fail
 go_region_law (first
  | (refine step_app_at rfl (.tmp 17) (.tmp 22) 24 rfl B 40 i1 _ 2 32 Tryz.underlying24 HJ.out.1 HJ.out.2.1 HJ.out.2.2.1 HJ.out.2.2.2 rfl (by decide) v fl.length (qaC fl) (by simp [Act.eval, Act.put]) (HSx.out.own.alloc (.cells #[.string NV, .string tx] 40)) ⟨w1.heap.size, 0, none⟩ 1 1 [.string NV, .string tx] (by simp [Act.eval, Act.put]) rfl (q_two_cells _ _ _ _) (q_two_one _ _) H3.out H4.out (by have := HBx.out.size; have := HBB.out; show B <= (w1.alloc _).heap.size; rw [World.size_alloc]; have e : w1.drew.heap.size = w1.heap.size := rfl; omega) ?_; intro v9 w9 hown9 hgrow9 hat9; obtain ⟨a9, c9, hv9, hF9, ⟨z7, zf7⟩, hk9⟩ := FH.app (HSx.out.below ((Below.refl w1.drew.heap.size w1.drew).alloc (Nat.le_refl _) (.cells #[.string NV, .string tx] 40))) hown9 hgrow9 hat9; have HF9 := hid hF9; have HK9 := hid hk9; have HA9 := hid hat9; clear hown9 hgrow9 hat9 hF9 hk9; subst hv9))
 all_goals
  go_wp2_with fail
  go_ret
  refine ⟨rfl, _, HF9.out, (KeepB.of_below _ HBx.out).trans ((KeepB.of_below _ ((Below.refl w1.drew.heap.size w1.drew).alloc (Nat.le_refl _) _)).trans HK9.out), ?_⟩
  rcases HA9.out with e | e
  ·exact .inl e
  ·exact .inr ⟨_, e, by have := HBx.out.size; show w.heap.size <= (w1.alloc _).heap.size; rw [World.size_alloc]; have e : w1.drew.heap.size = w1.heap.size := rfl; omega⟩

end Go.Proofs.YtlpbbkaelbafdaaGreatDoor

namespace Go.Proofs.YtlpbbkaelbafdaaGreatDoor
open Go.RowKit

structure SE where
 x : Say
 a : Option Addr
 c : Nat

def seC (es : List SE) : List Value := es.flatMap fun e => [.slice e.a e.x.attrs.length e.c, .string e.x.text]

theorem seC_app (es fs : List SE) : seC (es ++ fs) = seC es ++ seC fs := by unfold seC; rw [List.flatMap_append]

theorem seC_len (es : List SE) : (seC es).length = es.length * 2 := by
 induction es with
 | nil => rfl
 | cons x es ih => show (seC es).length + 2 = _; rw [ih, List.length_cons]; omega

theorem seC_cell (es : List SE) : ∀ u ∈ seC es, u.oneCell' = true := by
 intro u hu
 unfold seC at hu
 obtain ⟨e, _, he⟩ := List.mem_flatMap.1 hu
 simp at he
 rcases he with rfl | rfl <;> rfl

theorem seC_get (es : List SE) (j : Nat) (h : j < es.length) : (seC es)[j * 2]? = some (.slice es[j].a es[j].x.attrs.length es[j].c) /\ (seC es)[j * 2 + 1]? = some (.string es[j].x.text) := by
 induction es generalizing j with
 | nil => simp at h
 | cons x es ih =>
  have e : seC (x :: es) = .slice x.a x.x.attrs.length x.c :: .string x.x.text :: seC es := rfl
  rw [e]
  match j with
  | 0 => exact ⟨rfl, rfl⟩
  | j + 1 =>
   have := ih j (by simpa using h)
   rw [show (j + 1) * 2 = j * 2 + 1 + 1 by omega]
   exact this

theorem infoSay : (Tryz.prog.info? 54).map (fun i => (i.zero, i.size, i.bytes)) = some (some (.agg #[.slice none 0 0, .string ⟨#[]⟩]), 2, 40) := by kernel_rfl

structure SRow (B : Nat) (w : World) (v : Value) (l : List Say) : Prop where
 row : ∃ es : List SE, w.ownsRow B 54 2 v es.length (seC es) /\ es.map (·.x) = l /\ ∀ e ∈ es, OwnAts w B e.a e.x.attrs /\ KAts w v e.a e.x.attrs
 base : B <= w.heap.size

theorem SRow.start (B : Nat) (w : World) (h : B <= w.heap.size) : SRow B w (.slice none 0 0) [] := ⟨⟨[], World.ownsRow_nil _ _ _ _, rfl, fun e he => absurd he List.not_mem_nil⟩, h⟩

theorem SRow.below {B : Nat} {w w' : World} {v : Value} {l : List Say} (h : SRow B w v l) (hb : Below w.heap.size w w') : SRow B w' v l := by
 obtain ⟨es, h1, h2, h3⟩ := h.row
 exact ⟨⟨es, ownsRow_below h1 hb, h2, fun e he => ⟨(h3 e he).1.below hb, (h3 e he).2.below hb⟩⟩, Nat.le_trans h.base hb.size⟩

theorem SRow.sayR {B : Nat} {w : World} {v : Value} {l : List Say} (h : SRow B w v l) : ∃ a c, v = .slice a l.length c /\ SayR w B a l := by
 obtain ⟨es, h1, rfl, h3⟩ := h.row
 rw [List.length_map]
 rcases h1.2 with ⟨rfl, h0⟩ | ⟨g, cap, cur, rfl, hg, hh, hn, hc, hs, ht⟩
 ·exact ⟨none, 0, by rw [h0], fun hl => by rw [List.length_map] at hl; omega⟩
 ·refine ⟨some ⟨g, 0, none⟩, cap, rfl, fun hl => ⟨g, cur, rfl, hg, hh, fun j hj => ?_⟩⟩
  rw [List.length_map] at hj
  obtain ⟨k0, k1⟩ := seC_get es j hj
  have hx : ∀ (k : Nat) (u : Value), (seC es)[k]? = some u -> cur[k]? = some u := by
   intro k u hk
   rw [<- Array.getElem?_toList]
   rw [<- ht, List.getElem?_take] at hk
   split at hk
   ·exact hk
   ·cases hk
  refine ⟨es[j].a, es[j].c, ?_, ?_, ?_⟩
  ·rw [List.getElem_map]; exact hx _ _ k0
  ·rw [List.getElem_map]; exact hx _ _ k1
  ·rw [List.getElem_map]; exact (h3 _ (List.getElem_mem hj)).1

theorem wpL_say (w : World) {ops : Array Oper} {rest : List Oper} {o : Oper} {a : Act} {Q : Exit -> Act -> World -> Prop} (hgd : o.guard = none) (s x : Operand)
  (ho : o.op = .call { callee := .builtin .append, args := #[s, x], argTypes := #[52, 52] }) (B : Nat) (v : Value) (L : List Say) (hs : a.eval s = v) (hrow : SRow B w v L)
  (t : Say) (a1 : Option Addr) (c1 g nA : Nat) (hx : a.eval x = .slice (some ⟨g, 0, none⟩) 1 1) (hnA : t.attrs.length = nA) (hg : w.heap[g]? = some (.cells #[.slice a1 nA c1, .string t.text] 54 (0, 0))) (hO : OwnAts w B a1 t.attrs) (hA : KAts w v a1 t.attrs) (hn : L.length <= 1000000)
  (h : ∀ v' w', SRow B w' v' (L ++ [t]) -> Below B w w' -> wpList Tryz.prog ops Q rest (a.put o.dst v') w') : wpList Tryz.prog ops Q (o :: rest) a w := by
 subst hnA
 obtain ⟨es, h1, rfl, h3⟩ := hrow.row
 rw [List.length_map] at hn
 obtain ⟨i0, hi, hz0, hz1, hz2⟩ := info_parts infoSay
 refine wpList_append_own_at w hgd s x 52 ho B 54 i0 _ 2 40 Tryz.underlying52 hi hz0 hz1 hz2 rfl (by decide) v es.length (seC es) hs h1 ⟨g, 0, none⟩ 1 1 (seC [⟨t, a1, c1⟩]) hx (seC_len [⟨t, a1, c1⟩]) (fun j u hj => ?_) (seC_cell _) (by unfold maxLen; omega) (by omega) hrow.base ?_
 ·rw [add_plainW, Nat.zero_add, Lib.cell_of_heap hg]
  match j, hj with
  | 0, hj => exact hj
  | 1, hj => exact hj
 intro v' w' ho' hgr _ hw
 have key : Kept v w v' w' := fun b o h k => by
  refine ⟨(hgr.block b (lt_of_heap h) (fun x => k x.symm)).trans h, fun x => ?_⟩
  rcases hw with hw | hw
  ·exact k (hw.symm.trans x)
  ·rw [hw] at x
   have := lt_of_heap h
   have := Option.some.inj x
   omega
 have lift : ∀ (a : Option Addr) (l : List At), OwnAts w B a l -> KAts w v a l -> OwnAts w' B a l /\ KAts w' v' a l := fun a l h1 h2 => by
  refine ⟨fun hl => ?_, h2.kept key⟩
  obtain ⟨g1, o1, cu1, e1, e2, e3, e4⟩ := h1 hl
  obtain ⟨g2, o2, cu2, f1, f2, f3, f4⟩ := h2 hl
  rw [e1] at f1
  cases f1
  exact ⟨g1, o1, cu1, e1, e2, (key _ _ e3 f4).1, e4⟩
 refine h v' w' ⟨⟨es ++ [⟨t, a1, c1⟩], by rw [List.length_append, seC_app]; exact ho', by rw [List.map_append]; rfl, fun e he => ?_⟩, Nat.le_trans hrow.base hgr.size⟩ ((Below.refl B w).grown hgr hrow.base (fun k e => (h1.lt k e).1))
 rcases List.mem_append.1 he with h' | h'
 ·exact lift _ _ (h3 e h').1 (h3 e h').2
 ·rw [List.mem_singleton] at h'
  subst h'
  exact lift _ _ hO hA

theorem SRow.other {B : Nat} {w : World} {v : Value} {L : List Say} (h : SRow B w v L) {b : Nat} (hb : w.heap.size <= b) : ¬ v.ownBlock = some b := fun e => by
 obtain ⟨es, h1, h2, h3⟩ := h.row
 have := (h1.lt b e).2
 omega

theorem kats_of {w : World} {v : Value} {g : Nat} {cu : Array Value} {l : List At} (hh : w.heap[g]? = some (.cells cu 40 (0, 0))) (hc : AtCells cu 0 l) (hv : ¬ v.ownBlock = some g) : KAts w v (some ⟨g, 0, none⟩) l := fun _ => ⟨g, 0, cu, rfl, hh, hc, hv⟩

set_option maxRecDepth 8000 in
set_option maxHeartbeats 8000000 in
theorem cFactsTold (c : Cm) (a : Option Addr) (cap : Nat) (w : World) (hR : AtRow w a c.facts) (h4 : c.facts.length <= 1000) :
  Calls Tryz.prog 70 #[cmV c a cap] w fun e w' => ∃ a' c', e = .returned (.slice a' (factL c.facts).length c') /\ SayR w' w.heap.size a' (factL c.facts) /\ Below w.heap.size w w' := by
 have HX := hid (ClBox.new w c (.slice a c.facts.length cap) 26)
 have HB0 := hid ((Below.refl w.heap.size w).alloc (Nat.le_refl _) (.cells #[.string c.id, .string c.iss, .string c.sub, .int .i64 c.frm, .int .i64 c.til, .string c.whom, .string c.ans, .slice a c.facts.length cap] 26))
 unfold cmV
 obtain ⟨w0, hw0⟩ : ∃ w0, w.alloc (.cells #[.string c.id, .string c.iss, .string c.sub, .int .i64 c.frm, .int .i64 c.til, .string c.whom, .string c.ans, .slice a c.facts.length cap] 26) = w0 := ⟨_, rfl⟩
 rw [hw0] at HX HB0
 have HR := hid hR
 obtain ⟨n, hn⟩ : ∃ n, c.facts.length = n := ⟨_, rfl⟩
 have HN := hid hn
 rw [hn] at h4 HX hw0 ⊢
 clear hn hR
 obtain ⟨B, hB⟩ : ∃ B, w.heap.size = B := ⟨_, rfl⟩
 rw [hB] at HX
 have f7 := HX.out.c7
 clear HX
 generalize hL : c.facts = L at *
 clear hL
 go_enter Tryz.func70, Tryz.ntmps70
 go_wp2_with fail
 clear f7
 go_loopw [3, 9] (fun v x wr => ∃ i : Nat, x = .int .i64 (i : Int) /\ i <= n /\ Hid (SRow w.heap.size wr v ((factL L).take i)) /\ Hid (Below w.heap.size w wr)) (fun _ x _ => n - (intOf x).toNat)
 case atStart => exact ⟨0, rfl, Nat.zero_le _, by rw [List.take_zero]; exact SRow.start _ _ HB0.out.size, HB0.out⟩
 case round =>
  obtain ⟨i, rfl, hin, HS, HB⟩ := hrel
  by_cases hlt : i < n
  ·have his : i < L.length := by rw [HN.out]; exact hlt
   have hit : (i : Int) < (n : Int) := by omega
   obtain ⟨b, o, rfl, hb, k1, k2⟩ := HR.out.below HB.out i his
   have HNX := hid (factL_take his)
   have HLE := hid (show ((factL L).take i).length <= 1000000 by rw [List.length_take]; omega)
   generalize L[i].name = nm at *
   generalize L[i].value = vl at *
   generalize (factL L).take i = Ls at *
   have HBa := hid ((Below.refl wr.heap.size wr).alloc (Nat.le_refl _) (.cells #[.string nm, .string vl] 40))
   have ba := q_box2 (heap_alloc_new wr (.cells #[.string nm, .string vl] 40))
   obtain ⟨wa, hwa⟩ : ∃ wa, wr.alloc (.cells #[.string nm, .string vl] 40) = wa := ⟨_, rfl⟩
   rw [hwa] at HBa ba
   obtain ⟨⟨p0, p1⟩, _⟩ := ba
   have HBb := hid ((Below.refl wa.heap.size wa).alloc (Nat.le_refl _) (.cells #[.string nameS, .string nm] 40))
   have Hb1 := hid (heap_alloc_new wa (.cells #[.string nameS, .string nm] 40))
   obtain ⟨wb, hwb⟩ : ∃ wb, wa.alloc (.cells #[.string nameS, .string nm] 40) = wb := ⟨_, rfl⟩
   rw [hwb] at HBb Hb1
   have p2 : wb.cell? ⟨wr.heap.size, 1, none⟩ = some (.string vl) := (HBb.out.cell (p := ⟨wr.heap.size, 1, none⟩) (by rw [<- hwa]; simp)).trans p1
   obtain ⟨ga, hga⟩ : ∃ g, wa.heap.size = g := ⟨_, rfl⟩
   rw [hga] at Hb1
   have HBd := hid ((Below.refl wb.heap.size wb).alloc (Nat.le_refl _) (.cells #[.slice (some ⟨ga, 0, none⟩) 1 1, .string vl] 54))
   have Hd1 := hid (heap_alloc_new wb (.cells #[.slice (some ⟨ga, 0, none⟩) 1 1, .string vl] 54))
   obtain ⟨wd, hwd⟩ : ∃ wd, wb.alloc (.cells #[.slice (some ⟨ga, 0, none⟩) 1 1, .string vl] 54) = wd := ⟨_, rfl⟩
   rw [hwd] at HBd Hd1
   obtain ⟨gb, hgb⟩ : ∃ g, wb.heap.size = g := ⟨_, rfl⟩
   rw [hgb] at Hd1
   have HBw := hid (bb (bb HBa.out HBb.out) HBd.out)
   have HSd := hid (HS.out.below HBw.out)
   have HGa := hid (show wr.heap.size <= ga by rw [<- hga]; exact HBa.out.size)
   have HOA := hid (show OwnAts wd w.heap.size (some ⟨ga, 0, none⟩) [⟨nameS, nm⟩] from own_of (Nat.le_trans HS.out.base HGa.out) (blk_below Hb1.out HBd.out) (cells_one _ _))
   have HKA := hid (show KAts wd u3 (some ⟨ga, 0, none⟩) [⟨nameS, nm⟩] from kats_of (blk_below Hb1.out HBd.out) (cells_one _ _) (HS.out.other HGa.out))
   have HBD := hid (bb HB.out HBw.out)
   unfold nameS at hwb
   clear his HBa HBb HBd Hb1 HBw
   go_wp2_with (at_builtin; refine wpL_say wd rfl _ _ rfl w.heap.size u3 Ls rfl HSd.out ⟨[⟨nameS, nm⟩], vl⟩ (some ⟨ga, 0, none⟩) 1 gb 1 rfl rfl Hd1.out HOA.out HKA.out HLE.out ?_)
   intro v8 w8 hr8 hb8
   rw [<- hB] at hb8 hr8
   have HR8 := hid (HNX.out ▸ hr8)
   have HB8 := hid (HBD.out.trans hb8)
   clear hr8 hb8
   go_wp2_with fail
   go_roundw
   case rel => exact ⟨i + 1, by go_num, by omega, HR8.out, HB8.out⟩
   case measure => simp [intOf]; omega
  ·have hie : i = n := by omega
   subst hie
   have HF := hid (show SRow w.heap.size wr u3 (factL L) by
    have h := HS.out
    rw [List.take_of_length_le (by rw [factL_len, HN.out]; exact Nat.le_refl _)] at h
    exact h)
   obtain ⟨a5, c5, hv, hsr⟩ := HF.out.sayR
   have HSR := hid hsr
   clear hsr
   subst hv
   go_wp2_with fail
   go_ret
   exact ⟨a5, c5, rfl, HSR.out, HB.out⟩

end Go.Proofs.YtlpbbkaelbafdaaGreatDoor
