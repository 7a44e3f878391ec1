/-  -/
import Derived.Test.YtoioiddjbanahaaGreatDoorM9
import Derived.Test.YtoioiddjbanahaaGreatDoorM11
import Derived.Test.YtoioiddjbanahaaGreatDoorM8
import Derived.Deep.CutRange
import Derived.Deep.RegionHeld3
import Derived.Laws.OwnMore
set_option linter.unusedVariables false
set_option linter.unusedSimpArgs false
namespace Go.Proofs.YtoioiddjbanahaaGreatDoor

open Go.RowKit

theorem tab2_at (w : World) (B x : Nat) (hx : x < 2) (h : w.heap[B]? = some (.cells #[.string ⟨#[97]⟩, .string ⟨#[112, 58, 97]⟩] 9 (0, 0))) : ∃ t : ByteArray, w.cell? ⟨B, x, none⟩ = some (.string t) /\ t.size <= 3 /\ ¬ t.size = 0 := by
 rw [Lib.cell_of_heap h]
 rcases (show x = 0 \/ x = 1 from by omega) with rfl | rfl
 all_goals exact ⟨_, rfl, by decide, by decide⟩

theorem tab5_at (w : World) (B x : Nat) (hx : x < 5) (h : w.heap[B]? = some (.cells #[.string ⟨#[97]⟩, .string ⟨#[98]⟩, .string ⟨#[112, 58, 97]⟩, .string ⟨#[113, 58, 98]⟩, .string ⟨#[99]⟩] 9 (0, 0))) : ∃ t : ByteArray, w.cell? ⟨B, x, none⟩ = some (.string t) /\ t.size <= 3 /\ ¬ t.size = 0 := by
 rw [Lib.cell_of_heap h]
 rcases (show x = 0 \/ x = 1 \/ x = 2 \/ x = 3 \/ x = 4 from by omega) with rfl | rfl | rfl | rfl | rfl
 all_goals exact ⟨_, rfl, by decide, by decide⟩

structure CSt (w0 : World) (a : Option Addr) (len cap b : Nat) (w wr : World) : Prop where
 cur : Cur w0 a len cap b wr
 gr : w.grownBy wr (some b)
 lt : b < w.heap.size
 le : w0.heap.size <= w.heap.size

theorem CSt.draw {w0 : World} {a : Option Addr} {len cap b : Nat} {w wr w1 : World} (h : CSt w0 a len cap b w wr) (hC : Cur w0 a len cap b w1) (g : wr.grownBy w1 (some b)) : CSt w0 a len cap b w w1 := ⟨hC, gtrans h.gr g, h.lt, h.le⟩

theorem CSt.alloc {w0 : World} {a : Option Addr} {len cap b : Nat} {w wr : World} (h : CSt w0 a len cap b w wr) (o : Obj) : CSt w0 a len cap b w (wr.alloc o) := h.draw (h.cur.alloc o) (World.grownBy_alloc wr o _)

theorem CSt.drewN {w0 : World} {a : Option Addr} {len cap b : Nat} {w wr : World} (h : CSt w0 a len cap b w wr) (n : Nat) : CSt w0 a len cap b w (wr.drewN n) := ⟨h.cur.drewN n, g_drewN h.gr n, h.lt, h.le⟩

theorem ownAts_lift {w : World} {B B' : Nat} {a : Option Addr} {l : List At} (h : OwnAts w B' a l) (hB : B <= B') : OwnAts w B a l := fun hl => by
 obtain ⟨g, o, cu, e1, e2, e3⟩ := h hl
 exact ⟨g, o, cu, e1, Nat.le_trans hB e2, e3⟩

theorem dst_own {w0 : World} {a : Option Addr} {len cap b : Nat} {w W W3 : World} {a5 : Option Addr} {c5 : Nat} {l : List At} (h : DSt w0 a len cap b W W3 (.slice a5 l.length c5) l) (hw : w.heap.size <= W.heap.size) : OwnAts W3 w.heap.size a5 l := by
 obtain ⟨a', c', e, ho⟩ := h.row
 cases e
 exact ownAts_lift ho hw

theorem own_mono {w : World} {B B' n s : Nat} {v : Value} {xs : List Value} {e : TypeId} (h : w.ownsRow B' e s v n xs) (hB : B <= B') : w.ownsRow B e s v n xs := by
 refine ⟨h.1, ?_⟩
 rcases h.2 with h' | ⟨g, cap, cur, h1, h2, h3⟩
 ·exact .inl h'
 ·exact .inr ⟨g, cap, cur, h1, Nat.le_trans hB h2, h3⟩

theorem own_grownR {w w' : World} {B n s : Nat} {v : Value} {xs : List Value} {E e : TypeId} {row : Option Nat} (h : w.ownsRow B E s v n xs) (hg : w.grownBy w' row) (hr : ∀ k, row = some k -> ∃ c fz, w.heap[k]? = some (.cells c e fz)) (hE : E ≠ e) : w'.ownsRow B E s v n xs := by
 refine ⟨h.1, ?_⟩
 rcases h.2 with h' | ⟨g, cap, cur, h1, h2, h3, h4⟩
 ·exact .inl h'
 ·exact .inr ⟨g, cap, cur, h1, h2, blk_grownR h3 hg hr hE, h4⟩

structure NSt (w0 : World) (a : Option Addr) (len cap b : Nat) (w wr : World) (v : Value) (es : List Nd.E) (at_ : Nat) : Prop where
 c : CSt w0 a len cap b w wr
 row : Nd.Row wr w.heap.size v es
 sz : ∀ e ∈ es, TkSz 20 e.t
 grn : Grn (es.map (·.t)) at_
 own : ∀ e ∈ es, wr.ownsRow w.heap.size 67 2 (.slice e.a e.t.attrs.length e.cap) e.t.attrs.length (atC e.t.attrs)
 apo : es.Pairwise fun e f => ∀ k, (Value.slice e.a e.t.attrs.length e.cap).ownBlock = some k -> ¬ (Value.slice f.a f.t.attrs.length f.cap).ownBlock = some k

theorem apo_of {W W3 : World} {B : Nat} {es : List Nd.E} {a5 : Option Addr} {l5 : List At} {c5 : Nat} (h : ∀ e ∈ es, W.ownsRow B 67 2 (.slice e.a e.t.attrs.length e.cap) e.t.attrs.length (atC e.t.attrs)) (h5 : W3.ownsRow W.heap.size 67 2 (.slice a5 l5.length c5) l5.length (atC l5)) :
  ∀ e ∈ es, ∀ k, (Value.slice e.a e.t.attrs.length e.cap).ownBlock = some k -> ¬ (Value.slice a5 l5.length c5).ownBlock = some k := fun e he k e1 e2 => by
 have := ((h e he).lt k e1).2
 have := (h5.lt k e2).1
 omega

theorem cur_row {w0 : World} {a : Option Addr} {len cap b : Nat} {wr w1 : World} {B : Nat} {v : Value} {es : List Nd.E} (hc : Cur w0 a len cap b wr) (h : Nd.Row wr B v es) (g : wr.grownBy w1 (some b)) : Nd.Row w1 B v es := by
 obtain ⟨_, _, i, hh, _, _, hb⟩ := hc
 exact h.keepB (KeepB.of_grown (p := fun k => k = b) g rfl) (fun k hk c e fz hx => by
  subst hk
  rw [hb] at hx
  injection hx with hx
  injection hx with _ h2 _
  subst h2
  exact ⟨by decide, by decide⟩)

section

variable {w0 : World} {a : Option Addr} {len cap b : Nat} {w wr w1 : World} {v : Value} {es : List Nd.E} {at_ : Nat}

theorem NSt.draw (h : NSt w0 a len cap b w wr v es at_) (hC : Cur w0 a len cap b w1) (g : wr.grownBy w1 (some b)) : NSt w0 a len cap b w w1 v es at_ :=
 ⟨h.c.draw hC g, cur_row h.c.cur h.row g, h.sz, h.grn, fun e he => (h.own e he).kept g (.inr (fun x => by have := ((h.own e he).lt b x).1; have := h.c.lt; omega)), h.apo⟩

theorem NSt.alloc (h : NSt w0 a len cap b w wr v es at_) (o : Obj) : NSt w0 a len cap b w (wr.alloc o) v es at_ :=
 ⟨h.c.alloc o, h.row.below ((Below.refl _ _).alloc (Nat.le_refl _) o), h.sz, h.grn, fun e he => (h.own e he).alloc o, h.apo⟩

theorem NSt.drewN (h : NSt w0 a len cap b w wr v es at_) (n : Nat) : NSt w0 a len cap b w (wr.drewN n) v es at_ :=
 ⟨h.c.drewN n, h.row.below (below_drewN (Below.refl _ _) n), h.sz, h.grn, fun e he => ownsRow_below (h.own e he) (below_drewN (Below.refl _ _) n), h.apo⟩

theorem NSt.join (h : NSt w0 a len cap b w wr v es at_) {v' : Value} {e : Nd.E} {at' : Nat} (hr : Nd.Row w1 w.heap.size v' (es ++ [e])) (g : wr.grownBy w1 v.ownBlock) (hoe : wr.ownsRow w.heap.size 67 2 (.slice e.a e.t.attrs.length e.cap) e.t.attrs.length (atC e.t.attrs)) (hap : ∀ e' ∈ es, ∀ k, (Value.slice e'.a e'.t.attrs.length e'.cap).ownBlock = some k -> ¬ (Value.slice e.a e.t.attrs.length e.cap).ownBlock = some k) (hz : TkSz 20 e.t) (hg : Grn (es.map (·.t) ++ [e.t]) at') : NSt w0 a len cap b w w1 v' (es ++ [e]) at' := by
 refine ⟨⟨h.c.cur.grown g (fun x => ?_) (fun k x => ?_), ⟨g.os.trans h.c.gr.os, g.tape.trans h.c.gr.tape, g.output.trans h.c.gr.output, Nat.le_trans h.c.gr.size g.size, fun i hi hr => (g.block i (Nat.lt_of_lt_of_le hi h.c.gr.size) (fun x => ?_)).trans (h.c.gr.block i hi hr)⟩, h.c.lt, h.c.le⟩, hr, fun x hx => ?_, by rw [List.map_append]; exact hg, fun x hx => ?_, List.pairwise_append.2 ⟨h.apo, List.pairwise_singleton _ _, fun x hx y hy => by rw [List.mem_singleton] at hy; subst hy; exact hap x hx⟩⟩
 ·have := (h.row.own.lt b x.symm).1
  have := h.c.lt
  omega
 ·have := (h.row.own.lt k x).1
  have := h.c.le
  omega
 ·have := (h.row.own.lt i x.symm).1
  omega
 ·rcases List.mem_append.1 hx with h' | h'
  ·exact h.sz x h'
  ·rw [List.mem_singleton] at h'
   subst h'
   exact hz
 ·rcases List.mem_append.1 hx with h' | h'
  ·exact own_grownR (h.own x h') g h.row.kind (by decide)
  ·rw [List.mem_singleton] at h'
   subst h'
   exact own_grownR hoe g h.row.kind (by decide)

end

theorem nst_one {w0 : World} {a : Option Addr} {len cap b : Nat} {w W : World} {tA : ByteArray} {l5 : List At} {a5 : Option Addr} {c5 : Nat} (hs : CSt w0 a len cap b w (W.alloc (.cells #[.int .i64 (-1), .string tA, .slice a5 l5.length c5, .string ⟨#[]⟩] 32)))
  (hm : (W.alloc (.cells #[.int .i64 (-1), .string tA, .slice a5 l5.length c5, .string ⟨#[]⟩] 32)).heap[W.heap.size]? = some (.cells #[.int .i64 (-1), .string tA, .slice a5 l5.length c5, .string ⟨#[]⟩] 32 (0, 0)))
  (ho : OwnAts (W.alloc (.cells #[.int .i64 (-1), .string tA, .slice a5 l5.length c5, .string ⟨#[]⟩] 32)) w.heap.size a5 l5) (how : (W.alloc (.cells #[.int .i64 (-1), .string tA, .slice a5 l5.length c5, .string ⟨#[]⟩] 32)).ownsRow w.heap.size 67 2 (.slice a5 l5.length c5) l5.length (atC l5)) (hw : w.heap.size <= W.heap.size) (hn : ¬ tA.size = 0) (hz : TkSz 20 ⟨-1, tA, l5, ⟨#[]⟩⟩) :
  NSt w0 a len cap b w (W.alloc (.cells #[.int .i64 (-1), .string tA, .slice a5 l5.length c5, .string ⟨#[]⟩] 32)) (.slice (some ⟨W.heap.size, 0, none⟩) 1 1) [⟨⟨-1, tA, l5, ⟨#[]⟩⟩, a5, c5⟩] 0 :=
 ⟨hs, Nd.Row.one (e := ⟨⟨-1, tA, l5, ⟨#[]⟩⟩, a5, c5⟩) hw hm ho (fun g o h e => by
  obtain ⟨g', o', cu, e', _, hh, _⟩ := ho h
  simp only at e
  rw [e] at e'
  cases e'
  rintro rfl
  rw [hm] at hh
  injection hh with hh
  injection hh with _ h2 _
  exact absurd h2 (by decide)), fun e he => by
  rw [List.mem_singleton] at he
  subst he
  exact hz, Grn.start rfl hn, fun e he => by
  rw [List.mem_singleton] at he
  subst he
  exact how, List.pairwise_singleton _ _⟩

theorem ap_of {Wx W3 : World} {B : Nat} {v : Value} {es : List Nd.E} {a5 : Option Addr} {l5 : List At} (hrow : Nd.Row Wx B v es) (ho : OwnAts W3 Wx.heap.size a5 l5) :
  (∀ e ∈ es, ∀ (t : Tk) (c : Nat), t.attrs = l5 -> Nd.Apart e ⟨t, a5, c⟩) /\ (∀ g o, 0 < l5.length -> a5 = some ⟨g, o, none⟩ -> ¬ v.ownBlock = some g) := by
 refine ⟨fun e he t c ht hl hl' g o g' o' e1 e2 x => ?_, fun g o hl e1 x => ?_⟩
 ·subst x
  subst ht
  obtain ⟨g1, o1, cu, a1, _, a3, _⟩ := (hrow.ats e he).1 hl
  obtain ⟨g2, o2, cu2, b1, b2, _⟩ := ho hl'
  rw [e1] at a1
  simp only at e2
  rw [e2] at b1
  cases a1
  cases b1
  have := lt_of_heap a3
  omega
 ·obtain ⟨g2, o2, cu2, b1, b2, _⟩ := ho hl
  rw [e1] at b1
  cases b1
  have := (hrow.own.lt g x).2
  omega

theorem one_cells {W : World} {gn : Nat} {P : Int} {nm tx : ByteArray} {l5 : List At} {a5 : Option Addr} {c5 : Nat} (hm : W.heap[gn]? = some (.cells #[.int .i64 P, .string nm, .slice a5 l5.length c5, .string tx] 32 (0, 0))) :
  ∀ j u, (Nd.cs [⟨⟨P, nm, l5, tx⟩, a5, c5⟩])[j]? = some u -> W.cell? ((⟨gn, 0, none⟩ : Addr).add j) = some u := by
 intro j u hj
 have e : Nd.cs [(⟨⟨P, nm, l5, tx⟩, a5, c5⟩ : Nd.E)] = [.int .i64 P, .string nm, .slice a5 l5.length c5, .string tx] := rfl
 rw [e] at hj
 rw [add_plainW, Lib.cell_of_heap hm, Nat.zero_add, <- hj]
 simp

theorem one_hf {W : World} {B : Nat} {v : Value} {P : Int} {nm tx : ByteArray} {l5 : List At} {a5 : Option Addr} {c5 : Nat} (ho : OwnAts W B a5 l5) (h : ∀ g o, 0 < l5.length -> a5 = some ⟨g, o, none⟩ -> ¬ v.ownBlock = some g) :
  ∀ e ∈ [(⟨⟨P, nm, l5, tx⟩, a5, c5⟩ : Nd.E)], OwnAts W B e.a e.t.attrs /\ ∀ g o, 0 < e.t.attrs.length -> e.a = some ⟨g, o, none⟩ -> ¬ v.ownBlock = some g := by
 intro e he
 rw [List.mem_singleton] at he
 subst he
 exact ⟨ho, h⟩

theorem one_ap {es : List Nd.E} {P : Int} {nm tx : ByteArray} {l5 : List At} {a5 : Option Addr} {c5 : Nat} (h : ∀ e ∈ es, ∀ (t : Tk) (c : Nat), t.attrs = l5 -> Nd.Apart e ⟨t, a5, c⟩) : ∀ e ∈ es, ∀ f ∈ [(⟨⟨P, nm, l5, tx⟩, a5, c5⟩ : Nd.E)], Nd.Apart e f := by
 intro e he f hf
 rw [List.mem_singleton] at hf
 subst hf
 exact h e he _ _ rfl

set_option maxRecDepth 8000 in
set_option maxHeartbeats 8000000 in
theorem cDraw8 (w0 : World) (a : Option Addr) (len cap b : Nat) (w : World) (hlen : len <= 4096) (hcr : CodeRow w0 a len) (hC : Cur w0 a len cap b w) :
  Calls Tryz.prog 91 #[.pointer (some ⟨b, 0, none⟩)] w fun e w' => ∃ a' c' es at_, e = .returned (.slice a' (es : List Nd.E).length c') /\ 1 <= es.length /\ es.length <= 11 /\ NSt w0 a len cap b w w' (.slice a' es.length c') es at_ := by
 have HR := hid hcr
 have hbl : b < w.heap.size := by obtain ⟨i, h, _, _, hh⟩ := hC.2.2; exact lt_of_heap hh
 have HS0 := hid (show CSt w0 a len cap b w w from ⟨hC, ⟨rfl, rfl, rfl, Nat.le_refl _, fun _ _ _ => rfl⟩, hbl, hC.2.1.size⟩)
 clear hcr hC hbl
 go_enter Tryz.func91, Tryz.ntmps91
 go_upto_region 1 with fail
 go_cut [3] from 8 to 90 (fun x wv => ∃ (gn : Nat) (e : Nd.E), x = .slice (some ⟨gn, 0, none⟩) 1 1 /\ Hid (NSt w0 a len cap b w wv (.slice (some ⟨gn, 0, none⟩) 1 1) [e] 0))
 case first =>
  refine wp_region_held_drew (S := fun _ => True) (by kernel_rfl) trivial (fun _ => ?_)
  have HS := hid (show CSt w0 a len cap b w w.drew from HS0.out.drewN 1)
  generalize w.drew = W at *
  refine wpAnyH_take (i := 1) (v := ?_) rfl (by kernel_rfl) (by kernel_rfl) (by kernel_rfl) (fun _ _ _ h => h) (Or.inl ⟨by rfl, ?_⟩) trivial ?_
  rotate_left
  ·intro w hSw
   go_simp
   try (with_reducible rfl)
  try simp only [Act.put, List.setIfInBounds_toArray, List.set_cons_zero, List.set_cons_succ]
  refine wpAnyH_take (i := 5) (v := ?_) rfl (by kernel_rfl) (by kernel_rfl) (by kernel_rfl) (fun _ _ _ h => h) (Or.inl ⟨by rfl, ?_⟩) trivial ?_
  rotate_left
  ·intro w hSw
   go_simp
   try (with_reducible rfl)
  try simp only [Act.put, List.setIfInBounds_toArray, List.set_cons_zero, List.set_cons_succ]
  refine wpAnyH_ready (rs := [0, 2]) (by kernel_rfl) (by simp) (AllReadyH.cons rfl (fun K hK => ?_) (AllReadyH.cons rfl (fun K hK => ?_) AllReadyH.nil))
  ·have HTB := hid (show ¬ W.heap.size = b by have := HS.out.gr.size; have := HS.out.lt; omega)
   go_simp
   refine hK.out _ _ trivial (fun _ => ?_)
   clear hK K
   try simp only [Act.put, List.setIfInBounds_toArray, List.set_cons_zero, List.set_cons_succ]
   have HT := hid (heap_alloc_new W (.cells #[.string ⟨#[97]⟩, .string ⟨#[112, 58, 97]⟩] 9))
   replace HS := hid (HS.out.alloc (.cells #[.string ⟨#[97]⟩, .string ⟨#[112, 58, 97]⟩] 9))
   generalize W.heap.size = tb at *
   generalize W.alloc (.cells #[.string ⟨#[97]⟩, .string ⟨#[112, 58, 97]⟩] 9) = W at *
   refine wpAnyH_ready (rs := [2]) (by kernel_rfl) (by simp) (AllReadyH.cons rfl (fun K hK => ?_) AllReadyH.nil)
   ·go_simp
    refine (cBelow 2 w0 a len cap b _ hlen HR.out HS.out.cur (by omega) (by omega)).mono ?_
    rintro e W2 ⟨x, rfl, hx, hC, hG⟩
    replace HT := hid ((hG.block tb (lt_of_heap HT.out) (fun e => HTB.out (Option.some.inj e))).trans HT.out)
    replace HS := hid (HS.out.draw hC hG)
    have hxn : (x : Int) < 2 := by omega
    clear hC hG
    go_wp2_with fail
    refine hK.out _ _ trivial (fun _ => ?_)
    clear hK K
    try simp only [Act.put, List.setIfInBounds_toArray, List.set_cons_zero, List.set_cons_succ]
    generalize W2 = W at *
    refine wpAnyH_take (i := 3) (v := ?_) rfl (by kernel_rfl) (by kernel_rfl) (by kernel_rfl) (fun _ _ _ h => h) (Or.inl ⟨by rfl, ?_⟩) trivial ?_
    rotate_left
    ·intro w hSw
     go_simp
     try (with_reducible rfl)
    try simp only [Act.put, List.setIfInBounds_toArray, List.set_cons_zero, List.set_cons_succ]
    refine wpAnyH_ready (rs := [4, 6]) (by kernel_rfl) (by simp) (AllReadyH.cons rfl (fun K hK => ?_) (AllReadyH.cons rfl (fun K hK => ?_) AllReadyH.nil))
    ·obtain ⟨tA, hcA, htA, htP⟩ := tab2_at _ tb x hx HT.out
     go_simp
     refine hK.out _ _ trivial (fun _ => ?_)
     clear hK K
     try simp only [Act.put, List.setIfInBounds_toArray, List.set_cons_zero, List.set_cons_succ]
     clear hcA
     refine wpAnyH_ready (rs := [6]) (by kernel_rfl) (by simp) (AllReadyH.cons rfl (fun K hK => ?_) AllReadyH.nil)
     ·go_simp
      refine (cDrawAttrs true w0 a len cap b _ hlen HR.out HS.out.cur).mono ?_
      rintro e W3 ⟨a5, c5, l5, rfl, hl5, hd5⟩
      have HOA := hid (dst_own hd5 HS.out.gr.size)
      have HOW := hid (own_mono hd5.own HS.out.gr.size)
      have HSZ5 := hid hd5.sz
      replace HT := hid ((hd5.gr.block tb (lt_of_heap HT.out) (fun e => HTB.out (Option.some.inj e))).trans HT.out)
      replace HS := hid (HS.out.draw hd5.cur hd5.gr)
      clear hd5
      go_wp2_with fail
      refine hK.out _ _ trivial (fun _ => ?_)
      clear hK K
      try simp only [Act.put, List.setIfInBounds_toArray, List.set_cons_zero, List.set_cons_succ]
      generalize W3 = W at *
      refine wpAnyH_take (i := 7) (v := ?_) rfl (by kernel_rfl) (by kernel_rfl) (by kernel_rfl) (fun _ _ _ h => h) (Or.inl ⟨by rfl, ?_⟩) trivial ?_
      rotate_left
      ·intro w hSw
       go_simp
       try (with_reducible rfl)
      try simp only [Act.put, List.setIfInBounds_toArray, List.set_cons_zero, List.set_cons_succ]
      refine wpAnyH_ready (rs := [8]) (by kernel_rfl) (by simp) (AllReadyH.cons rfl (fun K hK => ?_) AllReadyH.nil)
      ·have HM := hid (heap_alloc_new W (.cells #[.int .i64 (-1), .string tA, .slice a5 l5.length c5, .string ⟨#[]⟩] 32))
       have HSA := hid (HS.out.alloc (.cells #[.int .i64 (-1), .string tA, .slice a5 l5.length c5, .string ⟨#[]⟩] 32))
       have HOA2 := hid (HOA.out.below ((Below.refl _ _).alloc (Nat.le_refl _) (.cells #[.int .i64 (-1), .string tA, .slice a5 l5.length c5, .string ⟨#[]⟩] 32)))
       have HOW2 := hid (HOW.out.alloc (.cells #[.int .i64 (-1), .string tA, .slice a5 l5.length c5, .string ⟨#[]⟩] 32))
       go_simp
       refine hK.out _ _ trivial (fun _ => ?_)
       clear hK K
       try simp only [Act.put, List.setIfInBounds_toArray, List.set_cons_zero, List.set_cons_succ]
       refine wpAnyH_ready (rs := [9]) (by kernel_rfl) (by simp) (AllReadyH.cons rfl (fun K hK => ?_) AllReadyH.nil)
       ·go_simp
        refine hK.out _ _ trivial (fun _ => ?_)
        clear hK K
        try simp only [Act.put, List.setIfInBounds_toArray, List.set_cons_zero, List.set_cons_succ]
        refine wpAnyH_done (by kernel_rfl) ?_ _
        go_wp2_with fail
        go_meet
        exact ⟨_, ⟨⟨-1, tA, l5, ⟨#[]⟩⟩, a5, c5⟩, rfl, nst_one HSA.out HM.out HOA2.out HOW2.out HS.out.gr.size htP ⟨by show tA.size <= 20; omega, by show l5.length <= 20; omega, HSZ5.out, Nat.zero_le _⟩⟩
    ·go_simp
     refine (cDrawAttrs true w0 a len cap b _ hlen HR.out HS.out.cur).mono ?_
     rintro e W3 ⟨a5, c5, l5, rfl, hl5, hd5⟩
     have HOA := hid (dst_own hd5 HS.out.gr.size)
     have HOW := hid (own_mono hd5.own HS.out.gr.size)
     have HSZ5 := hid hd5.sz
     replace HT := hid ((hd5.gr.block tb (lt_of_heap HT.out) (fun e => HTB.out (Option.some.inj e))).trans HT.out)
     replace HS := hid (HS.out.draw hd5.cur hd5.gr)
     clear hd5
     go_wp2_with fail
     refine hK.out _ _ trivial (fun _ => ?_)
     clear hK K
     try simp only [Act.put, List.setIfInBounds_toArray, List.set_cons_zero, List.set_cons_succ]
     generalize W3 = W at *
     refine wpAnyH_ready (rs := [4]) (by kernel_rfl) (by simp) (AllReadyH.cons rfl (fun K hK => ?_) AllReadyH.nil)
     ·obtain ⟨tA, hcA, htA, htP⟩ := tab2_at _ tb x hx HT.out
      go_simp
      refine hK.out _ _ trivial (fun _ => ?_)
      clear hK K
      try simp only [Act.put, List.setIfInBounds_toArray, List.set_cons_zero, List.set_cons_succ]
      clear hcA
      refine wpAnyH_take (i := 7) (v := ?_) rfl (by kernel_rfl) (by kernel_rfl) (by kernel_rfl) (fun _ _ _ h => h) (Or.inl ⟨by rfl, ?_⟩) trivial ?_
      rotate_left
      ·intro w hSw
       go_simp
       try (with_reducible rfl)
      try simp only [Act.put, List.setIfInBounds_toArray, List.set_cons_zero, List.set_cons_succ]
      refine wpAnyH_ready (rs := [8]) (by kernel_rfl) (by simp) (AllReadyH.cons rfl (fun K hK => ?_) AllReadyH.nil)
      ·have HM := hid (heap_alloc_new W (.cells #[.int .i64 (-1), .string tA, .slice a5 l5.length c5, .string ⟨#[]⟩] 32))
       have HSA := hid (HS.out.alloc (.cells #[.int .i64 (-1), .string tA, .slice a5 l5.length c5, .string ⟨#[]⟩] 32))
       have HOA2 := hid (HOA.out.below ((Below.refl _ _).alloc (Nat.le_refl _) (.cells #[.int .i64 (-1), .string tA, .slice a5 l5.length c5, .string ⟨#[]⟩] 32)))
       have HOW2 := hid (HOW.out.alloc (.cells #[.int .i64 (-1), .string tA, .slice a5 l5.length c5, .string ⟨#[]⟩] 32))
       go_simp
       refine hK.out _ _ trivial (fun _ => ?_)
       clear hK K
       try simp only [Act.put, List.setIfInBounds_toArray, List.set_cons_zero, List.set_cons_succ]
       refine wpAnyH_ready (rs := [9]) (by kernel_rfl) (by simp) (AllReadyH.cons rfl (fun K hK => ?_) AllReadyH.nil)
       ·go_simp
        refine hK.out _ _ trivial (fun _ => ?_)
        clear hK K
        try simp only [Act.put, List.setIfInBounds_toArray, List.set_cons_zero, List.set_cons_succ]
        refine wpAnyH_done (by kernel_rfl) ?_ _
        go_wp2_with fail
        go_meet
        exact ⟨_, ⟨⟨-1, tA, l5, ⟨#[]⟩⟩, a5, c5⟩, rfl, nst_one HSA.out HM.out HOA2.out HOW2.out HS.out.gr.size htP ⟨by show tA.size <= 20; omega, by show l5.length <= 20; omega, HSZ5.out, Nat.zero_le _⟩⟩
  ·go_simp
   refine (cBelow 2 w0 a len cap b _ hlen HR.out HS.out.cur (by omega) (by omega)).mono ?_
   rintro e W2 ⟨x, rfl, hx, hC, hG⟩
   replace HS := hid (HS.out.draw hC hG)
   have hxn : (x : Int) < 2 := by omega
   clear hC hG
   go_wp2_with fail
   refine hK.out _ _ trivial (fun _ => ?_)
   clear hK K
   try simp only [Act.put, List.setIfInBounds_toArray, List.set_cons_zero, List.set_cons_succ]
   generalize W2 = W at *
   refine wpAnyH_ready (rs := [0, 6]) (by kernel_rfl) (by simp) (AllReadyH.cons rfl (fun K hK => ?_) (AllReadyH.cons rfl (fun K hK => ?_) AllReadyH.nil))
   ·have HTB := hid (show ¬ W.heap.size = b by have := HS.out.gr.size; have := HS.out.lt; omega)
    go_simp
    refine hK.out _ _ trivial (fun _ => ?_)
    clear hK K
    try simp only [Act.put, List.setIfInBounds_toArray, List.set_cons_zero, List.set_cons_succ]
    have HT := hid (heap_alloc_new W (.cells #[.string ⟨#[97]⟩, .string ⟨#[112, 58, 97]⟩] 9))
    replace HS := hid (HS.out.alloc (.cells #[.string ⟨#[97]⟩, .string ⟨#[112, 58, 97]⟩] 9))
    generalize W.heap.size = tb at *
    generalize W.alloc (.cells #[.string ⟨#[97]⟩, .string ⟨#[112, 58, 97]⟩] 9) = W at *
    refine wpAnyH_take (i := 3) (v := ?_) rfl (by kernel_rfl) (by kernel_rfl) (by kernel_rfl) (fun _ _ _ h => h) (Or.inl ⟨by rfl, ?_⟩) trivial ?_
    rotate_left
    ·intro w hSw
     go_simp
     try (with_reducible rfl)
    try simp only [Act.put, List.setIfInBounds_toArray, List.set_cons_zero, List.set_cons_succ]
    refine wpAnyH_ready (rs := [4, 6]) (by kernel_rfl) (by simp) (AllReadyH.cons rfl (fun K hK => ?_) (AllReadyH.cons rfl (fun K hK => ?_) AllReadyH.nil))
    ·obtain ⟨tA, hcA, htA, htP⟩ := tab2_at _ tb x hx HT.out
     go_simp
     refine hK.out _ _ trivial (fun _ => ?_)
     clear hK K
     try simp only [Act.put, List.setIfInBounds_toArray, List.set_cons_zero, List.set_cons_succ]
     clear hcA
     refine wpAnyH_ready (rs := [6]) (by kernel_rfl) (by simp) (AllReadyH.cons rfl (fun K hK => ?_) AllReadyH.nil)
     ·go_simp
      refine (cDrawAttrs true w0 a len cap b _ hlen HR.out HS.out.cur).mono ?_
      rintro e W3 ⟨a5, c5, l5, rfl, hl5, hd5⟩
      have HOA := hid (dst_own hd5 HS.out.gr.size)
      have HOW := hid (own_mono hd5.own HS.out.gr.size)
      have HSZ5 := hid hd5.sz
      replace HT := hid ((hd5.gr.block tb (lt_of_heap HT.out) (fun e => HTB.out (Option.some.inj e))).trans HT.out)
      replace HS := hid (HS.out.draw hd5.cur hd5.gr)
      clear hd5
      go_wp2_with fail
      refine hK.out _ _ trivial (fun _ => ?_)
      clear hK K
      try simp only [Act.put, List.setIfInBounds_toArray, List.set_cons_zero, List.set_cons_succ]
      generalize W3 = W at *
      refine wpAnyH_take (i := 7) (v := ?_) rfl (by kernel_rfl) (by kernel_rfl) (by kernel_rfl) (fun _ _ _ h => h) (Or.inl ⟨by rfl, ?_⟩) trivial ?_
      rotate_left
      ·intro w hSw
       go_simp
       try (with_reducible rfl)
      try simp only [Act.put, List.setIfInBounds_toArray, List.set_cons_zero, List.set_cons_succ]
      refine wpAnyH_ready (rs := [8]) (by kernel_rfl) (by simp) (AllReadyH.cons rfl (fun K hK => ?_) AllReadyH.nil)
      ·have HM := hid (heap_alloc_new W (.cells #[.int .i64 (-1), .string tA, .slice a5 l5.length c5, .string ⟨#[]⟩] 32))
       have HSA := hid (HS.out.alloc (.cells #[.int .i64 (-1), .string tA, .slice a5 l5.length c5, .string ⟨#[]⟩] 32))
       have HOA2 := hid (HOA.out.below ((Below.refl _ _).alloc (Nat.le_refl _) (.cells #[.int .i64 (-1), .string tA, .slice a5 l5.length c5, .string ⟨#[]⟩] 32)))
       have HOW2 := hid (HOW.out.alloc (.cells #[.int .i64 (-1), .string tA, .slice a5 l5.length c5, .string ⟨#[]⟩] 32))
       go_simp
       refine hK.out _ _ trivial (fun _ => ?_)
       clear hK K
       try simp only [Act.put, List.setIfInBounds_toArray, List.set_cons_zero, List.set_cons_succ]
       refine wpAnyH_ready (rs := [9]) (by kernel_rfl) (by simp) (AllReadyH.cons rfl (fun K hK => ?_) AllReadyH.nil)
       ·go_simp
        refine hK.out _ _ trivial (fun _ => ?_)
        clear hK K
        try simp only [Act.put, List.setIfInBounds_toArray, List.set_cons_zero, List.set_cons_succ]
        refine wpAnyH_done (by kernel_rfl) ?_ _
        go_wp2_with fail
        go_meet
        exact ⟨_, ⟨⟨-1, tA, l5, ⟨#[]⟩⟩, a5, c5⟩, rfl, nst_one HSA.out HM.out HOA2.out HOW2.out HS.out.gr.size htP ⟨by show tA.size <= 20; omega, by show l5.length <= 20; omega, HSZ5.out, Nat.zero_le _⟩⟩
    ·go_simp
     refine (cDrawAttrs true w0 a len cap b _ hlen HR.out HS.out.cur).mono ?_
     rintro e W3 ⟨a5, c5, l5, rfl, hl5, hd5⟩
     have HOA := hid (dst_own hd5 HS.out.gr.size)
     have HOW := hid (own_mono hd5.own HS.out.gr.size)
     have HSZ5 := hid hd5.sz
     replace HT := hid ((hd5.gr.block tb (lt_of_heap HT.out) (fun e => HTB.out (Option.some.inj e))).trans HT.out)
     replace HS := hid (HS.out.draw hd5.cur hd5.gr)
     clear hd5
     go_wp2_with fail
     refine hK.out _ _ trivial (fun _ => ?_)
     clear hK K
     try simp only [Act.put, List.setIfInBounds_toArray, List.set_cons_zero, List.set_cons_succ]
     generalize W3 = W at *
     refine wpAnyH_ready (rs := [4]) (by kernel_rfl) (by simp) (AllReadyH.cons rfl (fun K hK => ?_) AllReadyH.nil)
     ·obtain ⟨tA, hcA, htA, htP⟩ := tab2_at _ tb x hx HT.out
      go_simp
      refine hK.out _ _ trivial (fun _ => ?_)
      clear hK K
      try simp only [Act.put, List.setIfInBounds_toArray, List.set_cons_zero, List.set_cons_succ]
      clear hcA
      refine wpAnyH_take (i := 7) (v := ?_) rfl (by kernel_rfl) (by kernel_rfl) (by kernel_rfl) (fun _ _ _ h => h) (Or.inl ⟨by rfl, ?_⟩) trivial ?_
      rotate_left
      ·intro w hSw
       go_simp
       try (with_reducible rfl)
      try simp only [Act.put, List.setIfInBounds_toArray, List.set_cons_zero, List.set_cons_succ]
      refine wpAnyH_ready (rs := [8]) (by kernel_rfl) (by simp) (AllReadyH.cons rfl (fun K hK => ?_) AllReadyH.nil)
      ·have HM := hid (heap_alloc_new W (.cells #[.int .i64 (-1), .string tA, .slice a5 l5.length c5, .string ⟨#[]⟩] 32))
       have HSA := hid (HS.out.alloc (.cells #[.int .i64 (-1), .string tA, .slice a5 l5.length c5, .string ⟨#[]⟩] 32))
       have HOA2 := hid (HOA.out.below ((Below.refl _ _).alloc (Nat.le_refl _) (.cells #[.int .i64 (-1), .string tA, .slice a5 l5.length c5, .string ⟨#[]⟩] 32)))
       have HOW2 := hid (HOW.out.alloc (.cells #[.int .i64 (-1), .string tA, .slice a5 l5.length c5, .string ⟨#[]⟩] 32))
       go_simp
       refine hK.out _ _ trivial (fun _ => ?_)
       clear hK K
       try simp only [Act.put, List.setIfInBounds_toArray, List.set_cons_zero, List.set_cons_succ]
       refine wpAnyH_ready (rs := [9]) (by kernel_rfl) (by simp) (AllReadyH.cons rfl (fun K hK => ?_) AllReadyH.nil)
       ·go_simp
        refine hK.out _ _ trivial (fun _ => ?_)
        clear hK K
        try simp only [Act.put, List.setIfInBounds_toArray, List.set_cons_zero, List.set_cons_succ]
        refine wpAnyH_done (by kernel_rfl) ?_ _
        go_wp2_with fail
        go_meet
        exact ⟨_, ⟨⟨-1, tA, l5, ⟨#[]⟩⟩, a5, c5⟩, rfl, nst_one HSA.out HM.out HOA2.out HOW2.out HS.out.gr.size htP ⟨by show tA.size <= 20; omega, by show l5.length <= 20; omega, HSZ5.out, Nat.zero_le _⟩⟩
   ·go_simp
    refine (cDrawAttrs true w0 a len cap b _ hlen HR.out HS.out.cur).mono ?_
    rintro e W3 ⟨a5, c5, l5, rfl, hl5, hd5⟩
    have HOA := hid (dst_own hd5 HS.out.gr.size)
    have HOW := hid (own_mono hd5.own HS.out.gr.size)
    have HSZ5 := hid hd5.sz
    replace HS := hid (HS.out.draw hd5.cur hd5.gr)
    clear hd5
    go_wp2_with fail
    refine hK.out _ _ trivial (fun _ => ?_)
    clear hK K
    try simp only [Act.put, List.setIfInBounds_toArray, List.set_cons_zero, List.set_cons_succ]
    generalize W3 = W at *
    refine wpAnyH_ready (rs := [0]) (by kernel_rfl) (by simp) (AllReadyH.cons rfl (fun K hK => ?_) AllReadyH.nil)
    ·have HTB := hid (show ¬ W.heap.size = b by have := HS.out.gr.size; have := HS.out.lt; omega)
     go_simp
     refine hK.out _ _ trivial (fun _ => ?_)
     clear hK K
     try simp only [Act.put, List.setIfInBounds_toArray, List.set_cons_zero, List.set_cons_succ]
     have HT := hid (heap_alloc_new W (.cells #[.string ⟨#[97]⟩, .string ⟨#[112, 58, 97]⟩] 9))
     replace HS := hid (HS.out.alloc (.cells #[.string ⟨#[97]⟩, .string ⟨#[112, 58, 97]⟩] 9))
     replace HOA := hid (HOA.out.below ((Below.refl _ _).alloc (Nat.le_refl _) (.cells #[.string ⟨#[97]⟩, .string ⟨#[112, 58, 97]⟩] 9)))
     replace HOW := hid (HOW.out.alloc (.cells #[.string ⟨#[97]⟩, .string ⟨#[112, 58, 97]⟩] 9))
     generalize W.heap.size = tb at *
     generalize W.alloc (.cells #[.string ⟨#[97]⟩, .string ⟨#[112, 58, 97]⟩] 9) = W at *
     refine wpAnyH_take (i := 3) (v := ?_) rfl (by kernel_rfl) (by kernel_rfl) (by kernel_rfl) (fun _ _ _ h => h) (Or.inl ⟨by rfl, ?_⟩) trivial ?_
     rotate_left
     ·intro w hSw
      go_simp
      try (with_reducible rfl)
     try simp only [Act.put, List.setIfInBounds_toArray, List.set_cons_zero, List.set_cons_succ]
     refine wpAnyH_ready (rs := [4]) (by kernel_rfl) (by simp) (AllReadyH.cons rfl (fun K hK => ?_) AllReadyH.nil)
     ·obtain ⟨tA, hcA, htA, htP⟩ := tab2_at _ tb x hx HT.out
      go_simp
      refine hK.out _ _ trivial (fun _ => ?_)
      clear hK K
      try simp only [Act.put, List.setIfInBounds_toArray, List.set_cons_zero, List.set_cons_succ]
      clear hcA
      refine wpAnyH_take (i := 7) (v := ?_) rfl (by kernel_rfl) (by kernel_rfl) (by kernel_rfl) (fun _ _ _ h => h) (Or.inl ⟨by rfl, ?_⟩) trivial ?_
      rotate_left
      ·intro w hSw
       go_simp
       try (with_reducible rfl)
      try simp only [Act.put, List.setIfInBounds_toArray, List.set_cons_zero, List.set_cons_succ]
      refine wpAnyH_ready (rs := [8]) (by kernel_rfl) (by simp) (AllReadyH.cons rfl (fun K hK => ?_) AllReadyH.nil)
      ·have HM := hid (heap_alloc_new W (.cells #[.int .i64 (-1), .string tA, .slice a5 l5.length c5, .string ⟨#[]⟩] 32))
       have HSA := hid (HS.out.alloc (.cells #[.int .i64 (-1), .string tA, .slice a5 l5.length c5, .string ⟨#[]⟩] 32))
       have HOA2 := hid (HOA.out.below ((Below.refl _ _).alloc (Nat.le_refl _) (.cells #[.int .i64 (-1), .string tA, .slice a5 l5.length c5, .string ⟨#[]⟩] 32)))
       have HOW2 := hid (HOW.out.alloc (.cells #[.int .i64 (-1), .string tA, .slice a5 l5.length c5, .string ⟨#[]⟩] 32))
       go_simp
       refine hK.out _ _ trivial (fun _ => ?_)
       clear hK K
       try simp only [Act.put, List.setIfInBounds_toArray, List.set_cons_zero, List.set_cons_succ]
       refine wpAnyH_ready (rs := [9]) (by kernel_rfl) (by simp) (AllReadyH.cons rfl (fun K hK => ?_) AllReadyH.nil)
       ·go_simp
        refine hK.out _ _ trivial (fun _ => ?_)
        clear hK K
        try simp only [Act.put, List.setIfInBounds_toArray, List.set_cons_zero, List.set_cons_succ]
        refine wpAnyH_done (by kernel_rfl) ?_ _
        go_wp2_with fail
        go_meet
        exact ⟨_, ⟨⟨-1, tA, l5, ⟨#[]⟩⟩, a5, c5⟩, rfl, nst_one HSA.out HM.out HOA2.out HOW2.out HS.out.gr.size htP ⟨by show tA.size <= 20; omega, by show l5.length <= 20; omega, HSZ5.out, Nat.zero_le _⟩⟩
 obtain ⟨gn, e1, rfl, HN1⟩ := hcut
 clear HS0
 go_wp2_with fail
 refine (cBelow 10 w0 a len cap b _ hlen HR.out HN1.out.c.cur (by omega) (by omega)).mono ?_
 rintro e w2 ⟨y, rfl, hy, hC2, hG2⟩
 have HN2 := hid (HN1.out.draw hC2 hG2)
 clear hC2 hG2 HN1
 go_wp2_with fail
 go_loopw [3, 4, 5] (fun v x y wr => ∃ (k : Nat) (es : List Nd.E) (at_ : Nat), y = .int .i64 (k : Int) /\ k <= 9 /\ x = .int .i64 (at_ : Int) /\ es.length + k <= 10 /\ Hid (NSt w0 a len cap b w wr v es at_)) (fun _ _ y _ => (intOf y).toNat)
 case atStart => exact ⟨y, [e1], 0, rfl, by omega, rfl, by show 1 + y <= 10; omega, HN2.out⟩
 case round =>
  clear HN2
  obtain ⟨k, es, at_, rfl, hk, rfl, hek, HN⟩ := hrel
  obtain ⟨av, cv, hv, htk⟩ := HN.out.row.tkRow
  have hpos : 1 <= es.length := by have := HN.out.grn.pos; rw [List.length_map] at this; exact this
  subst hv
  by_cases h0 : k = 0
  ·subst h0
   clear htk
   go_wp2_with fail
   go_ret
   exact ⟨av, cv, es, at_, rfl, hpos, by omega, HN.out⟩
  obtain ⟨k1, rfl⟩ : ∃ k1, k = k1 + 1 := ⟨k - 1, by omega⟩
  obtain ⟨m, hm⟩ : ∃ m, es.length = m + 1 := ⟨es.length - 1, by omega⟩
  have HL := hid hm
  have hlm : (es.map (·.t)).length = m + 1 := by rw [List.length_map]; exact hm
  have hat : at_ < m + 1 := by have := HN.out.grn.lt; rw [hlm] at this; exact this
  have HLM := hid hlm
  obtain ⟨bb5, o5, aa, ca, ea, hb5, c0, c1, c2, c3, cr5⟩ := htk m (by omega)
  clear cr5
  have HTK := hid htk
  have HB5 := hid hb5
  subst ea
  obtain ⟨tl, htl⟩ : ∃ t, (es.map (·.t))[m] = t := ⟨_, rfl⟩
  have hz5 := (show TkSz 20 tl from by
   rw [<- htl, List.getElem_map]
   exact HN.out.sz _ (List.getElem_mem (by omega)))
  rw [htl] at c0 c1 c2 c3
  obtain ⟨tk, tn, tat, tx⟩ := tl
  have z1 : tn.size <= 20 := hz5.1
  simp only at c0 c1 c2 c3
  have M1 := hid (heap_alloc_new wr (.cells #[.int .i64 tk, .string tn, .slice aa tat.length ca, .string tx] 32))
  have HNA := hid (HN.out.alloc (.cells #[.int .i64 tk, .string tn, .slice aa tat.length ca, .string tx] 32))
  have hbw : ¬ wr.heap.size = b := by have := HN.out.c.gr.size; have := HN.out.c.lt; omega
  have HNL := hid (show es.length + [(⟨⟨0, ⟨#[]⟩, [], ⟨#[]⟩⟩, none, 0⟩ : Nd.E)].length <= 2097152 by rw [hm]; simp; omega)
  rw [hm] at HN HNA hek ⊢
  obtain ⟨q, hq⟩ : ∃ q, tat.length = q := ⟨_, rfl⟩
  rw [hq] at c2 M1 HNA
  clear htl hlm hm htk hz5 hq hpos
  go_wp2_with fail
  refine (cBelow 5 w0 a len cap b _ hlen HR.out HNA.out.c.cur (by omega) (by omega)).mono ?_
  rintro e w3 ⟨x, rfl, hx, hC3, hG3⟩
  have HN3 := hid (HNA.out.draw hC3 hG3)
  have M3 := hid ((hG3.block wr.heap.size (lt_of_heap M1.out) (fun e => hbw (Option.some.inj e))).trans M1.out)
  clear hC3 hG3 c0 c1 c2 c3 HNA M1
  obtain ⟨⟨x0, x1, x2, x3⟩, _⟩ := box4 M3.out
  by_cases hx2 : x < 2
  ·have hd2 : decide ((x : Int) < 2) = true := decide_eq_true (by omega)
   have E1 := empty_is tn
   obtain ⟨B1, hB1⟩ : ∃ B, decide (tn.size = 0) = B := ⟨_, rfl⟩
   rw [hB1] at E1
   obtain ⟨B2, hB2⟩ : ∃ B : Bool, (tk == (at_ : Int)) = B := ⟨_, rfl⟩
   clear hB1
   go_upto_region 12 with fail
   go_cut [67] from 57 to 89 (fun x wv => x = .bool (B1 && B2) /\ wv = w3)
   case first =>
    cases B1
    ·go_wp2_with fail
     go_meet
     exact ⟨rfl, rfl⟩
    ·go_wp2_with fail
     go_meet
     exact ⟨rfl, rfl⟩
   obtain ⟨rfl, rfl⟩ := hcut
   obtain ⟨BB, hBB⟩ : ∃ B, (B1 && B2) = B := ⟨_, rfl⟩
   rw [hBB]
   clear hBB hB2 E1
   cases BB
   ·go_wp2_with fail
    refine (cText ⟨#[97, 98, 60, 38, 62, 32, 10]⟩ 4 w0 a len cap b _ (by omega) (by omega) (by decide) (by decide) hlen HR.out HN3.out.c.cur).mono ?_
    rintro e w4 ⟨t5, rfl, ht5, hC4, hG4⟩
    have HN4 := hid (HN3.out.draw hC4 hG4)
    obtain ⟨S5, hS5⟩ : ∃ S, (⟨#[116]⟩ : ByteArray) ++ t5 = S := ⟨_, rfl⟩
    have hz6 : S5.size <= 20 := by rw [<- hS5, ByteArray.size_append, show (⟨#[116]⟩ : ByteArray).size = 1 from rfl]; omega
    have hov : ¬ 9223372036854775807 < (⟨#[116]⟩ : ByteArray).size + t5.size := by rw [show (⟨#[116]⟩ : ByteArray).size = 1 from rfl]; omega
    have HMN := hid (heap_alloc_new w4 (.cells #[.int .i64 (at_ : Int), .string ⟨#[]⟩, .slice none 0 0, .string S5] 32))
    have HSA := hid (HN4.out.alloc (.cells #[.int .i64 (at_ : Int), .string ⟨#[]⟩, .slice none 0 0, .string S5] 32))
    have HCL := hid (one_cells (l5 := []) HMN.out)
    have hw4 := HN4.out.c.gr.size
    clear hC4 hG4 x0 x1 x2 x3
    go_wp2_with (at_builtin; refine Nd.wpL_join _ rfl _ _ rfl w.heap.size _ es [⟨⟨(at_ : Int), ⟨#[]⟩, [], S5⟩, none, 0⟩] rfl HSA.out.row w4.heap.size 1 1 rfl rfl HCL.out (fun y hy => ?d1) (List.pairwise_singleton _ _) (fun e he y hy => ?d2) ?d3 ?d4 ?_)
    case d1 =>
     rw [List.mem_singleton] at hy
     subst hy
     exact ⟨fun h => absurd h (Nat.not_lt_zero _), fun g o h => absurd h (Nat.not_lt_zero _)⟩
    case d2 =>
     rw [List.mem_singleton] at hy
     subst hy
     exact fun _ h => absurd h (Nat.not_lt_zero _)
    case d3 => exact HNL.out
    case d4 => simp; omega
    intro a7 c7 w7 hr7 hb7 hg7
    have HN7 := hid (HSA.out.join (e := ⟨⟨(at_ : Int), ⟨#[]⟩, [], S5⟩, none, 0⟩) hr7 hg7 (World.ownsRow_nil _ _ _ _) (fun _ _ _ _ e => nomatch (show (none : Option Nat) = some _ from e)) ⟨Nat.zero_le _, Nat.zero_le _, fun y hy => absurd hy List.not_mem_nil, hz6⟩ (HSA.out.grn.keep rfl))
    clear hr7 hb7 hg7
    go_wp2_with fail
    go_roundw
    case rel => exact ⟨k1, es ++ [⟨⟨(at_ : Int), ⟨#[]⟩, [], S5⟩, none, 0⟩], at_, by go_num, by omega, rfl, by rw [List.length_append, HL.out]; simp; omega, hid (by simpa using HN7.out)⟩
    case measure => first | (simp [intOf]; omega) | simp [intOf]
   ·go_wp2_with fail
    go_roundw
    case rel => exact ⟨k1, es, at_, by go_num, by omega, rfl, by rw [HL.out]; omega, HN3.out⟩
    case measure => first | (simp [intOf]; omega) | simp [intOf]
  have hd2 : decide ((x : Int) < 2) = false := decide_eq_false (by omega)
  by_cases hx4 : x = 4
  ·subst hx4
   obtain ⟨av2, cv2, ev2, htk3⟩ := HN3.out.row.tkRow
   obtain ⟨rfl, rfl⟩ : some (⟨bb5, o5, none⟩ : Addr) = av2 /\ cv = cv2 := by injection ev2 with h1 _ h3; exact ⟨h1, h3⟩
   obtain ⟨b6, o6, ea6, y0, _⟩ := htk3.kindAt at_ (by rw [HLM.out]; exact hat)
   obtain ⟨rfl, rfl⟩ : bb5 = b6 /\ o5 = o6 := by cases ea6; exact ⟨rfl, rfl⟩
   have hatn : (at_ : Int) < ((m + 1 : Nat) : Int) := by omega
   obtain ⟨P, hP⟩ : ∃ P, parI (es.map (·.t)) at_ = P := ⟨_, rfl⟩
   have HP := hid hP
   rw [hP] at y0
   clear hP htk3 ev2 ea6
   by_cases hp0 : 0 <= P
   ·have HG := hid (HN3.out.grn.outer (by rw [HP.out]; exact hp0))
    rw [HP.out] at HG
    obtain ⟨pn, hpn⟩ : ∃ pn : Nat, P = (pn : Int) := ⟨P.toNat, by omega⟩
    subst hpn
    rw [Int.toNat_natCast] at HG
    go_wp2_with fail
    go_roundw
    case rel => exact ⟨k1, es, pn, by go_num, by omega, rfl, by rw [HL.out]; omega, ⟨HN3.out.c, HN3.out.row, HN3.out.sz, HG.out, HN3.out.own, HN3.out.apo⟩⟩
    case measure => first | (simp [intOf]; omega) | simp [intOf]
   ·have hp1 : P < 0 := by omega
    go_wp2_with fail
    go_roundw
    case rel => exact ⟨k1, es, at_, by go_num, by omega, rfl, by rw [HL.out]; omega, HN3.out⟩
    case measure => first | (simp [intOf]; omega) | simp [intOf]
  ·have hd4 : ((x : Int) == 4) = false := by simp; omega
   generalize some (⟨bb5, o5, none⟩ : Addr) = av at *
   have HL2 := hid (show ∀ e : Nd.E, (es ++ [e]).length = m + 1 + 1 from fun e => by rw [List.length_append, HL.out]; rfl)
   clear hx2
   go_upto_region 8 with fail
   go_cut [3] from 31 to 89 (fun x wv => ∃ (a7 : Option Addr) (c7 : Nat) (e : Nd.E), x = .slice a7 (m + 1 + 1) c7 /\ e.t.kind = (at_ : Int) /\ ¬ e.t.name.size = 0 /\ Hid (NSt w0 a len cap b w wv (.slice a7 (m + 1 + 1) c7) (es ++ [e]) at_))
   case first =>
     refine wp_region_held_drew (S := fun _ => True) (by kernel_rfl) trivial (fun _ => ?_)
     have HS := hid (show NSt w0 a len cap b w w3.drew (.slice av (m + 1) cv) es at_ from HN3.out.drewN 1)
     generalize w3.drew = W at *
     refine wpAnyH_take (i := 0) (v := ?_) rfl (by kernel_rfl) (by kernel_rfl) (by kernel_rfl) (fun _ _ _ h => h) (Or.inl ⟨by rfl, ?_⟩) trivial ?_
     rotate_left
     ·intro w hSw
      go_simp
      try (with_reducible rfl)
     try simp only [Act.put, List.setIfInBounds_toArray, List.set_cons_zero, List.set_cons_succ]
     refine wpAnyH_take (i := 1) (v := ?_) rfl (by kernel_rfl) (by kernel_rfl) (by kernel_rfl) (fun _ _ _ h => h) (Or.inl ⟨by rfl, ?_⟩) trivial ?_
     rotate_left
     ·intro w hSw
      go_simp
      try (with_reducible rfl)
     try simp only [Act.put, List.setIfInBounds_toArray, List.set_cons_zero, List.set_cons_succ]
     refine wpAnyH_take (i := 3) (v := ?_) rfl (by kernel_rfl) (by kernel_rfl) (by kernel_rfl) (fun _ _ _ h => h) (Or.inl ⟨by rfl, ?_⟩) trivial ?_
     rotate_left
     ·intro w hSw
      go_simp
      try (with_reducible rfl)
     try simp only [Act.put, List.setIfInBounds_toArray, List.set_cons_zero, List.set_cons_succ]
     refine wpAnyH_take (i := 7) (v := ?_) rfl (by kernel_rfl) (by kernel_rfl) (by kernel_rfl) (fun _ _ _ h => h) (Or.inl ⟨by rfl, ?_⟩) trivial ?_
     rotate_left
     ·intro w hSw
      go_simp
      try (with_reducible rfl)
     try simp only [Act.put, List.setIfInBounds_toArray, List.set_cons_zero, List.set_cons_succ]
     refine wpAnyH_ready (rs := [2, 4]) (by kernel_rfl) (by simp) (AllReadyH.cons rfl (fun K hK => ?_) (AllReadyH.cons rfl (fun K hK => ?_) AllReadyH.nil))
     ·have HTB := hid (show ¬ W.heap.size = b by have := HS.out.c.gr.size; have := HS.out.c.lt; omega)
      go_simp
      refine hK.out _ _ trivial (fun _ => ?_)
      clear hK K
      try simp only [Act.put, List.setIfInBounds_toArray, List.set_cons_zero, List.set_cons_succ]
      have HT := hid (heap_alloc_new W (.cells #[.string ⟨#[97]⟩, .string ⟨#[98]⟩, .string ⟨#[112, 58, 97]⟩, .string ⟨#[113, 58, 98]⟩, .string ⟨#[99]⟩] 9))
      replace HS := hid (HS.out.alloc (.cells #[.string ⟨#[97]⟩, .string ⟨#[98]⟩, .string ⟨#[112, 58, 97]⟩, .string ⟨#[113, 58, 98]⟩, .string ⟨#[99]⟩] 9))
      generalize W.heap.size = tb at *
      generalize W.alloc (.cells #[.string ⟨#[97]⟩, .string ⟨#[98]⟩, .string ⟨#[112, 58, 97]⟩, .string ⟨#[113, 58, 98]⟩, .string ⟨#[99]⟩] 9) = W at *
      refine wpAnyH_ready (rs := [4]) (by kernel_rfl) (by simp) (AllReadyH.cons rfl (fun K hK => ?_) AllReadyH.nil)
      ·go_simp
       refine (cBelow 5 w0 a len cap b _ hlen HR.out HS.out.c.cur (by omega) (by omega)).mono ?_
       rintro e W2 ⟨x, rfl, hx, hC, hG⟩
       replace HT := hid ((hG.block tb (lt_of_heap HT.out) (fun e => HTB.out (Option.some.inj e))).trans HT.out)
       replace HS := hid (HS.out.draw hC hG)
       have hxn : (x : Int) < 5 := by omega
       clear hC hG
       go_wp2_with fail
       refine hK.out _ _ trivial (fun _ => ?_)
       clear hK K
       try simp only [Act.put, List.setIfInBounds_toArray, List.set_cons_zero, List.set_cons_succ]
       generalize W2 = W at *
       refine wpAnyH_take (i := 5) (v := ?_) rfl (by kernel_rfl) (by kernel_rfl) (by kernel_rfl) (fun _ _ _ h => h) (Or.inl ⟨by rfl, ?_⟩) trivial ?_
       rotate_left
       ·intro w hSw
        go_simp
        try (with_reducible rfl)
       try simp only [Act.put, List.setIfInBounds_toArray, List.set_cons_zero, List.set_cons_succ]
       refine wpAnyH_ready (rs := [6, 8]) (by kernel_rfl) (by simp) (AllReadyH.cons rfl (fun K hK => ?_) (AllReadyH.cons rfl (fun K hK => ?_) AllReadyH.nil))
       ·obtain ⟨tA, hcA, htA, htP⟩ := tab5_at _ tb x hx HT.out
        go_simp
        refine hK.out _ _ trivial (fun _ => ?_)
        clear hK K
        try simp only [Act.put, List.setIfInBounds_toArray, List.set_cons_zero, List.set_cons_succ]
        clear hcA
        refine wpAnyH_ready (rs := [8]) (by kernel_rfl) (by simp) (AllReadyH.cons rfl (fun K hK => ?_) AllReadyH.nil)
        ·go_simp
         refine (cDrawAttrs false w0 a len cap b _ hlen HR.out HS.out.c.cur).mono ?_
         rintro e W3 ⟨a5, c5, l5, rfl, hl5, hd5⟩
         have HOA := hid (dst_own hd5 HS.out.c.gr.size)
         have HOW := hid (own_mono hd5.own HS.out.c.gr.size)
         have HSZ5 := hid hd5.sz
         have HAP := hid (ap_of HS.out.row (dst_own hd5 (Nat.le_refl _)))
         have HAO := hid (apo_of HS.out.own hd5.own)
         replace HT := hid ((hd5.gr.block tb (lt_of_heap HT.out) (fun e => HTB.out (Option.some.inj e))).trans HT.out)
         replace HS := hid (HS.out.draw hd5.cur hd5.gr)
         clear hd5
         go_wp2_with fail
         refine hK.out _ _ trivial (fun _ => ?_)
         clear hK K
         try simp only [Act.put, List.setIfInBounds_toArray, List.set_cons_zero, List.set_cons_succ]
         generalize W3 = W at *
         refine wpAnyH_take (i := 9) (v := ?_) rfl (by kernel_rfl) (by kernel_rfl) (by kernel_rfl) (fun _ _ _ h => h) (Or.inl ⟨by rfl, ?_⟩) trivial ?_
         rotate_left
         ·intro w hSw
          go_simp
          try (with_reducible rfl)
         try simp only [Act.put, List.setIfInBounds_toArray, List.set_cons_zero, List.set_cons_succ]
         refine wpAnyH_ready (rs := [10]) (by kernel_rfl) (by simp) (AllReadyH.cons rfl (fun K hK => ?_) AllReadyH.nil)
         ·have HMN := hid (heap_alloc_new W (.cells #[.int .i64 (at_ : Int), .string tA, .slice a5 l5.length c5, .string ⟨#[]⟩] 32))
          have HSA := hid (HS.out.alloc (.cells #[.int .i64 (at_ : Int), .string tA, .slice a5 l5.length c5, .string ⟨#[]⟩] 32))
          have HOA2 := hid (HOA.out.below ((Below.refl _ _).alloc (Nat.le_refl _) (.cells #[.int .i64 (at_ : Int), .string tA, .slice a5 l5.length c5, .string ⟨#[]⟩] 32)))
          have HOW2 := hid (HOW.out.alloc (.cells #[.int .i64 (at_ : Int), .string tA, .slice a5 l5.length c5, .string ⟨#[]⟩] 32))
          have HZW := hid (show w.heap.size <= (W.alloc (.cells #[.int .i64 (at_ : Int), .string tA, .slice a5 l5.length c5, .string ⟨#[]⟩] 32)).heap.size from HSA.out.c.gr.size)
          go_simp
          refine hK.out _ _ trivial (fun _ => ?_)
          clear hK K
          try simp only [Act.put, List.setIfInBounds_toArray, List.set_cons_zero, List.set_cons_succ]
          generalize W.heap.size = gn at *
          generalize W.alloc (.cells #[.int .i64 (at_ : Int), .string tA, .slice a5 l5.length c5, .string ⟨#[]⟩] 32) = W at *
          refine wpAnyH_ready (rs := [11]) (by kernel_rfl) (by simp) (AllReadyH.cons rfl (fun K hK => ?_) AllReadyH.nil)
          ·refine Nd.step_join rfl (.tmp 31) (.tmp 41) rfl w.heap.size (.slice av (m + 1) cv) es [⟨⟨(at_ : Int), tA, l5, ⟨#[]⟩⟩, a5, c5⟩] (by simp [Act.eval, Act.put]) HSA.out.row gn 1 1 (by simp [Act.eval, Act.put]) rfl (one_cells HMN.out) (one_hf HOA2.out HAP.out.2) (List.pairwise_singleton _ _) (one_ap HAP.out.1) HNL.out HZW.out ?_
           intro a7 c7 w7 hr7 hb7 hg7
           have HR7 := hid hr7
           have HG7 := hid hg7
           clear hr7 hb7 hg7
           refine hK.out _ _ trivial (fun _ => ?_)
           clear hK K
           try simp only [Act.put, List.setIfInBounds_toArray, List.set_cons_zero, List.set_cons_succ]
           refine wpAnyH_ready (rs := [12]) (by kernel_rfl) (by simp) (AllReadyH.cons rfl (fun K hK => ?_) AllReadyH.nil)
           ·go_simp
            refine hK.out _ _ trivial (fun _ => ?_)
            clear hK K
            try simp only [Act.put, List.setIfInBounds_toArray, List.set_cons_zero, List.set_cons_succ]
            refine wpAnyH_done (by kernel_rfl) ?_ _
            go_wp2_with fail
            go_meet
            exact ⟨a7, c7, ⟨⟨(at_ : Int), tA, l5, ⟨#[]⟩⟩, a5, c5⟩, by rw [HL.out], rfl, htP, by rw [<- HL2.out ⟨⟨(at_ : Int), tA, l5, ⟨#[]⟩⟩, a5, c5⟩]; exact HSA.out.join HR7.out HG7.out HOW2.out HAO.out ⟨by show tA.size <= 20; omega, by show l5.length <= 20; omega, HSZ5.out, Nat.zero_le _⟩ (HSA.out.grn.keep rfl)⟩
       ·go_simp
        refine (cDrawAttrs false w0 a len cap b _ hlen HR.out HS.out.c.cur).mono ?_
        rintro e W3 ⟨a5, c5, l5, rfl, hl5, hd5⟩
        have HOA := hid (dst_own hd5 HS.out.c.gr.size)
        have HOW := hid (own_mono hd5.own HS.out.c.gr.size)
        have HSZ5 := hid hd5.sz
        have HAP := hid (ap_of HS.out.row (dst_own hd5 (Nat.le_refl _)))
        have HAO := hid (apo_of HS.out.own hd5.own)
        replace HT := hid ((hd5.gr.block tb (lt_of_heap HT.out) (fun e => HTB.out (Option.some.inj e))).trans HT.out)
        replace HS := hid (HS.out.draw hd5.cur hd5.gr)
        clear hd5
        go_wp2_with fail
        refine hK.out _ _ trivial (fun _ => ?_)
        clear hK K
        try simp only [Act.put, List.setIfInBounds_toArray, List.set_cons_zero, List.set_cons_succ]
        generalize W3 = W at *
        refine wpAnyH_ready (rs := [6]) (by kernel_rfl) (by simp) (AllReadyH.cons rfl (fun K hK => ?_) AllReadyH.nil)
        ·obtain ⟨tA, hcA, htA, htP⟩ := tab5_at _ tb x hx HT.out
         go_simp
         refine hK.out _ _ trivial (fun _ => ?_)
         clear hK K
         try simp only [Act.put, List.setIfInBounds_toArray, List.set_cons_zero, List.set_cons_succ]
         clear hcA
         refine wpAnyH_take (i := 9) (v := ?_) rfl (by kernel_rfl) (by kernel_rfl) (by kernel_rfl) (fun _ _ _ h => h) (Or.inl ⟨by rfl, ?_⟩) trivial ?_
         rotate_left
         ·intro w hSw
          go_simp
          try (with_reducible rfl)
         try simp only [Act.put, List.setIfInBounds_toArray, List.set_cons_zero, List.set_cons_succ]
         refine wpAnyH_ready (rs := [10]) (by kernel_rfl) (by simp) (AllReadyH.cons rfl (fun K hK => ?_) AllReadyH.nil)
         ·have HMN := hid (heap_alloc_new W (.cells #[.int .i64 (at_ : Int), .string tA, .slice a5 l5.length c5, .string ⟨#[]⟩] 32))
          have HSA := hid (HS.out.alloc (.cells #[.int .i64 (at_ : Int), .string tA, .slice a5 l5.length c5, .string ⟨#[]⟩] 32))
          have HOA2 := hid (HOA.out.below ((Below.refl _ _).alloc (Nat.le_refl _) (.cells #[.int .i64 (at_ : Int), .string tA, .slice a5 l5.length c5, .string ⟨#[]⟩] 32)))
          have HOW2 := hid (HOW.out.alloc (.cells #[.int .i64 (at_ : Int), .string tA, .slice a5 l5.length c5, .string ⟨#[]⟩] 32))
          have HZW := hid (show w.heap.size <= (W.alloc (.cells #[.int .i64 (at_ : Int), .string tA, .slice a5 l5.length c5, .string ⟨#[]⟩] 32)).heap.size from HSA.out.c.gr.size)
          go_simp
          refine hK.out _ _ trivial (fun _ => ?_)
          clear hK K
          try simp only [Act.put, List.setIfInBounds_toArray, List.set_cons_zero, List.set_cons_succ]
          generalize W.heap.size = gn at *
          generalize W.alloc (.cells #[.int .i64 (at_ : Int), .string tA, .slice a5 l5.length c5, .string ⟨#[]⟩] 32) = W at *
          refine wpAnyH_ready (rs := [11]) (by kernel_rfl) (by simp) (AllReadyH.cons rfl (fun K hK => ?_) AllReadyH.nil)
          ·refine Nd.step_join rfl (.tmp 31) (.tmp 41) rfl w.heap.size (.slice av (m + 1) cv) es [⟨⟨(at_ : Int), tA, l5, ⟨#[]⟩⟩, a5, c5⟩] (by simp [Act.eval, Act.put]) HSA.out.row gn 1 1 (by simp [Act.eval, Act.put]) rfl (one_cells HMN.out) (one_hf HOA2.out HAP.out.2) (List.pairwise_singleton _ _) (one_ap HAP.out.1) HNL.out HZW.out ?_
           intro a7 c7 w7 hr7 hb7 hg7
           have HR7 := hid hr7
           have HG7 := hid hg7
           clear hr7 hb7 hg7
           refine hK.out _ _ trivial (fun _ => ?_)
           clear hK K
           try simp only [Act.put, List.setIfInBounds_toArray, List.set_cons_zero, List.set_cons_succ]
           refine wpAnyH_ready (rs := [12]) (by kernel_rfl) (by simp) (AllReadyH.cons rfl (fun K hK => ?_) AllReadyH.nil)
           ·go_simp
            refine hK.out _ _ trivial (fun _ => ?_)
            clear hK K
            try simp only [Act.put, List.setIfInBounds_toArray, List.set_cons_zero, List.set_cons_succ]
            refine wpAnyH_done (by kernel_rfl) ?_ _
            go_wp2_with fail
            go_meet
            exact ⟨a7, c7, ⟨⟨(at_ : Int), tA, l5, ⟨#[]⟩⟩, a5, c5⟩, by rw [HL.out], rfl, htP, by rw [<- HL2.out ⟨⟨(at_ : Int), tA, l5, ⟨#[]⟩⟩, a5, c5⟩]; exact HSA.out.join HR7.out HG7.out HOW2.out HAO.out ⟨by show tA.size <= 20; omega, by show l5.length <= 20; omega, HSZ5.out, Nat.zero_le _⟩ (HSA.out.grn.keep rfl)⟩
     ·go_simp
      refine (cBelow 5 w0 a len cap b _ hlen HR.out HS.out.c.cur (by omega) (by omega)).mono ?_
      rintro e W2 ⟨x, rfl, hx, hC, hG⟩
      replace HS := hid (HS.out.draw hC hG)
      have hxn : (x : Int) < 5 := by omega
      clear hC hG
      go_wp2_with fail
      refine hK.out _ _ trivial (fun _ => ?_)
      clear hK K
      try simp only [Act.put, List.setIfInBounds_toArray, List.set_cons_zero, List.set_cons_succ]
      generalize W2 = W at *
      refine wpAnyH_ready (rs := [2, 8]) (by kernel_rfl) (by simp) (AllReadyH.cons rfl (fun K hK => ?_) (AllReadyH.cons rfl (fun K hK => ?_) AllReadyH.nil))
      ·have HTB := hid (show ¬ W.heap.size = b by have := HS.out.c.gr.size; have := HS.out.c.lt; omega)
       go_simp
       refine hK.out _ _ trivial (fun _ => ?_)
       clear hK K
       try simp only [Act.put, List.setIfInBounds_toArray, List.set_cons_zero, List.set_cons_succ]
       have HT := hid (heap_alloc_new W (.cells #[.string ⟨#[97]⟩, .string ⟨#[98]⟩, .string ⟨#[112, 58, 97]⟩, .string ⟨#[113, 58, 98]⟩, .string ⟨#[99]⟩] 9))
       replace HS := hid (HS.out.alloc (.cells #[.string ⟨#[97]⟩, .string ⟨#[98]⟩, .string ⟨#[112, 58, 97]⟩, .string ⟨#[113, 58, 98]⟩, .string ⟨#[99]⟩] 9))
       generalize W.heap.size = tb at *
       generalize W.alloc (.cells #[.string ⟨#[97]⟩, .string ⟨#[98]⟩, .string ⟨#[112, 58, 97]⟩, .string ⟨#[113, 58, 98]⟩, .string ⟨#[99]⟩] 9) = W at *
       refine wpAnyH_take (i := 5) (v := ?_) rfl (by kernel_rfl) (by kernel_rfl) (by kernel_rfl) (fun _ _ _ h => h) (Or.inl ⟨by rfl, ?_⟩) trivial ?_
       rotate_left
       ·intro w hSw
        go_simp
        try (with_reducible rfl)
       try simp only [Act.put, List.setIfInBounds_toArray, List.set_cons_zero, List.set_cons_succ]
       refine wpAnyH_ready (rs := [6, 8]) (by kernel_rfl) (by simp) (AllReadyH.cons rfl (fun K hK => ?_) (AllReadyH.cons rfl (fun K hK => ?_) AllReadyH.nil))
       ·obtain ⟨tA, hcA, htA, htP⟩ := tab5_at _ tb x hx HT.out
        go_simp
        refine hK.out _ _ trivial (fun _ => ?_)
        clear hK K
        try simp only [Act.put, List.setIfInBounds_toArray, List.set_cons_zero, List.set_cons_succ]
        clear hcA
        refine wpAnyH_ready (rs := [8]) (by kernel_rfl) (by simp) (AllReadyH.cons rfl (fun K hK => ?_) AllReadyH.nil)
        ·go_simp
         refine (cDrawAttrs false w0 a len cap b _ hlen HR.out HS.out.c.cur).mono ?_
         rintro e W3 ⟨a5, c5, l5, rfl, hl5, hd5⟩
         have HOA := hid (dst_own hd5 HS.out.c.gr.size)
         have HOW := hid (own_mono hd5.own HS.out.c.gr.size)
         have HSZ5 := hid hd5.sz
         have HAP := hid (ap_of HS.out.row (dst_own hd5 (Nat.le_refl _)))
         have HAO := hid (apo_of HS.out.own hd5.own)
         replace HT := hid ((hd5.gr.block tb (lt_of_heap HT.out) (fun e => HTB.out (Option.some.inj e))).trans HT.out)
         replace HS := hid (HS.out.draw hd5.cur hd5.gr)
         clear hd5
         go_wp2_with fail
         refine hK.out _ _ trivial (fun _ => ?_)
         clear hK K
         try simp only [Act.put, List.setIfInBounds_toArray, List.set_cons_zero, List.set_cons_succ]
         generalize W3 = W at *
         refine wpAnyH_take (i := 9) (v := ?_) rfl (by kernel_rfl) (by kernel_rfl) (by kernel_rfl) (fun _ _ _ h => h) (Or.inl ⟨by rfl, ?_⟩) trivial ?_
         rotate_left
         ·intro w hSw
          go_simp
          try (with_reducible rfl)
         try simp only [Act.put, List.setIfInBounds_toArray, List.set_cons_zero, List.set_cons_succ]
         refine wpAnyH_ready (rs := [10]) (by kernel_rfl) (by simp) (AllReadyH.cons rfl (fun K hK => ?_) AllReadyH.nil)
         ·have HMN := hid (heap_alloc_new W (.cells #[.int .i64 (at_ : Int), .string tA, .slice a5 l5.length c5, .string ⟨#[]⟩] 32))
          have HSA := hid (HS.out.alloc (.cells #[.int .i64 (at_ : Int), .string tA, .slice a5 l5.length c5, .string ⟨#[]⟩] 32))
          have HOA2 := hid (HOA.out.below ((Below.refl _ _).alloc (Nat.le_refl _) (.cells #[.int .i64 (at_ : Int), .string tA, .slice a5 l5.length c5, .string ⟨#[]⟩] 32)))
          have HOW2 := hid (HOW.out.alloc (.cells #[.int .i64 (at_ : Int), .string tA, .slice a5 l5.length c5, .string ⟨#[]⟩] 32))
          have HZW := hid (show w.heap.size <= (W.alloc (.cells #[.int .i64 (at_ : Int), .string tA, .slice a5 l5.length c5, .string ⟨#[]⟩] 32)).heap.size from HSA.out.c.gr.size)
          go_simp
          refine hK.out _ _ trivial (fun _ => ?_)
          clear hK K
          try simp only [Act.put, List.setIfInBounds_toArray, List.set_cons_zero, List.set_cons_succ]
          generalize W.heap.size = gn at *
          generalize W.alloc (.cells #[.int .i64 (at_ : Int), .string tA, .slice a5 l5.length c5, .string ⟨#[]⟩] 32) = W at *
          refine wpAnyH_ready (rs := [11]) (by kernel_rfl) (by simp) (AllReadyH.cons rfl (fun K hK => ?_) AllReadyH.nil)
          ·refine Nd.step_join rfl (.tmp 31) (.tmp 41) rfl w.heap.size (.slice av (m + 1) cv) es [⟨⟨(at_ : Int), tA, l5, ⟨#[]⟩⟩, a5, c5⟩] (by simp [Act.eval, Act.put]) HSA.out.row gn 1 1 (by simp [Act.eval, Act.put]) rfl (one_cells HMN.out) (one_hf HOA2.out HAP.out.2) (List.pairwise_singleton _ _) (one_ap HAP.out.1) HNL.out HZW.out ?_
           intro a7 c7 w7 hr7 hb7 hg7
           have HR7 := hid hr7
           have HG7 := hid hg7
           clear hr7 hb7 hg7
           refine hK.out _ _ trivial (fun _ => ?_)
           clear hK K
           try simp only [Act.put, List.setIfInBounds_toArray, List.set_cons_zero, List.set_cons_succ]
           refine wpAnyH_ready (rs := [12]) (by kernel_rfl) (by simp) (AllReadyH.cons rfl (fun K hK => ?_) AllReadyH.nil)
           ·go_simp
            refine hK.out _ _ trivial (fun _ => ?_)
            clear hK K
            try simp only [Act.put, List.setIfInBounds_toArray, List.set_cons_zero, List.set_cons_succ]
            refine wpAnyH_done (by kernel_rfl) ?_ _
            go_wp2_with fail
            go_meet
            exact ⟨a7, c7, ⟨⟨(at_ : Int), tA, l5, ⟨#[]⟩⟩, a5, c5⟩, by rw [HL.out], rfl, htP, by rw [<- HL2.out ⟨⟨(at_ : Int), tA, l5, ⟨#[]⟩⟩, a5, c5⟩]; exact HSA.out.join HR7.out HG7.out HOW2.out HAO.out ⟨by show tA.size <= 20; omega, by show l5.length <= 20; omega, HSZ5.out, Nat.zero_le _⟩ (HSA.out.grn.keep rfl)⟩
       ·go_simp
        refine (cDrawAttrs false w0 a len cap b _ hlen HR.out HS.out.c.cur).mono ?_
        rintro e W3 ⟨a5, c5, l5, rfl, hl5, hd5⟩
        have HOA := hid (dst_own hd5 HS.out.c.gr.size)
        have HOW := hid (own_mono hd5.own HS.out.c.gr.size)
        have HSZ5 := hid hd5.sz
        have HAP := hid (ap_of HS.out.row (dst_own hd5 (Nat.le_refl _)))
        have HAO := hid (apo_of HS.out.own hd5.own)
        replace HT := hid ((hd5.gr.block tb (lt_of_heap HT.out) (fun e => HTB.out (Option.some.inj e))).trans HT.out)
        replace HS := hid (HS.out.draw hd5.cur hd5.gr)
        clear hd5
        go_wp2_with fail
        refine hK.out _ _ trivial (fun _ => ?_)
        clear hK K
        try simp only [Act.put, List.setIfInBounds_toArray, List.set_cons_zero, List.set_cons_succ]
        generalize W3 = W at *
        refine wpAnyH_ready (rs := [6]) (by kernel_rfl) (by simp) (AllReadyH.cons rfl (fun K hK => ?_) AllReadyH.nil)
        ·obtain ⟨tA, hcA, htA, htP⟩ := tab5_at _ tb x hx HT.out
         go_simp
         refine hK.out _ _ trivial (fun _ => ?_)
         clear hK K
         try simp only [Act.put, List.setIfInBounds_toArray, List.set_cons_zero, List.set_cons_succ]
         clear hcA
         refine wpAnyH_take (i := 9) (v := ?_) rfl (by kernel_rfl) (by kernel_rfl) (by kernel_rfl) (fun _ _ _ h => h) (Or.inl ⟨by rfl, ?_⟩) trivial ?_
         rotate_left
         ·intro w hSw
          go_simp
          try (with_reducible rfl)
         try simp only [Act.put, List.setIfInBounds_toArray, List.set_cons_zero, List.set_cons_succ]
         refine wpAnyH_ready (rs := [10]) (by kernel_rfl) (by simp) (AllReadyH.cons rfl (fun K hK => ?_) AllReadyH.nil)
         ·have HMN := hid (heap_alloc_new W (.cells #[.int .i64 (at_ : Int), .string tA, .slice a5 l5.length c5, .string ⟨#[]⟩] 32))
          have HSA := hid (HS.out.alloc (.cells #[.int .i64 (at_ : Int), .string tA, .slice a5 l5.length c5, .string ⟨#[]⟩] 32))
          have HOA2 := hid (HOA.out.below ((Below.refl _ _).alloc (Nat.le_refl _) (.cells #[.int .i64 (at_ : Int), .string tA, .slice a5 l5.length c5, .string ⟨#[]⟩] 32)))
          have HOW2 := hid (HOW.out.alloc (.cells #[.int .i64 (at_ : Int), .string tA, .slice a5 l5.length c5, .string ⟨#[]⟩] 32))
          have HZW := hid (show w.heap.size <= (W.alloc (.cells #[.int .i64 (at_ : Int), .string tA, .slice a5 l5.length c5, .string ⟨#[]⟩] 32)).heap.size from HSA.out.c.gr.size)
          go_simp
          refine hK.out _ _ trivial (fun _ => ?_)
          clear hK K
          try simp only [Act.put, List.setIfInBounds_toArray, List.set_cons_zero, List.set_cons_succ]
          generalize W.heap.size = gn at *
          generalize W.alloc (.cells #[.int .i64 (at_ : Int), .string tA, .slice a5 l5.length c5, .string ⟨#[]⟩] 32) = W at *
          refine wpAnyH_ready (rs := [11]) (by kernel_rfl) (by simp) (AllReadyH.cons rfl (fun K hK => ?_) AllReadyH.nil)
          ·refine Nd.step_join rfl (.tmp 31) (.tmp 41) rfl w.heap.size (.slice av (m + 1) cv) es [⟨⟨(at_ : Int), tA, l5, ⟨#[]⟩⟩, a5, c5⟩] (by simp [Act.eval, Act.put]) HSA.out.row gn 1 1 (by simp [Act.eval, Act.put]) rfl (one_cells HMN.out) (one_hf HOA2.out HAP.out.2) (List.pairwise_singleton _ _) (one_ap HAP.out.1) HNL.out HZW.out ?_
           intro a7 c7 w7 hr7 hb7 hg7
           have HR7 := hid hr7
           have HG7 := hid hg7
           clear hr7 hb7 hg7
           refine hK.out _ _ trivial (fun _ => ?_)
           clear hK K
           try simp only [Act.put, List.setIfInBounds_toArray, List.set_cons_zero, List.set_cons_succ]
           refine wpAnyH_ready (rs := [12]) (by kernel_rfl) (by simp) (AllReadyH.cons rfl (fun K hK => ?_) AllReadyH.nil)
           ·go_simp
            refine hK.out _ _ trivial (fun _ => ?_)
            clear hK K
            try simp only [Act.put, List.setIfInBounds_toArray, List.set_cons_zero, List.set_cons_succ]
            refine wpAnyH_done (by kernel_rfl) ?_ _
            go_wp2_with fail
            go_meet
            exact ⟨a7, c7, ⟨⟨(at_ : Int), tA, l5, ⟨#[]⟩⟩, a5, c5⟩, by rw [HL.out], rfl, htP, by rw [<- HL2.out ⟨⟨(at_ : Int), tA, l5, ⟨#[]⟩⟩, a5, c5⟩]; exact HSA.out.join HR7.out HG7.out HOW2.out HAO.out ⟨by show tA.size <= 20; omega, by show l5.length <= 20; omega, HSZ5.out, Nat.zero_le _⟩ (HSA.out.grn.keep rfl)⟩
      ·go_simp
       refine (cDrawAttrs false w0 a len cap b _ hlen HR.out HS.out.c.cur).mono ?_
       rintro e W3 ⟨a5, c5, l5, rfl, hl5, hd5⟩
       have HOA := hid (dst_own hd5 HS.out.c.gr.size)
       have HOW := hid (own_mono hd5.own HS.out.c.gr.size)
       have HSZ5 := hid hd5.sz
       have HAP := hid (ap_of HS.out.row (dst_own hd5 (Nat.le_refl _)))
       have HAO := hid (apo_of HS.out.own hd5.own)
       replace HS := hid (HS.out.draw hd5.cur hd5.gr)
       clear hd5
       go_wp2_with fail
       refine hK.out _ _ trivial (fun _ => ?_)
       clear hK K
       try simp only [Act.put, List.setIfInBounds_toArray, List.set_cons_zero, List.set_cons_succ]
       generalize W3 = W at *
       refine wpAnyH_ready (rs := [2]) (by kernel_rfl) (by simp) (AllReadyH.cons rfl (fun K hK => ?_) AllReadyH.nil)
       ·have HTB := hid (show ¬ W.heap.size = b by have := HS.out.c.gr.size; have := HS.out.c.lt; omega)
        go_simp
        refine hK.out _ _ trivial (fun _ => ?_)
        clear hK K
        try simp only [Act.put, List.setIfInBounds_toArray, List.set_cons_zero, List.set_cons_succ]
        have HT := hid (heap_alloc_new W (.cells #[.string ⟨#[97]⟩, .string ⟨#[98]⟩, .string ⟨#[112, 58, 97]⟩, .string ⟨#[113, 58, 98]⟩, .string ⟨#[99]⟩] 9))
        replace HS := hid (HS.out.alloc (.cells #[.string ⟨#[97]⟩, .string ⟨#[98]⟩, .string ⟨#[112, 58, 97]⟩, .string ⟨#[113, 58, 98]⟩, .string ⟨#[99]⟩] 9))
        replace HOA := hid (HOA.out.below ((Below.refl _ _).alloc (Nat.le_refl _) (.cells #[.string ⟨#[97]⟩, .string ⟨#[98]⟩, .string ⟨#[112, 58, 97]⟩, .string ⟨#[113, 58, 98]⟩, .string ⟨#[99]⟩] 9)))
        replace HOW := hid (HOW.out.alloc (.cells #[.string ⟨#[97]⟩, .string ⟨#[98]⟩, .string ⟨#[112, 58, 97]⟩, .string ⟨#[113, 58, 98]⟩, .string ⟨#[99]⟩] 9))
        generalize W.heap.size = tb at *
        generalize W.alloc (.cells #[.string ⟨#[97]⟩, .string ⟨#[98]⟩, .string ⟨#[112, 58, 97]⟩, .string ⟨#[113, 58, 98]⟩, .string ⟨#[99]⟩] 9) = W at *
        refine wpAnyH_take (i := 5) (v := ?_) rfl (by kernel_rfl) (by kernel_rfl) (by kernel_rfl) (fun _ _ _ h => h) (Or.inl ⟨by rfl, ?_⟩) trivial ?_
        rotate_left
        ·intro w hSw
         go_simp
         try (with_reducible rfl)
        try simp only [Act.put, List.setIfInBounds_toArray, List.set_cons_zero, List.set_cons_succ]
        refine wpAnyH_ready (rs := [6]) (by kernel_rfl) (by simp) (AllReadyH.cons rfl (fun K hK => ?_) AllReadyH.nil)
        ·obtain ⟨tA, hcA, htA, htP⟩ := tab5_at _ tb x hx HT.out
         go_simp
         refine hK.out _ _ trivial (fun _ => ?_)
         clear hK K
         try simp only [Act.put, List.setIfInBounds_toArray, List.set_cons_zero, List.set_cons_succ]
         clear hcA
         refine wpAnyH_take (i := 9) (v := ?_) rfl (by kernel_rfl) (by kernel_rfl) (by kernel_rfl) (fun _ _ _ h => h) (Or.inl ⟨by rfl, ?_⟩) trivial ?_
         rotate_left
         ·intro w hSw
          go_simp
          try (with_reducible rfl)
         try simp only [Act.put, List.setIfInBounds_toArray, List.set_cons_zero, List.set_cons_succ]
         refine wpAnyH_ready (rs := [10]) (by kernel_rfl) (by simp) (AllReadyH.cons rfl (fun K hK => ?_) AllReadyH.nil)
         ·have HMN := hid (heap_alloc_new W (.cells #[.int .i64 (at_ : Int), .string tA, .slice a5 l5.length c5, .string ⟨#[]⟩] 32))
          have HSA := hid (HS.out.alloc (.cells #[.int .i64 (at_ : Int), .string tA, .slice a5 l5.length c5, .string ⟨#[]⟩] 32))
          have HOA2 := hid (HOA.out.below ((Below.refl _ _).alloc (Nat.le_refl _) (.cells #[.int .i64 (at_ : Int), .string tA, .slice a5 l5.length c5, .string ⟨#[]⟩] 32)))
          have HOW2 := hid (HOW.out.alloc (.cells #[.int .i64 (at_ : Int), .string tA, .slice a5 l5.length c5, .string ⟨#[]⟩] 32))
          have HZW := hid (show w.heap.size <= (W.alloc (.cells #[.int .i64 (at_ : Int), .string tA, .slice a5 l5.length c5, .string ⟨#[]⟩] 32)).heap.size from HSA.out.c.gr.size)
          go_simp
          refine hK.out _ _ trivial (fun _ => ?_)
          clear hK K
          try simp only [Act.put, List.setIfInBounds_toArray, List.set_cons_zero, List.set_cons_succ]
          generalize W.heap.size = gn at *
          generalize W.alloc (.cells #[.int .i64 (at_ : Int), .string tA, .slice a5 l5.length c5, .string ⟨#[]⟩] 32) = W at *
          refine wpAnyH_ready (rs := [11]) (by kernel_rfl) (by simp) (AllReadyH.cons rfl (fun K hK => ?_) AllReadyH.nil)
          ·refine Nd.step_join rfl (.tmp 31) (.tmp 41) rfl w.heap.size (.slice av (m + 1) cv) es [⟨⟨(at_ : Int), tA, l5, ⟨#[]⟩⟩, a5, c5⟩] (by simp [Act.eval, Act.put]) HSA.out.row gn 1 1 (by simp [Act.eval, Act.put]) rfl (one_cells HMN.out) (one_hf HOA2.out HAP.out.2) (List.pairwise_singleton _ _) (one_ap HAP.out.1) HNL.out HZW.out ?_
           intro a7 c7 w7 hr7 hb7 hg7
           have HR7 := hid hr7
           have HG7 := hid hg7
           clear hr7 hb7 hg7
           refine hK.out _ _ trivial (fun _ => ?_)
           clear hK K
           try simp only [Act.put, List.setIfInBounds_toArray, List.set_cons_zero, List.set_cons_succ]
           refine wpAnyH_ready (rs := [12]) (by kernel_rfl) (by simp) (AllReadyH.cons rfl (fun K hK => ?_) AllReadyH.nil)
           ·go_simp
            refine hK.out _ _ trivial (fun _ => ?_)
            clear hK K
            try simp only [Act.put, List.setIfInBounds_toArray, List.set_cons_zero, List.set_cons_succ]
            refine wpAnyH_done (by kernel_rfl) ?_ _
            go_wp2_with fail
            go_meet
            exact ⟨a7, c7, ⟨⟨(at_ : Int), tA, l5, ⟨#[]⟩⟩, a5, c5⟩, by rw [HL.out], rfl, htP, by rw [<- HL2.out ⟨⟨(at_ : Int), tA, l5, ⟨#[]⟩⟩, a5, c5⟩]; exact HSA.out.join HR7.out HG7.out HOW2.out HAO.out ⟨by show tA.size <= 20; omega, by show l5.length <= 20; omega, HSZ5.out, Nat.zero_le _⟩ (HSA.out.grn.keep rfl)⟩
   obtain ⟨a7, c7, e7, rfl, hk7, hn7, HN7⟩ := hcut
   have HNT := hid (show es.map (·.t) ++ [e7.t] = (es ++ [e7]).map (·.t) by rw [List.map_append]; rfl)
   have hl7 : (es ++ [e7]).length = m + 1 + 1 := by rw [List.length_append, HL.out]; rfl
   have HL7 := hid hl7
   clear hl7 HN3 M3 x0 x1 x2 x3
   go_wp2_with fail
   refine (cOnce 2 w0 a len cap b _ hlen HR.out HN7.out.c.cur (by omega) (by omega)).mono ?_
   rintro e w8 ⟨B8, rfl, hC8, hG8⟩
   have HN8 := hid (HN7.out.draw hC8 hG8)
   clear hC8 hG8
   cases B8
   ·go_wp2_with fail
    go_roundw
    case rel => exact ⟨k1, es ++ [e7], at_, by go_num, by omega, rfl, by rw [HL7.out]; omega, HN8.out⟩
    case measure => first | (simp [intOf]; omega) | simp [intOf]
   ·obtain ⟨av2, cv2, ev2, htk8⟩ := HN8.out.row.tkRow
    obtain ⟨rfl, rfl⟩ : a7 = av2 /\ c7 = cv2 := by injection ev2 with h1 _ h3; exact ⟨h1, h3⟩
    have hl8 : ((es ++ [e7]).map (·.t)).length = m + 1 + 1 := by rw [List.length_map]; exact HL7.out
    have CD := hid (cDepthS a7 c7 ((es ++ [e7]).map (·.t)) (m + 1) w8 htk8 (by omega) (by omega) (fun t ht => by
     obtain ⟨e, he, rfl⟩ := List.mem_map.1 ht
     obtain ⟨g1, g2, g3, g4⟩ := HN8.out.sz e he
     exact ⟨by omega, by omega, fun x hx => by have := g3 x hx; omega, by omega⟩) HN8.out.grn.p0 (fun j hj => HN8.out.grn.up j (by omega)))
    rw [hl8] at CD
    generalize depI ((es ++ [e7]).map (·.t)) (m + 1) = D at *
    have hm2 : ((m + 1 + 1 : Nat) : Int) - 1 = ((m + 1 : Nat) : Int) := by omega
    clear htk8 ev2 hl8
    by_cases h9 : D < 9
    ·have hd9 : decide (D < 9) = true := decide_eq_true h9
     have HG9 := hid (show Grn ((es ++ [e7]).map (·.t)) (m + 1) by
      rw [<- HNT.out]
      have h := HN.out.grn.into hk7 hn7
      rw [HLM.out] at h
      exact h)
     go_wp2_with fail
     refine CD.out.mono ?_
     rintro e w9 ⟨rfl, rfl⟩
     go_wp2_with fail
     go_roundw
     case rel => exact ⟨k1, es ++ [e7], m + 1, by go_num, by omega, by go_num, by rw [HL7.out]; omega, ⟨HN8.out.c, HN8.out.row, HN8.out.sz, HG9.out, HN8.out.own, HN8.out.apo⟩⟩
     case measure => first | (simp [intOf]; omega) | simp [intOf]
    ·have hd9 : decide (D < 9) = false := decide_eq_false h9
     go_wp2_with fail
     refine CD.out.mono ?_
     rintro e w9 ⟨rfl, rfl⟩
     go_wp2_with fail
     go_roundw
     case rel => exact ⟨k1, es ++ [e7], at_, by go_num, by omega, rfl, by rw [HL7.out]; omega, HN8.out⟩
     case measure => first | (simp [intOf]; omega) | simp [intOf]

end Go.Proofs.YtoioiddjbanahaaGreatDoor

namespace Go.Proofs.YtoioiddjbanahaaGreatDoor

open Go.RowKit

set_option maxHeartbeats 2000000 in
theorem cFromA (lo : Int) (n : Nat) (hi : Int) (hlo : -100 <= lo) (hlo2 : lo <= 100) (hn : hi - lo + 1 = (n : Int)) (hn0 : 1 <= n) (hn1 : n <= 256) (w0 : World) (a : Option Addr) (len cap b : Nat) (w : World) (hlen : len <= 4096) (hcr : CodeRow w0 a len) (hC : Cur w0 a len cap b w) :
  Calls Tryz.prog 51 #[.pointer (some ⟨b, 0, none⟩), .int .i64 lo, .int .i64 hi] w fun e w' => ∃ x : Int, e = .returned (.int .i64 x) /\ lo <= x /\ x <= hi /\ Cur w0 a len cap b w' /\ w.grownBy w' (some b) := by
 have HR : Hid (CodeRow w0 a len) := hcr
 have HC : Hid (Cur w0 a len cap b w) := hC
 have HNN := hid hn
 have hi1 : hi <= 1000 := by omega
 have hi2 : -1000 <= hi := by omega
 have C := hid (cBelow n w0 a len cap b w hlen HR.out HC.out hn0 hn1)
 rw [<- hn] at C
 clear hcr hC hn
 go_enter Tryz.func51, Tryz.ntmps51
 go_wp2_with fail
 refine C.out.mono ?_
 rintro e w1 ⟨x, rfl, hx, hC1, hG1⟩
 have hx2 : (x : Int) < 300 := by omega
 have HX := hid hx
 have HC1 := hid hC1
 have HG1 := hid hG1
 clear hC1 hG1 C hx
 go_wp2_with fail
 go_ret
 exact ⟨_, rfl, by omega, by have := HNN.out; have := HX.out; omega, HC1.out, HG1.out⟩

theorem own_cap {w : World} {B size g n c : Nat} {e : TypeId} {xs : List Value} (h : w.ownsRow B e size (.slice (some ⟨g, 0, none⟩) n c) n xs) : n <= c /\ c <= maxLen := by
 rcases h.2 with ⟨h', _⟩ | ⟨g', cap', cur, h', _, _, hn, hc, _⟩
 ·cases h'
 ·cases h'
  exact ⟨hn, hc⟩

theorem cs_set {es : List Nd.E} : ∀ {x : Nat} (hx : x < es.length) {f : Nat} (hf : f < 4) {u : Value} {e' : Nd.E}, Nd.c1 e' = (Nd.c1 es[x]).set f u -> (Nd.cs es).set (x * 4 + f) u = Nd.cs (es.set x e') := by
 induction es with
 | nil => intro x hx; simp at hx
 | cons y es ih =>
  intro x hx f hf u e' he
  have e1 : Nd.cs (y :: es) = Nd.c1 y ++ Nd.cs es := rfl
  have hl : (Nd.c1 y).length = 4 := rfl
  match x with
  | 0 =>
   simp only [List.getElem_cons_zero] at he
   have e2 : Nd.cs ((y :: es).set 0 e') = Nd.c1 e' ++ Nd.cs es := rfl
   rw [e1, e2, he, Nat.zero_mul, Nat.zero_add, List.set_append, if_pos (by rw [hl]; exact hf)]
  | x + 1 =>
   have e2 : Nd.cs ((y :: es).set (x + 1) e') = Nd.c1 y ++ Nd.cs (es.set x e') := rfl
   rw [e1, e2, List.set_append, if_neg (by rw [hl]; omega), hl, show (x + 1) * 4 + f - 4 = x * 4 + f by omega, ih (by simpa using hx) hf (by simpa using he)]

theorem own_tkRow {w : World} {B g n cap : Nat} {es : List Nd.E} (h : w.ownsRow B 32 4 (.slice (some ⟨g, 0, none⟩) n cap) n (Nd.cs es)) (hn : es.length = n) (ha : ∀ e ∈ es, AtRow w e.a e.t.attrs) : TkRow w (some ⟨g, 0, none⟩) (es.map (·.t)) := by
 intro j hj
 rw [List.length_map] at hj
 obtain ⟨k0, k1, k2, k3⟩ := Nd.cs_get es j hj
 have hg : g < w.heap.size := (h.lt g rfl).2
 have hx : ∀ k u, k < n * 4 -> (Nd.cs es)[k]? = some u -> w.cell? ⟨g, 0 + k, none⟩ = some u := fun k u hk hu => by rw [Nat.zero_add, h.cellAt k hk]; exact hu
 rw [List.getElem_map]
 exact ⟨g, 0, es[j].a, es[j].cap, rfl, hg, hx _ _ (by omega) k0, hx _ _ (by omega) k1, hx _ _ (by omega) k2, hx _ _ (by omega) k3, ha _ (List.getElem_mem hj)⟩

section

variable {w0 : World} {a : Option Addr} {len cap b : Nat} {w wr : World} {es : List Nd.E} {at_ g L cv x : Nat}

end

theorem own_atR {w : World} {B : Nat} {a : Option Addr} {c n : Nat} {l : List At} (h : w.ownsRow B 67 2 (.slice a n c) n (atC l)) (hl : l.length = n) : OwnAts w B a l := by
 rcases h.2 with ⟨_, h0⟩ | ⟨g, cp, cur, e, hg, hh, hn, hc, hs, ht⟩
 ·exact fun hl => by omega
 ·cases e
  refine fun _ => ⟨g, 0, cur, rfl, hg, hh, fun j hj => ?_⟩
  obtain ⟨g1, g2⟩ := atC_get l j hj
  rw [<- ht, List.getElem?_take] at g1 g2
  refine ⟨?_, ?_⟩
  ·rw [Nat.zero_add, <- Array.getElem?_toList]
   split at g1
   ·exact g1
   ·cases g1
  ·rw [Nat.zero_add, <- Array.getElem?_toList]
   split at g2
   ·exact g2
   ·cases g2

theorem own_kind {w : World} {B n s : Nat} {v : Value} {xs : List Value} {E : TypeId} (h : w.ownsRow B E s v n xs) : ∀ k, v.ownBlock = some k -> ∃ c fz, w.heap[k]? = some (.cells c E fz) := by
 intro k hk
 rcases h.2 with ⟨rfl, _⟩ | ⟨g, cp, cur, rfl, hg, hh, _⟩
 ·cases hk
 ·cases hk
  exact ⟨_, _, hh⟩

theorem g_own {w wr w1 : World} {b : Nat} {row : Option Nat} (h : w.grownBy wr (some b)) (k : wr.grownBy w1 row) (hg : ∀ i, row = some i -> w.heap.size <= i) : w.grownBy w1 (some b) :=
 ⟨k.os.trans h.os, k.tape.trans h.tape, k.output.trans h.output, Nat.le_trans h.size k.size, fun i hi hr => (k.block i (Nat.lt_of_lt_of_le hi h.size) (fun e => by have := hg i e.symm; omega)).trans (h.block i hi hr)⟩

theorem slot_own {w : World} {B g n cap x : Nat} {es : List Nd.E} (ho : w.ownsRow B 32 4 (.slice (some ⟨g, 0, none⟩) n cap) n (Nd.cs es)) (hn : es.length = n) (hx : x < es.length) :
  (w.cell? ⟨g, x * 4, none⟩ = some (.int .i64 es[x].t.kind) /\ w.cell? ⟨g, x * 4 + 1, none⟩ = some (.string es[x].t.name) /\ w.cell? ⟨g, x * 4 + 2, none⟩ = some (.slice es[x].a es[x].t.attrs.length es[x].cap) /\ w.cell? ⟨g, x * 4 + 3, none⟩ = some (.string es[x].t.text)) /\ ∀ j, w.frozen? ⟨g, j, none⟩ = false := by
 obtain ⟨k0, k1, k2, k3⟩ := Nd.cs_get es x hx
 exact ⟨⟨by rw [ho.cellAt _ (by omega)]; exact k0, by rw [ho.cellAt _ (by omega)]; exact k1, by rw [ho.cellAt _ (by omega)]; exact k2, by rw [ho.cellAt _ (by omega)]; exact k3⟩, fun j => ho.frozenAt j⟩

section

variable {w0 : World} {a : Option Addr} {len cap b : Nat} {w wr : World} {es : List Nd.E} {at_ g L cv x : Nat}

end

end Go.Proofs.YtoioiddjbanahaaGreatDoor

namespace Go.Proofs.YtoioiddjbanahaaGreatDoor

open Go.RowKit

def shK (k : Int) (t : Tk) : Tk := ⟨k, t.name, t.attrs, t.text⟩

def segN (f : Nat -> Tk -> Int) (ts : List Tk) (k : Nat) : Nat -> List Tk
 | 0 => []
 | m + 1 => segN f ts k m ++ (match ts[k + m]? with | some t => [shK (f (k + m) t) t] | none => [])

theorem segN_next {f : Nat -> Tk -> Int} {ts : List Tk} {k m : Nat} {t : Tk} (h : ts[k + m]? = some t) : segN f ts k (m + 1) = segN f ts k m ++ [shK (f (k + m) t) t] := by
 show segN f ts k m ++ _ = _
 rw [h]

theorem segN_len {f : Nat -> Tk -> Int} {ts : List Tk} {k : Nat} : ∀ m, k + m <= ts.length -> (segN f ts k m).length = m
 | 0, _ => rfl
 | m + 1, h => by
  rw [segN_next (List.getElem?_eq_getElem (show k + m < ts.length by omega)), List.length_append, segN_len m (by omega)]
  rfl

theorem segN_same {ts : List Tk} : ∀ m, m <= ts.length -> segN (fun _ t => t.kind) ts 0 m = ts.take m
 | 0, _ => by rw [List.take_zero]; rfl
 | m + 1, h => by
  have e : ts[0 + m]? = some ts[m] := by rw [Nat.zero_add]; exact List.getElem?_eq_getElem (by omega)
  rw [segN_next e, segN_same m (by omega), List.take_succ_eq_append_getElem (show m < ts.length by omega)]
  rfl

theorem segN_sz {f : Nat -> Tk -> Int} {ts : List Tk} {k b : Nat} (h : TksSz b ts) : ∀ m, TksSz b (segN f ts k m)
 | 0 => fun t ht => absurd ht List.not_mem_nil
 | m + 1 => by
  cases e : ts[k + m]? with
  | none =>
   have e2 : segN f ts k (m + 1) = segN f ts k m := by
    show segN f ts k m ++ _ = _
    rw [e, List.append_nil]
   rw [e2]
   exact segN_sz h m
  | some t =>
   rw [segN_next e]
   intro u hu
   rcases List.mem_append.1 hu with h' | h'
   ·exact segN_sz h m u h'
   ·rw [List.mem_singleton] at h'
    subst h'
    exact h t (List.mem_of_getElem? e)

def putL (ts : List Tk) (place : Nat) (parent : Int) (br : List Tk) : List Tk :=
 (segN (fun _ t => t.kind) ts 0 place ++ segN (fun i t => if i = 0 then parent else t.kind + (place : Int)) br 0 br.length) ++ segN (fun _ t => if (place : Int) <= t.kind then t.kind + (br.length : Int) else t.kind) ts place (ts.length - place)

theorem putL_len {ts : List Tk} {place : Nat} {parent : Int} {br : List Tk} (h : place <= ts.length) : (putL ts place parent br).length = ts.length + br.length := by
 unfold putL
 rw [List.length_append, List.length_append, segN_len _ (by omega), segN_len _ (by omega), segN_len _ (by omega)]
 omega

theorem tree_kind {ts : List Tk} (hT : TreeP ts) {i : Nat} {t : Tk} (h : ts[i]? = some t) : -1 <= t.kind /\ t.kind < 50 := by
 have hi : i < ts.length := by
  rcases Nat.lt_or_ge i ts.length with h' | h'
  ·exact h'
  ·rw [List.getElem?_eq_none h'] at h; cases h
 have e : t.kind = parI ts i := by unfold parI; rw [h]
 rcases (hT.2.2.2.2 i hi).2.1 with h0 | ⟨p, _, hp, hel⟩
 ·subst h0
  rw [e, hT.2.2.1]
  omega
 ·obtain ⟨hpl, _⟩ := hel
  have := hT.2.1
  rw [e, <- hp]
  omega

end Go.Proofs.YtoioiddjbanahaaGreatDoor

namespace Go.Proofs.YtoioiddjbanahaaGreatDoor

open Go.RowKit

def nameI (ts : List Tk) (k : Nat) : ByteArray := match ts[k]? with | some t => t.name | none => ⟨#[]⟩

theorem nameI_at {ts : List Tk} {k : Nat} (h : k < ts.length) : nameI ts k = ts[k].name := by unfold nameI; rw [List.getElem?_eq_getElem h]

noncomputable def elemB (ts : List Tk) (x : Int) : Bool := hasB ts x && !decide ((nameI ts x.toNat).size = 0)

theorem elemB_t {ts : List Tk} {x : Int} (h : elemB ts x = true) : TreeP ts /\ ∃ k : Nat, x = k /\ k < ts.length := by
 unfold elemB at h
 rw [Bool.and_eq_true] at h
 exact hasB_t h.1

theorem name_row {w : World} {a : Option Addr} {ts : List Tk} (h : TkRow w a ts) {k : Nat} (hk : k < ts.length) : ∃ b o, a = some ⟨b, o, none⟩ /\ w.cell? ⟨b, o + k * 4 + 1, none⟩ = some (.string (nameI ts k)) := by
 obtain ⟨b, o, e, _, h1⟩ := h.kindAt k hk
 exact ⟨b, o, e, by rw [nameI_at hk]; exact h1⟩

theorem name_sz {ts : List Tk} (hz : TksSz 1048576 ts) {k : Nat} (hk : k < ts.length) : (nameI ts k).size <= 1048576 := by
 rw [nameI_at hk]
 exact (hz _ (List.getElem_mem hk)).1

set_option maxHeartbeats 2000000 in
theorem c_spec_l9Element (a : Option Addr) (cap : Nat) (ts : List Tk) (x : Int) (w : World) (hR : TkRow w a ts) (hn : ts.length <= 1048576) (hz : TksSz 1048576 ts) :
  Calls Tryz.prog 38 #[.slice a ts.length cap, .int .i64 x] w fun e w' => e = .returned (.bool (elemB ts x)) /\ Below w.heap.size w w' := by
 have C := hid (cHasS a cap ts x w hR hn hz)
 have HR := hid hR
 clear hR
 cases hh : hasB ts x with
 | false =>
  have HE := hid (show elemB ts x = false by unfold elemB; rw [hh]; rfl)
  rw [HE.out]
  rw [hh] at C
  clear hh HE HR hz
  generalize ts.length = n at *
  go_enter Tryz.func38, Tryz.ntmps38
  go_wp2_with fail
  refine C.out.mono ?_
  rintro e w1 ⟨rfl, hb1⟩
  have HB1 := hid hb1
  clear hb1 C
  go_wp2_with fail
  go_ret
  exact ⟨rfl, HB1.out⟩
 | true =>
  obtain ⟨hT, k, rfl, hk⟩ := hasB_t hh
  have HE := hid (show elemB ts (k : Int) = !decide ((nameI ts k).size = 0) by unfold elemB; rw [hh]; rfl)
  rw [HE.out]
  rw [hh] at C
  have HROW := hid (fun wx (hb : Below w.heap.size w wx) => name_row (HR.out.below hb) hk)
  obtain ⟨b, o, ea, -⟩ := name_row HR.out hk
  subst ea
  have E := empty_is (nameI ts k)
  have hkn : (k : Int) < (ts.length : Int) := by omega
  clear hh HE HR hz hT
  generalize ts.length = n at *
  generalize nameI ts k = N at *
  generalize decide (N.size = 0) = D at *
  go_enter Tryz.func38, Tryz.ntmps38
  go_wp2_with fail
  refine C.out.mono ?_
  rintro e w1 ⟨rfl, hb1⟩
  obtain ⟨b', o', e', c1⟩ := HROW.out _ hb1
  obtain ⟨rfl, rfl⟩ : b = b' /\ o = o' := by cases e'; exact ⟨rfl, rfl⟩
  have HB1 := hid hb1
  clear hb1 C e' HROW
  go_wp2_with fail
  go_ret
  exact ⟨rfl, HB1.out⟩

end Go.Proofs.YtoioiddjbanahaaGreatDoor
