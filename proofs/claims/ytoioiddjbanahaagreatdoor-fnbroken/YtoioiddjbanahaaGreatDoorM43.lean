/-  -/
import Derived.Test.YtoioiddjbanahaaGreatDoorM12
import Derived.Test.YtoioiddjbanahaaGreatDoorM40
import Derived.Test.YtoioiddjbanahaaGreatDoorM41
import Derived.Test.YtoioiddjbanahaaGreatDoorM42
import Derived.Test.YtoioiddjbanahaaGreatDoorRows
import Derived.Test.YtoioiddjbanahaaGreatDoorM21
import Derived.Deep.CutRange
import Derived.Lib.LaidTab
import Derived.Lib.ItoaNum
import Derived.MakeChecks
set_option linter.unusedVariables false
set_option linter.unusedSimpArgs false
namespace Go.Proofs.YtoioiddjbanahaaGreatDoor

open Go.RowKit

theorem rowEJ {w : World} {b o : Nat} {ts : List Tk} (h : TkRow w (some ⟨b, o, none⟩) ts) : ∀ n, n <= ts.length -> ∃ es : List Nd.E, es.map (·.t) = ts.take n /\ (∀ j u, (Nd.cs es)[j]? = some u -> w.cell? ((⟨b, o, none⟩ : Addr).add j) = some u) /\ ∀ e ∈ es, AtRow w e.a e.t.attrs
 | 0, _ => ⟨[], by simp, fun j u hj => by simp [Nd.cs] at hj, fun e he => absurd he List.not_mem_nil⟩
 | n + 1, hn => by
  obtain ⟨es, e1, e2, e3⟩ := rowEJ h n (by omega)
  obtain ⟨b', o', aa, ca, e, hb, q0, q1, q2, q3, q4⟩ := h n (by omega)
  obtain ⟨rfl, rfl⟩ : b = b' /\ o = o' := by cases e; exact ⟨rfl, rfl⟩
  have hl : es.length = n := by
   have := congrArg List.length e1
   rw [List.length_map, List.length_take] at this
   omega
  refine ⟨es ++ [⟨ts[n], aa, ca⟩], by rw [List.map_append, e1, take_snocN (by omega)]; rfl, fun j u hj => ?_, fun e he => ?_⟩
  ·rw [Nd.cs_app, Nd.cs_one] at hj
   by_cases hlt : j < (Nd.cs es).length
   ·rw [List.getElem?_append_left hlt] at hj
    exact e2 j u hj
   ·rw [List.getElem?_append_right (by omega)] at hj
    rw [Nd.cs_len, hl] at hj hlt
    rw [add_plainW]
    have h4 : j - n * 4 < 4 := by
     have := (List.getElem?_eq_some_iff.1 hj).1
     exact this
    obtain ⟨d, hd, hd4⟩ : ∃ d, j = n * 4 + d /\ d < 4 := ⟨j - n * 4, by omega, h4⟩
    subst hd
    rw [show n * 4 + d - n * 4 = d by omega] at hj
    rw [<- Nat.add_assoc]
    match d, hd4, hj with
    | 0, _, hj => cases hj; exact q0
    | 1, _, hj => cases hj; exact q1
    | 2, _, hj => cases hj; exact q2
    | 3, _, hj => cases hj; exact q3
  ·rcases List.mem_append.1 he with h' | h'
   ·exact e3 e h'
   ·rw [List.mem_singleton] at h'
    subst h'
    exact q4

theorem own_someJ {w : World} {B n size : Nat} {e : TypeId} {v : Value} {xs : List Value} (h : w.ownsRow B e size v n xs) (hn : 0 < n) : ∃ g c, v = .slice (some ⟨g, 0, none⟩) n c /\ B <= g /\ g < w.heap.size := by
 rcases h.2 with ⟨_, h0⟩ | ⟨g, cap, cur, e1, hg, hh, _⟩
 ·omega
 ·exact ⟨g, cap, e1, hg, lt_of_heap hh⟩

theorem made_ownJ (w : World) (B : Nat) (e : TypeId) (size : Nat) (hB : B <= w.heap.size) : (w.alloc (.cells #[] e)).ownsRow B e size (.slice (some ⟨w.heap.size, 0, none⟩) 0 0) 0 [] :=
 ⟨by simp, .inr ⟨w.heap.size, 0, #[], rfl, hB, heap_alloc_new _ _, Nat.le_refl _, Nat.zero_le _, by simp, by simp⟩⟩

end Go.Proofs.YtoioiddjbanahaaGreatDoor

namespace Go.Proofs.YtoioiddjbanahaaGreatDoor

open Go.RowKit

structure BSt (W0 wr : World) (g c n : Nat) (es : List Nd.E) : Prop where
 bel : Below W0.heap.size W0 wr
 own : wr.ownsRow W0.heap.size 32 4 (.slice (some ⟨g, 0, none⟩) n c) n (Nd.cs es)
 ats : ∀ e ∈ es, AtRow W0 e.a e.t.attrs
 len : es.length = n
 sz : ∀ e ∈ es, TkSz 1048576 e.t

section

variable {W0 wr w' : World} {g c n : Nat} {es : List Nd.E}

theorem BSt.below (h : BSt W0 wr g c n es) (hb : Below wr.heap.size wr w') : BSt W0 w' g c n es := ⟨bb h.bel hb, ownsRow_below h.own hb, h.ats, h.len, h.sz⟩

theorem BSt.tk (h : BSt W0 wr g c n es) : TkRow wr (some ⟨g, 0, none⟩) (es.map (·.t)) := own_tkRow h.own h.len (fun e he => (h.ats e he).below h.bel)

theorem BSt.tks (h : BSt W0 wr g c n es) : TksSz 1048576 (es.map (·.t)) := fun t ht => by
 obtain ⟨e, he, rfl⟩ := List.mem_map.1 ht
 exact h.sz e he

theorem BSt.setF (h : BSt W0 wr g c n es) {x : Nat} (hx : x < es.length) {f : Nat} (hf : f < 4) {u : Value} {t' : Tk} (ht : t'.attrs = es[x].t.attrs) (hc : Nd.c1 ⟨t', es[x].a, es[x].cap⟩ = (Nd.c1 es[x]).set f u) (hz : TkSz 1048576 t') :
  BSt W0 (wr.setCell ⟨g, x * 4 + f, none⟩ u) g c n (es.set x ⟨t', es[x].a, es[x].cap⟩) := by
 obtain ⟨ho', hg'⟩ := h.own.stored (x * 4 + f) u
 rw [cs_set hx hf hc] at ho'
 refine ⟨h.bel.setCell (p := ⟨g, x * 4 + f, none⟩) (h.own.lt g rfl).1 _, ho', fun e he => ?_, by rw [List.length_set]; exact h.len, fun e he => ?_⟩
 ·rcases List.mem_or_eq_of_mem_set he with h' | h'
  ·exact h.ats e h'
  ·subst h'
   show AtRow W0 es[x].a t'.attrs
   rw [ht]
   exact h.ats _ (List.getElem_mem hx)
 ·rcases List.mem_or_eq_of_mem_set he with h' | h'
  ·exact h.sz e h'
  ·subst h'
   exact hz

end

set_option maxRecDepth 8000 in
set_option maxHeartbeats 16000000 in
theorem law_broken (a : Option Addr) (len cap : Nat) (w : World) (hcr : CodeB w a len) (hL : Laid w) :
  Calls Tryz.prog 3 #[.slice a len cap] w fun e w' => e = .returned (.bool true) /\ Below w.heap.size w w' := by
 by_cases hl : len <= 4096
 case neg =>
  have CB := hid (fun wx => cBig_yes a len cap wx hl)
  clear hcr hL
  go_enter Tryz.func3, Tryz.ntmps3
  go_wp2_with fail
  refine (CB.out _).mono ?_
  rintro e w1 ⟨rfl, rfl⟩
  go_wp2_with fail
  go_ret
  exact ⟨rfl, Below.refl _ _⟩
 have CB := hid (fun wx => cBig_no a len cap wx hl)
 have CD := hid (cDrawSealedBy a len cap w hl hcr.row)
 have HCR := hid hcr
 have HLA := hid hL
 unfold DrawnB at CD
 clear hcr hL
 go_enter Tryz.func3, Tryz.ntmps3
 go_wp2_with fail
 refine (CB.out _).mono ?_
 rintro e w1 ⟨rfl, rfl⟩
 clear CB
 go_wp2_with fail
 refine CD.out.mono ?_
 rintro r w2 ⟨a2, c2, ts, x, kn, ke, kd, rfl, hr2, hn2, hz2, hc2, hx2, hkb, hb2⟩
 obtain ⟨w3, hw3⟩ : ∃ w3, w2.alloc (.cells #[.int .i64 kn, .int .i64 ke, .int .i64 kd] 26) = w3 := ⟨_, rfl⟩
 have hbX : Below w2.heap.size w2 w3 := by rw [<- hw3]; exact (Below.refl _ _).alloc (Nat.le_refl _) _
 have MK := hid (show w3.heap[w2.heap.size]? = some (.cells #[.int .i64 kn, .int .i64 ke, .int .i64 kd] 26 (0, 0)) by rw [<- hw3]; exact box_w3 w2 _ _ _ _)
 have HB3 := hid (bb hb2 hbX)
 have HR3 := hid (hr2.below hbX)
 have hE := (key_below hkb).1
 have CI := hid (fun wx (hb : Below w3.heap.size w3 wx) => cSealedByI a2 c2 ts x kn ke kd wx (HR3.out.below hb) (by omega) hz2 hE (HLA.out.below (bb HB3.out hb)))
 have CS := hid (fun wx (hb : Below w3.heap.size w3 wx) => cSealedByS a2 c2 ts x kn ke kd wx (HR3.out.below hb) (by omega) hz2 hE)
 have HZ2 := hid hz2
 obtain ⟨B, hB⟩ : ∃ B, byI ts x kn ke kd = B := ⟨_, rfl⟩
 rw [hB] at CI CS
 have HBY := hid hB
 obtain ⟨n, hnn⟩ : ∃ n, ts.length = n := ⟨_, rfl⟩
 have HN := hid hnn
 rw [hnn] at CI CS hn2 hc2 ⊢
 obtain ⟨z0, z1, z2⟩ := (box3e MK.out).1
 have hBB : (B != B) = false := by cases B <;> rfl
 clear hr2 hb2 hbX hz2 hB hnn CD
 go_wp2_with fail
 clear hw3
 refine (CI.out _ (Below.refl _ _)).mono ?_
 rintro r w4 ⟨rfl, hb4⟩
 have HB4 := hid hb4
 obtain ⟨y0, y1, y2⟩ := (box3e (blk_below MK.out hb4)).1
 clear hb4 CI z0 z1 z2
 go_wp2_with fail
 refine (CS.out _ HB4.out).mono ?_
 rintro r w5 ⟨rfl, hb5⟩
 have HB5 := hid (bb HB4.out hb5)
 clear hb5 CS HB4 y0 y1 y2
 cases B with
 | false =>
  go_wp2_with fail
  go_ret
  exact ⟨rfl, bb HB3.out HB5.out⟩
 | true =>
  obtain ⟨hNP, hIB, k, rfl, hk, hps, hsum, p, hp, hpk⟩ := by_parts HBY.out
  have hkn : (k : Int) < (n : Int) := by have := HN.out; omega
  have hnt : ts.length <= 50 := by have := HN.out; omega
  have HP := hid hp
  have HNP := hid hNP
  have HK := hid hk
  have hT := hNP.1
  have HR5 := hid (HR3.out.below HB5.out)
  obtain ⟨tb, tof, ea, c0, -⟩ := HR5.out.kindAt k hk
  subst ea
  have c0' : w5.cell? ⟨tb, tof + k * 4, none⟩ = some (.int .i64 (p : Int)) := by rw [<- hp]; exact c0
  have hpl : p < ts.length := by omega
  have HEN := hid (show endI ts (p : Int) = (endN ts p : Int) by unfold endI hasB; rw [treeB_t hT, decide_eq_true ⟨by omega, by omega⟩]; rfl)
  have hen := endN_le hpl
  have CE := hid (cEndOfS (some ⟨tb, tof, none⟩) c2 ts (p : Int) w5 HR5.out (by omega) HZ2.out)
  rw [HEN.out, HN.out] at CE
  obtain ⟨en, hen2⟩ : ∃ en, endN ts p = en := ⟨_, rfl⟩
  rw [hen2] at CE hen
  rw [HN.out] at hen
  clear c0 hps hsum hNP hT HEN hen2 hIB
  go_wp2_with fail
  refine CE.out.mono ?_
  rintro r w6 ⟨rfl, hb6⟩
  have HB6 := hid (bb HB5.out hb6)
  obtain ⟨m, hm⟩ : ∃ m : Nat, en = p + m := ⟨en - p, by omega⟩
  have CP := hid (fun wx (hb : Below w3.heap.size w3 wx) => cPick 1 m a len cap wx (by decide) (by omega) (by omega) hl (HCR.out.below (bb HB3.out hb)))
  have hsub : (en : Int) - (p : Int) = (m : Int) := by omega
  have HMM := hid hm
  clear hm
  clear hb6 CE HB5 c0'
  go_wp2_with fail
  refine (CP.out _ HB6.out).mono ?_
  rintro r w6 ⟨q, rfl, hq, rfl⟩
  have hm := HMM.out
  obtain ⟨y, hy⟩ : ∃ y, p + q = y := ⟨_, rfl⟩
  have hyi : (p : Int) + (q : Int) = (y : Int) := by omega
  have hyn : y < n := by omega
  have hyn2 : (y : Int) < (n : Int) := by omega
  have hpy : p <= y := by omega
  have HR6 := hid (HR3.out.below HB6.out)
  obtain ⟨es, e1, e2, e3⟩ := rowEJ HR6.out ts.length (Nat.le_refl _)
  rw [List.take_length] at e1
  have hel : es.length = n := by rw [<- HN.out, <- e1, List.length_map]
  have HES := hid (And.intro e1 (And.intro e2 (And.intro e3 hel)))
  obtain ⟨i0, hi, hz0, hz1, hz2⟩ := info_parts Nd.infoR
  have HI := hid (And.intro hi (And.intro hz0 (And.intro hz1 hz2)))
  have hn0 : 0 < n := by omega
  have HA7 := hid ((Below.refl w6.heap.size w6).alloc (Nat.le_refl _) (.cells #[] 32))
  clear e1 e2 e3 hel hi hz0 hz1 hz2 CP hsub hm hy
  go_wp2_with (at_builtin; refine wpList_append_own_at _ rfl _ _ 24 rfl w6.heap.size 32 i0 _ 4 64 Tryz.underlying24 HI.out.1 HI.out.2.1 HI.out.2.2.1 HI.out.2.2.2 rfl (by decide) _ 0 [] rfl (made_ownJ w6 w6.heap.size _ _ (Nat.le_refl _)) ⟨tb, tof, none⟩ n c2 (Nd.cs es) rfl (by rw [Nd.cs_len, HES.out.2.2.2]) (fun j u hj => (HA7.out.cell (World.block_lt_of_cell? w6 _ (HES.out.2.1 j u hj))).trans (HES.out.2.1 j u hj)) (Nd.cs_cell es) (by unfold maxLen; omega) (by omega) (by simp) ?_)
  intro v8 w8 hown8 hgrow8 _ _
  obtain ⟨g, c8, rfl, hg8, _⟩ := own_someJ hown8 hn0
  have hk8 : ∀ k, (Value.slice (some ⟨w6.heap.size, 0, none⟩) 0 0).ownBlock = some k -> w6.heap.size <= k := fun k hk => by
   have h9 : w6.heap.size = k := by simpa [Value.ownBlock] using hk
   omega
  have HB8 := hid (show Below w6.heap.size w6 w8 from HA7.out.grown hgrow8 HA7.out.size hk8)
  have HX := hid (show BSt w6 w8 g c8 n es from ⟨HB8.out, hown8, HES.out.2.2.1, HES.out.2.2.2, fun e he => HZ2.out _ (by rw [<- HES.out.1]; exact List.mem_map_of_mem he)⟩)
  have hye : y < es.length := by rw [HES.out.2.2.2]; exact hyn
  have HYE := hid hye
  have HSL := hid (slot_own HX.out.own HX.out.len hye)
  obtain ⟨E, hE⟩ : ∃ E : Nd.E, es[y]'hye = E := ⟨_, rfl⟩
  have HE := hid hE
  rw [hE] at HSL
  have hyt : y < ts.length := by rw [HN.out]; exact hyn
  have hEt : ts[y]'hyt = E.t := by
   have h1 : (es.map (·.t))[y]? = ts[y]? := by rw [HES.out.1]
   rw [List.getElem?_map, List.getElem?_eq_getElem hye, List.getElem?_eq_getElem hyt, hE] at h1
   exact (Option.some.inj h1).symm
  obtain ⟨tb', tof', aa', ca', ea', _, q0, q1, q2, q3, _⟩ := (HR6.out.below HB8.out) y hyt
  cases ea'
  rw [hEt] at q1 q3
  obtain ⟨⟨s0, s1, s2, s3⟩, sf⟩ := HSL.out
  have HND := hid ((HNP.out.1.2.2.2.2 y hyt).1)
  have E1 := empty_is E.t.name
  obtain ⟨Q, hQ⟩ : ∃ Q, decide (E.t.name.size = 0) = Q := ⟨_, rfl⟩
  rw [hQ] at E1
  have HQ := hid hQ
  have HSB := hid (show ∀ (es' : List Nd.E) (t' : Tk), es' = es.set y ⟨t', E.a, E.cap⟩ -> ∀ j, ¬ j = y -> (es'.map (·.t))[j]? = ts[j]? from fun es' t' e' j hj => by
   rw [e', List.getElem?_map, List.getElem?_set_ne (fun h => hj h.symm), <- List.getElem?_map, HES.out.1])
  have HEZ := hid (HX.out.sz _ (List.getElem_mem hye))
  rw [hE] at HEZ
  clear hown8 hgrow8 hg8 hk8 HA7 HI hE q0 q2 s0 s2 hQ
  go_upto_if 54 with fail
  go_cut [55] from 56 to 86 (fun _ wv => Hid (∃ es', BSt w6 wv g c8 n es' /\ ∀ j, ¬ j = y -> (es'.map (·.t))[j]? = ts[j]?))
  case first =>
   cases Q with
   | true =>
    have hq : E.t.name.size = 0 := of_decide_eq_true HQ.out
    have hT1 : 1 <= E.t.text.size := by
     obtain ⟨_, hb⟩ := HND.out
     rw [hEt] at hb
     unfold nodeB at hb
     rw [if_pos hq, Bool.and_eq_true] at hb
     have h2 := hb.2
     unfold textB at h2
     rw [Bool.and_eq_true, decide_eq_true_eq] at h2
     exact h2.2.1
    have hT2 := HEZ.out.2.2.2
    have sf3 := sf (y * 4 + 3)
    obtain ⟨T, hT⟩ : ∃ T, E.t.text = T := ⟨_, rfl⟩
    have HTT := hid hT
    rw [hT] at s3 hT1 hT2
    clear hT q1 q3 s1 sf
    have hz9 : (T.extract 0 (T.size - 1) ++ (⟨#[81]⟩ : ByteArray)).size <= 1048576 := by
     rw [ByteArray.size_append, ByteArray.size_extract, show (⟨#[81]⟩ : ByteArray).size = 1 from rfl]
     omega
    have HBS := hid (show BSt w6 (w8.setCell ⟨g, y * 4 + 3, none⟩ (.string (T.extract 0 (T.size - 1) ++ (⟨#[81]⟩ : ByteArray)))) g c8 n (es.set y ⟨⟨E.t.kind, E.t.name, E.t.attrs, T.extract 0 (T.size - 1) ++ (⟨#[81]⟩ : ByteArray)⟩, E.a, E.cap⟩) by
     have h := HX.out.setF HYE.out (f := 3) (u := .string (T.extract 0 (T.size - 1) ++ (⟨#[81]⟩ : ByteArray))) (t' := ⟨E.t.kind, E.t.name, E.t.attrs, T.extract 0 (T.size - 1) ++ (⟨#[81]⟩ : ByteArray)⟩) (by decide) (by rw [HE.out]) (by rw [HE.out]; rfl) ⟨HEZ.out.1, HEZ.out.2.1, HEZ.out.2.2.1, hz9⟩
     rw [HE.out] at h
     exact h)
    clear hz9
    go_wp2_with fail
    go_region
    go_wp2_with fail
    go_meet
    exact ⟨_, HBS.out.below (Below.refl _ _).drew, HSB.out _ _ rfl⟩
   | false =>
    have sf1 := sf (y * 4 + 1)
    have HBS := hid (fun (nm : ByteArray) (hz : nm.size <= 1048576) => (show BSt w6 (w8.setCell ⟨g, y * 4 + 1, none⟩ (.string nm)) g c8 n (es.set y ⟨⟨E.t.kind, nm, E.t.attrs, E.t.text⟩, E.a, E.cap⟩) by
     have h := HX.out.setF HYE.out (f := 1) (u := .string nm) (t' := ⟨E.t.kind, nm, E.t.attrs, E.t.text⟩) (by decide) (by rw [HE.out]) (by rw [HE.out]; rfl) ⟨hz, HEZ.out.2.1, HEZ.out.2.2.1, HEZ.out.2.2.2⟩
     rw [HE.out] at h
     exact h))
    have hgt : ¬ g = tb := by
     have h1 := (HX.out.own.lt g rfl).1
     intro e
     obtain ⟨b1, o1, _, _, e1, hb1, _⟩ := HR6.out y hyt
     have e2 : tb = b1 := by cases e1; rfl
     omega
    have qn : ∀ u, (w8.setCell ⟨g, y * 4 + 1, none⟩ u).cell? ⟨tb, tof + y * 4 + 1, none⟩ = some (.string E.t.name) := fun u => (World.cell?_setCell_far _ _ _ _ hgt).trans q1
    have E2 : (E.t.name.toList == [98]) = decide (E.t.name = ⟨#[98]⟩) := by
     rw [<- str_beq]
     have e : (⟨#[98]⟩ : ByteArray).toList = [98] := by rw [ByteArray.toList_eq]
     rw [e]
    obtain ⟨P2, hP2⟩ : ∃ P2, decide (E.t.name = ⟨#[98]⟩) = P2 := ⟨_, rfl⟩
    rw [hP2] at E2
    have HX1 := hid (HBS.out ⟨#[98]⟩ (by decide))
    have HXA := hid (HBS.out ⟨#[97]⟩ (by decide))
    have sf9 : ∀ u, (w8.setCell ⟨g, y * 4 + 1, none⟩ u).frozen? ⟨g, y * 4 + 1, none⟩ = false := fun u => by rw [World.frozen?_setCell]; exact sf1
    have HXB := hid (show BSt w6 ((w8.setCell ⟨g, y * 4 + 1, none⟩ (.string ⟨#[98]⟩)).setCell ⟨g, y * 4 + 1, none⟩ (.string ⟨#[97]⟩)) g c8 n (es.set y ⟨⟨E.t.kind, ⟨#[97]⟩, E.t.attrs, E.t.text⟩, E.a, E.cap⟩) by
     have hy1 : y < (es.set y ⟨⟨E.t.kind, ⟨#[98]⟩, E.t.attrs, E.t.text⟩, E.a, E.cap⟩).length := by rw [List.length_set]; exact HYE.out
     have h := HX1.out.setF hy1 (f := 1) (u := .string ⟨#[97]⟩) (t' := ⟨E.t.kind, ⟨#[97]⟩, E.t.attrs, E.t.text⟩) (by decide) (by rw [List.getElem_set_self]) (by rw [List.getElem_set_self]; rfl) ⟨by show 1 <= 1048576; decide, HEZ.out.2.1, HEZ.out.2.2.1, HEZ.out.2.2.2⟩
     rw [List.getElem_set_self, List.set_set] at h
     exact h)
    clear hP2 q1 q3 s3 sf
    cases P2 with
    | false =>
     go_wp2_with fail
     go_meet
     exact ⟨_, HX1.out, HSB.out _ _ rfl⟩
    | true =>
     go_wp2_with fail
     go_meet
     exact ⟨_, HXB.out, HSB.out _ _ rfl⟩
  case rest =>
   obtain ⟨es', hX', hoth⟩ := hcut.out
   have HX2 := hid hX'
   obtain ⟨us, hus⟩ : ∃ us, es'.map (·.t) = us := ⟨_, rfl⟩
   rw [hus] at hoth
   have hul : us.length = n := by rw [<- hus, List.length_map]; exact hX'.len
   have HU := hid (show TkRow _ (some ⟨g, 0, none⟩) us by rw [<- hus]; exact hX'.tk)
   have HUZ := hid (show TksSz 1048576 us by rw [<- hus]; exact hX'.tks)
   have HOT := hid hoth
   have HBC := hid hX'.bel
   have HUL := hid hul
   have CN := hid (cNamesOkS (some ⟨g, 0, none⟩) c8 us wc HU.out (by omega) HUZ.out)
   have CID := hid (fun wx (hb : Below wc.heap.size wc wx) => cIdsOkS (some ⟨g, 0, none⟩) c8 us wx (HU.out.below hb) (by omega) HUZ.out)
   have HR9 := hid ((HR6.out.below HBC.out))
   have CT := hid (fun wx (hb : Below wc.heap.size wc wx) => cCanonS (some ⟨tb, tof, none⟩) c2 ts (p : Int) (k : Int) wx (HR9.out.below hb) (by omega) HZ2.out)
   have CU := hid (fun wx (hb : Below wc.heap.size wc wx) => cCanonS (some ⟨g, 0, none⟩) c8 us (p : Int) (k : Int) wx (HU.out.below hb) (by omega) HUZ.out)
   have HB9 := hid (bb HB6.out HBC.out)
   have CI2 := hid (fun wx (hb : Below wc.heap.size wc wx) => cSealedByI (some ⟨g, 0, none⟩) c8 us (k : Int) kn ke kd wx (HU.out.below hb) (by omega) HUZ.out hE (HLA.out.below (bb HB3.out (bb HB9.out hb))))
   rw [hul] at CN CID CU CI2
   rw [HN.out] at CT
   have zt := canonI_tiny ts (p : Int) (k : Int)
   have zu := canonI_tiny us (p : Int) (k : Int)
   have CCL := hid (fun (g2 : Nat) wx (hb : Below wc.heap.size wc wx) (hS : StrAt wx (some ⟨g2, 0, none⟩) [canonI ts (p : Int) (k : Int), canonI us (p : Int) (k : Int)]) => cClashI (some ⟨g2, 0, none⟩) 2 [canonI ts (p : Int) (k : Int), canonI us (p : Int) (k : Int)] wx hS (fun s hs => by
    rcases List.mem_cons.1 hs with h | h
    ·rw [h]; omega
    ·rw [List.mem_singleton] at h; rw [h]; omega) (by show 2 <= 1048576; decide) (HLA.out.below (bb HB3.out (bb HB9.out hb))))
   have HCL := hid (show ¬ k = y -> byI us (k : Int) kn ke kd = true -> ¬ canonI ts (p : Int) (k : Int) = canonI us (p : Int) (k : Int) -> clB [canonI ts (p : Int) (k : Int), canonI us (p : Int) (k : Int)] = true from fun hky h2 hne => by
    have h := both_clash HBY.out h2 (HOT.out k hky)
    rw [HP.out] at h
    exact clB_true (List.mem_cons_self) (List.mem_cons_of_mem _ (List.mem_singleton.2 rfl)) hne h)
   have ES := str_beq (canonI ts (p : Int) (k : Int)) (canonI us (p : Int) (k : Int))
   generalize canonI ts (p : Int) (k : Int) = CA at *
   generalize canonI us (p : Int) (k : Int) = CB at *
   generalize byI us (k : Int) kn ke kd = B2 at *
   generalize namesB us = NB at *
   generalize idsB us = IB at *
   clear hcut hX' hoth hul hus HX HSL s1 s3 q1 q3 sf E1 HND HEZ HSB HQ HE HX2
   by_cases hyk : y = k
   ·have hd : ((y : Int) == (k : Int)) = true := by simp; omega
    go_wp2_with fail
    go_ret
    exact ⟨rfl, bb HB3.out HB9.out⟩
   ·have hd : ((y : Int) == (k : Int)) = false := by simp; omega
    have HCL2 := hid (HCL.out (fun e => hyk e.symm))
    go_wp2_with fail
    refine CN.out.mono ?_
    rintro r w9 ⟨rfl, hb9⟩
    have H9 := hid hb9
    clear hb9 CN HCL
    cases NB with
    | false =>
     go_wp2_with fail
     go_ret
     exact ⟨rfl, bb HB3.out (bb HB9.out H9.out)⟩
    | true =>
     go_wp2_with fail
     refine (CID.out _ H9.out).mono ?_
     rintro r w10 ⟨rfl, hb10⟩
     have H10 := hid (bb H9.out hb10)
     clear hb10 CID H9
     cases IB with
     | false =>
      go_wp2_with fail
      go_ret
      exact ⟨rfl, bb HB3.out (bb HB9.out H10.out)⟩
     | true =>
      go_wp2_with fail
      refine (CT.out _ H10.out).mono ?_
      rintro r w11 ⟨rfl, hb11⟩
      have H11 := hid (bb H10.out hb11)
      clear hb11 CT H10
      go_wp2_with fail
      refine (CU.out _ H11.out).mono ?_
      rintro r w12 ⟨rfl, hb12⟩
      have H12 := hid (bb H11.out hb12)
      obtain ⟨z0, z1, z2⟩ := (box3e (blk_below MK.out (bb HB9.out H12.out))).1
      clear hb12 CU H11
      go_wp2_with fail
      refine (CI2.out _ H12.out).mono ?_
      rintro r w13 ⟨rfl, hb13⟩
      have H13 := hid (bb H12.out hb13)
      clear hb13 CI2 H12 z0 z1 z2
      cases B2 with
      | false =>
       go_wp2_with fail
       go_ret
       exact ⟨rfl, bb HB3.out (bb HB9.out H13.out)⟩
      | true =>
       by_cases hAB : CA = CB
       ·rw [decide_eq_true hAB] at ES
        go_wp2_with fail
        go_ret
        exact ⟨rfl, bb HB3.out (bb HB9.out H13.out)⟩
       ·rw [decide_eq_false hAB] at ES
        have HC := hid (HCL2.out rfl hAB)
        have hb14 : Below w13.heap.size w13 (w13.alloc (.cells #[.string CA, .string CB] 9)) := (Below.refl _ _).alloc (Nat.le_refl _) _
        have H14 := hid (bb H13.out hb14)
        have CC2 := hid (CCL.out w13.heap.size _ H14.out (fun j hj => by
         have hbx := box_two w13 (.string CA) (.string CB) 9
         have hj' : j < 2 := hj
         have : j = 0 \/ j = 1 := by omega
         rcases this with rfl | rfl
         ·exact ⟨_, 0, rfl, hbx.2.2, hbx.1⟩
         ·exact ⟨_, 0, rfl, hbx.2.2, hbx.2.1⟩))
        rw [HC.out] at CC2
        clear hb14 CCL
        go_wp2_with fail
        refine CC2.out.mono ?_
        rintro r w15 ⟨rfl, hb15⟩
        have H15 := hid (bb H14.out hb15)
        clear hb15 CC2 H14
        go_wp2_with fail
        go_ret
        exact ⟨rfl, bb HB3.out (bb HB9.out H15.out)⟩

end Go.Proofs.YtoioiddjbanahaaGreatDoor

namespace Go.Proofs.YtoioiddjbanahaaGreatDoor

open Go.RowKit

theorem laid_mem {P : Program} {w : World} {name : String} {d : DataW Unit} : ∀ {l : List (String × DataW Unit)} {ps : List MemPlace}, DataW.LaidVars P w l ps -> (name, d) ∈ l ->
  ∃ g t cs fuel p, P.globalNamed name = some g /\ (P.globals[g]?).map (·.type) = some t /\ w.var? P name = some cs /\ DataW.trod (fun _ => ()) P w 0 (fun _ => true) false fuel t cs.toList = some (d, p)
 | [], _, _, hm => by cases hm
 | (n, x) :: l, _, h, hm => by
  obtain ⟨g, t, cs, fuel, p, q, h1, h2, h3, h4, hs, _⟩ := h
  rcases List.mem_cons.1 hm with e | hm
  ·cases e
   exact ⟨g, t, cs, fuel, p, h1, h2, h3, h4⟩
  ·exact laid_mem hs hm

theorem tab_of {P : Program} {w : World} {l : List (String × DataW Unit)} {name : String} {k : IntKind} {zs : List Int} {g : Nat} {t e : TypeId} {n : Nat} (h : laidMet P l w) (hm : (name, Lib.tabData k zs) ∈ l)
  (hg : P.globalNamed name = some g) (hty : (P.globals[g]?).map (·.type) = some t) (ht : P.underlying t = some (.array n e)) (he : P.underlying e = some (.int k)) (hce : P.cellsOf e = 1) (hct : P.cellsOf t = n) : Lib.TabIs P w name k zs := by
 obtain ⟨ps, hv, _⟩ := h
 obtain ⟨g', t', cs, fuel, p, h1, h2, h3, h4⟩ := laid_mem hv hm
 obtain rfl := Option.some.inj (hg.symm.trans h1)
 obtain rfl := Option.some.inj (hty.symm.trans h2)
 unfold Lib.TabIs
 rw [h3, <- Lib.cells_of_tab ht he hce hct h4]

theorem pow_data : (Lib.tabData .u64 Lib.pow10Tab : DataW Unit) = Rows.laid_internal_strconv_uint64pow10 := by kernel_rfl

theorem laid_of {l : List (String × DataW Unit)} {w : World} (h : laidMet Tryz.prog l w) (h2 : (powName, Rows.laid_internal_strconv_uint64pow10) ∈ l) : Laid w := by
 rw [<- pow_data] at h2
 exact tab_of h h2 (g := 0) (t := 252) (by kernel_rfl) (by kernel_rfl) Tryz.underlying252 Tryz.underlying235 (by kernel_rfl) (by kernel_rfl)

theorem laid_sealedBy {w : World} (h : laidMetH Tryz.prog Rows.fnExactSealedByRow.laid w) : Laid w := by
 rw [MakeChecks.laidMetH_plain _ _ _ (by kernel_rfl)] at h
 exact laid_of h (.tail _ (.tail _ (.head _)))

theorem laid_broken {w : World} (h : laidMetH Tryz.prog Rows.fnBrokenRow.laid w) : Laid w := laid_sealedBy h

end Go.Proofs.YtoioiddjbanahaaGreatDoor
