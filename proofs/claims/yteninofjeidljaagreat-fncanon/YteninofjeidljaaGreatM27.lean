/- Kept nodes of one tree in another: their chains, and what their prefixes mean (mathematics alone). What prefixes mean in the tree of what is written in the one way (mathematics alone). The one way to write it: contract of the specification's l11Canon. Contracts of the specification's Canon, CanonAll and SameCanon. -/
import Derived.Test.YteninofjeidljaaGreatM26
import Derived.Test.YteninofjeidljaaGreatM15
import Derived.Test.YteninofjeidljaaGreatM13
import Derived.Deep.RegionHeld3
namespace Go.Proofs.YteninofjeidljaaGreat

open Go.RowKit

set_option linter.unusedVariables false

/-- Who has a parent: the chain goes on from it. -/
theorem chain_par {ts : List Tk} (hT : TreeP ts) {i p : Nat} (hi : i < ts.length) (hp : parI ts i = (p : Int)) : p < i ∧ chainF ts (i + 1) = i :: chainF ts (p + 1) := by
  have h0 : ¬ i = 0 := fun h => by
    subst h
    rw [hT.2.2.1] at hp
    omega
  obtain ⟨k, rfl⟩ : ∃ k, i = k + 1 := ⟨i - 1, by omega⟩
  have hL := hT.linked k (by omega)
  obtain ⟨h1, q, r, e, eq, hlt⟩ := linked_next hL.1 (hT.up (k + 1) hi) h0 hL.2
  have : q = p := by omega
  subst this
  rw [e] at h1 ⊢
  refine ⟨hlt, ?_⟩
  have h2 := (hT.linked q (by omega)).1
  obtain ⟨d, ed⟩ := chain_head ts q
  rw [ed] at h2 ⊢
  rw [linked_uni h1.2.2 h2]

/-- Nodes of one tree that stand in another too, with who is whose parent. -/
structure Kept (ts us : List Tk) (φ : Nat → Nat) (D : Nat → Prop) : Prop where
  tree : TreeP ts
  tree' : TreeP us
  low : ∀ i, D i → i < ts.length ∧ φ i < us.length
  root : ∀ i, D i → i = 0 → φ i = 0
  par : ∀ i, D i → ¬ i = 0 → ∃ p : Nat, parI ts i = (p : Int) ∧ D p ∧ parI us (φ i) = (φ p : Int)
  attrs : ∀ i, D i → (nodeAt us (φ i)).attrs = (nodeAt ts i).attrs

theorem Kept.chain {ts us : List Tk} {φ : Nat → Nat} {D : Nat → Prop} (h : Kept ts us φ D) : ∀ n i, i < n → D i → chainF us (φ i + 1) = (chainF ts (i + 1)).map φ ∧ ∀ x ∈ chainF ts (i + 1), D x
  | 0, i, hn, _ => absurd hn (Nat.not_lt_zero _)
  | n + 1, i, hn, hi => by
    obtain ⟨l1, l2⟩ := h.low i hi
    by_cases h0 : i = 0
    · have e := h.root i hi h0
      rw [e]
      subst h0
      refine ⟨?_, fun x hx => ?_⟩
      · show [0] = [φ 0]
        rw [e]
      · have : x ∈ [0] := hx
        rw [List.mem_singleton.1 this]
        exact hi
    · obtain ⟨p, hp, hD, hq⟩ := h.par i hi h0
      obtain ⟨lp, e1⟩ := chain_par h.tree l1 hp
      obtain ⟨_, e2⟩ := chain_par h.tree' l2 hq
      obtain ⟨k1, k2⟩ := h.chain n p (by omega) hD
      rw [e1, e2, k1]
      refine ⟨rfl, fun x hx => ?_⟩
      rcases List.mem_cons.1 hx with rfl | hx
      · exact hi
      · exact k2 x hx

theorem flat_congrE {α β : Type} {f g : α → List β} : ∀ {l : List α}, (∀ x ∈ l, f x = g x) → l.flatMap f = l.flatMap g
  | [], _ => rfl
  | x :: l, h => by
    rw [List.flatMap_cons, List.flatMap_cons, h x (by simp), flat_congrE (fun y hy => h y (by simp [hy]))]

/-- What is declared around a kept node is the same there. -/
theorem Kept.out {ts us : List Tk} {φ : Nat → Nat} {D : Nat → Prop} (h : Kept ts us φ D) {i : Nat} (hi : D i) : upAts us (chainF us (φ i + 1)) = upAts ts (chainF ts (i + 1)) := by
  obtain ⟨k1, k2⟩ := h.chain (i + 1) i (by omega) hi
  rw [k1]
  unfold upAts
  rw [List.flatMap_map]
  refine flat_congrE fun x hx => ?_
  have hD := k2 x hx
  obtain ⟨l1, l2⟩ := h.low x hD
  have ha := h.attrs x hD
  rw [nodeAt_at l1, nodeAt_at l2] at ha
  rw [List.getElem?_eq_getElem l1, List.getElem?_eq_getElem l2]
  exact ha

theorem Kept.mean {ts us : List Tk} {φ : Nat → Nat} {D : Nat → Prop} (h : Kept ts us φ D) {i : Nat} (hi : D i) (p : ByteArray) : mnF us (φ i) p = mnF ts i p := by
  unfold mnF meanF
  rw [h.out hi]

/-- A kept node with its name and its text looks alike. -/
theorem Kept.alike {ts us : List Tk} {φ : Nat → Nat} {D : Nat → Prop} (h : Kept ts us φ D) {i : Nat} (hi : D i) (hn : (nodeAt us (φ i)).name = (nodeAt ts i).name) (ht : (nodeAt us (φ i)).text = (nodeAt ts i).text) : AlikeN ts us i (φ i) := by
  refine ⟨hn, ht, fun _ => by rw [hn, h.attrs i hi], fun _ => ?_, fun _ p _ => (h.mean hi p).symm⟩
  rw [h.attrs i hi]
  exact oth_congr fun x _ _ => h.mean hi _

end Go.Proofs.YteninofjeidljaaGreat

namespace Go.Proofs.YteninofjeidljaaGreat

open Go.RowKit

set_option linter.unusedVariables false

noncomputable def newC (ts : List Tk) (i : Nat) (sd : List At) : List ByteArray := newF ts i sd (preL7 (nodeAt ts i).name (nodeAt ts i).attrs)

theorem pre_nodup (nm : ByteArray) (l : List At) : (preL7 nm l).Nodup := (pre_strict nm l).1.imp fun {a b} h e => by rw [e, ltB_irr] at h; cases h

theorem said_is (ts : List Tk) (i : Nat) (sd : List At) : saidL ts i sd (nodeAt ts i) = sd ++ (newC ts i sd).map fun p => ⟨p, mnF ts i p⟩ := by
  unfold saidL
  rw [dcl_flat ts i _ sd _ (pre_nodup _ _)]
  rfl

theorem attC_is (ts : List Tk) (i : Nat) (sd : List At) : attC ts i sd = ((newC ts i sd).map fun p => (⟨nmD p, mnF ts i p⟩ : At)) ++ othL ts i (nodeAt ts i).attrs := rfl

theorem oth_nodecl {ts : List Tk} {i : Nat} {l : List At} {x : At} (h : x ∈ othL ts i l) : declF x = none := by
  rw [oth_sort] at h
  have h2 := (List.mem_filter.1 (((sort_all (ahead_ord ts i) _).2.2 x).1 h)).2
  unfold nodeclB at h2
  cases hd : declF x with
  | none => rfl
  | some p => rw [hd] at h2; cases h2

theorem find_skip {α : Type} {p : α → Bool} {a o r : List α} (h : ∀ x ∈ o, p x = false) : ((a ++ o) ++ r).find? p = (a ++ r).find? p := by
  have e : o.find? p = none := List.find?_eq_none.2 (fun x hx => by rw [h x hx]; exact Bool.false_ne_true)
  rw [List.find?_append, List.find?_append, List.find?_append, e, Option.or_none]

theorem look_skip {D O R : List At} {p : ByteArray} (h : ∀ x ∈ O, declF x = none) : lookL ((D ++ O) ++ R) p = lookL (D ++ R) p := by
  unfold lookL
  rw [find_skip (fun x hx => by unfold declB; rw [h x hx]; simp)]

/-- What an element and those above it declare says what is said. -/
theorem said_next {ts : List Tk} {i : Nat} {sd R : List At} (hS : SaidR R sd) : SaidR (attC ts i sd ++ R) (saidL ts i sd (nodeAt ts i)) := by
  rw [said_is, attC_is]
  have h := SaidR.next (ts := ts) (k := i) hS (F := newC ts i sd) ((pre_nodup _ _).filter _) (fun p hp => pre_ok (List.mem_filter.1 hp).1)
  intro p hp
  rw [look_skip (fun x hx => oth_nodecl hx)]
  exact h p hp

/-- What it needs is said as it means. -/
theorem said_mean {ts : List Tk} {i : Nat} {sd R : List At} (hS : SaidR R sd) {p : ByteArray} (hp : p ∈ preL7 (nodeAt ts i).name (nodeAt ts i).attrs) : lookL (attC ts i sd ++ R) p = some (mnF ts i p) := by
  rw [said_next hS p (pre_ok hp), said_is]
  by_cases q : p ∈ newC ts i sd
  · have key : ∀ (F : List ByteArray) (s : List At), F.Nodup → p ∈ F → lastF (s ++ F.map fun p => (⟨p, mnF ts i p⟩ : At)) p = some (mnF ts i p) := by
      intro F
      induction F with
      | nil => intro s _ h; cases h
      | cons z F ih =>
        intro s hn hm
        obtain ⟨n1, n2⟩ := List.nodup_cons.1 hn
        rw [List.map_cons, show s ++ (⟨z, mnF ts i z⟩ : At) :: F.map (fun p => (⟨p, mnF ts i p⟩ : At)) = (s ++ [⟨z, mnF ts i z⟩]) ++ F.map (fun p => (⟨p, mnF ts i p⟩ : At)) by simp]
        by_cases e : z = p
        · subst e
          rw [last_app (fun x hx => ?_), last_snoc, if_pos rfl]
          obtain ⟨y, hy, rfl⟩ := List.mem_map.1 hx
          exact fun e => n1 (by rw [← e]; exact hy)
        · rcases List.mem_cons.1 hm with h | h
          · exact absurd h.symm e
          · exact ih _ n2 h
    have hnd : (newC ts i sd).Nodup := (pre_nodup _ _).filter _
    rw [key (newC ts i sd) sd hnd q]
  · rw [last_app (fun x hx => by
      obtain ⟨y, hy, rfl⟩ := List.mem_map.1 hx
      exact fun e => q (by rw [← e]; exact hy))]
    have hk : skipB sd p (mnF ts i p) = true := by
      cases h : skipB sd p (mnF ts i p) with
      | true => rfl
      | false => exact absurd (List.mem_filter.2 ⟨hp, by rw [h]; rfl⟩) q
    unfold skipB at hk
    cases hl : lastF sd p with
    | some x =>
      rw [hl] at hk
      simp only [decide_eq_true_eq] at hk
      simp only [hk]
    | none =>
      rw [hl] at hk
      simp only [Bool.and_eq_true, decide_eq_true_eq] at hk
      simp only [if_pos hk.1]
      rw [size0 hk.2]

/-- A meaning that is needed may be declared. -/
theorem mean_right {ts : List Tk} {i : Nat} (hr : (outAts ts i).all rightB = true) {p : ByteArray} (hp : PreOk p) (hs : (meanF ts i p).isSome = true) : rightB ⟨nmD p, mnF ts i p⟩ = true := by
  unfold rightB
  rw [nmD_decl hp]
  simp only
  unfold mnF
  rw [meanF_look hr] at hs ⊢
  unfold lookL at hs ⊢
  cases hf : (outAts ts i).find? (declB p) with
  | some x =>
    have h2 := List.find?_some hf
    have h3 := List.all_eq_true.1 hr x (List.mem_of_find?_eq_some hf)
    unfold declB at h2
    rw [decide_eq_true_eq] at h2
    unfold rightB at h3
    rw [h2] at h3
    exact h3
  | none =>
    rw [hf] at hs
    by_cases h0 : p.size = 0
    · simp only [if_pos h0]
      rw [decide_eq_true h0]
      decide +kernel
    · simp only [if_neg h0] at hs
      cases hs

/-- What is needed means something. -/
theorem need_some {ts : List Tk} (hN : NamesP ts) {i : Nat} (hi : i < ts.length) (hne : ¬ (nodeAt ts i).name.size = 0) {p : ByteArray} (hp : p ∈ preL7 (nodeAt ts i).name (nodeAt ts i).attrs) : (meanF ts i p).isSome = true := by
  rw [nodeAt_at hi] at hne hp
  rcases hN.2 i ts[i] (List.getElem?_eq_getElem hi) with h | ⟨h1, _, h3⟩
  · exact absurd h hne
  · rcases ((pre_strict _ _).2 p).1 hp with rfl | ⟨x, hx, hc, rfl⟩
    · exact h1
    · exact h3.1 x hx hc

end Go.Proofs.YteninofjeidljaaGreat

namespace Go.Proofs.YteninofjeidljaaGreat

open Go.RowKit

set_option linter.unusedVariables false

set_option linter.unusedSimpArgs false

/-- What is known in the first loop. -/
structure Lp2 (W0 wr : World) (ts : List Tk) (k : Nat) (nm : ByteArray) (l : List At) (i : Nat) (v12 v13 : Value) (np m : Nat) : Prop where
  bel : Below W0.heap.size W0 wr
  ps : Rd wr 1 v12 np (keyV (preL7 nm (l.take i)))
  oth : Rd wr 2 v13 m (atC (othL ts k (l.take i)))
  hi : i ≤ l.length
  hnp : (preL7 nm (l.take i)).length = np
  hm : (othL ts k (l.take i)).length = m

theorem Lp2.below {W0 wr w' : World} {ts : List Tk} {k : Nat} {nm : ByteArray} {l : List At} {i : Nat} {v12 v13 : Value} {np m : Nat} (h : Lp2 W0 wr ts k nm l i v12 v13 np m) (hb : Below wr.heap.size wr w') : Lp2 W0 w' ts k nm l i v12 v13 np m :=
  ⟨bb h.bel hb, h.ps.below hb, h.oth.below hb, h.hi, h.hnp, h.hm⟩

theorem Lp2.few {W0 wr : World} {ts : List Tk} {k : Nat} {nm : ByteArray} {l : List At} {i : Nat} {v12 v13 : Value} {np m : Nat} (h : Lp2 W0 wr ts k nm l i v12 v13 np m) (hz : AtSz 1048576 l) (hn : nm.size ≤ 1048576) : np ≤ i + 1 ∧ m ≤ i ∧ (∀ p ∈ preL7 nm (l.take i), p.size ≤ 1048576) ∧ ∀ y ∈ othL ts k (l.take i), y ∈ l := by
  obtain ⟨h1, _, h3⟩ := preL7_all (b := 1048576) (preS_sz hn) (l.take i) (fun x hx => preS_sz (hz x (List.mem_of_mem_take hx)).1)
  obtain ⟨g1, g2⟩ := othL_all (ts := ts) (k := k) (l.take i)
  have hti : (l.take i).length = i := by rw [List.length_take]; have := h.hi; omega
  rw [hti, h.hnp] at h1
  rw [hti, h.hm] at g1
  exact ⟨h1, g1, h3, fun y hy => List.mem_of_mem_take (g2 y hy)⟩

/-- A declaration is passed by. -/
theorem Lp2.skip {W0 wr : World} {ts : List Tk} {k : Nat} {nm : ByteArray} {l : List At} {i : Nat} {v12 v13 : Value} {np m : Nat} (h : Lp2 W0 wr ts k nm l i v12 v13 np m) (hi : i < l.length) (hd : (declF l[i]).isSome = true) : Lp2 W0 wr ts k nm l (i + 1) v12 v13 np m := by
  have e1 := preL7_next (nm := nm) hi
  have e2 := othL_next (ts := ts) (k := k) hi
  rw [accP_no hd] at e1
  rw [accB_no hd] at e2
  exact ⟨h.bel, by rw [e1]; exact h.ps, by rw [e2]; exact h.oth, hi, by rw [e1]; exact h.hnp, by rw [e2]; exact h.hm⟩

/-- Another one. -/
theorem Lp2.next {W0 wr w' : World} {ts : List Tk} {k : Nat} {nm : ByteArray} {l : List At} {i : Nat} {v12 v13 v12' v13' : Value} {np m j : Nat} {P' : List ByteArray} (h : Lp2 W0 wr ts k nm l i v12 v13 np m) (hi : i < l.length) (hd : (declF l[i]).isSome = false) (hb : Below W0.heap.size W0 w')
    (hP : accP (preL7 nm (l.take i)) l[i] = P') (hps : Rd w' 1 v12' P'.length (keyV P')) (hj : insN ts k (othL ts k (l.take i)) l[i] = j) (hoth : Rd w' 2 v13' (m + 1) (atC ((othL ts k (l.take i)).take j ++ l[i] :: (othL ts k (l.take i)).drop j))) : Lp2 W0 w' ts k nm l (i + 1) v12' v13' P'.length (m + 1) := by
  have e1 := preL7_next (nm := nm) hi
  have e2 := othL_next (ts := ts) (k := k) hi
  rw [hP] at e1
  rw [accB_put hd] at e2
  have e3 := insA_is hj
  refine ⟨hb, by rw [e1]; exact hps, by rw [e2, e3]; exact hoth, hi, by rw [e1], ?_⟩
  rw [e2, insA_len, h.hm]

/-- A node in a box. -/
theorem box4_at {W0 wr : World} {g : Nat} {x y z u : Value} {T : TypeId} (h : W0.heap[g]? = some (.cells #[x, y, z, u] T (0, 0))) (hb : Below W0.heap.size W0 wr) : wr.cell? ⟨g, 0, none⟩ = some x ∧ wr.cell? ⟨g, 1, none⟩ = some y ∧ wr.cell? ⟨g, 2, none⟩ = some z ∧ wr.cell? ⟨g, 3, none⟩ = some u := (box4 (blk_below h hb)).1

theorem at_cells {W0 wr : World} {a : Option Addr} {l : List At} (h : AtRow W0 a l) (hb : Below W0.heap.size W0 wr) {i : Nat} (hi : i < l.length) : ∃ b o, a = some ⟨b, o, none⟩ ∧ b < wr.heap.size ∧ wr.cell? ⟨b, o + i * 2, none⟩ = some (.string l[i].name) ∧ wr.cell? ⟨b, o + i * 2 + 1, none⟩ = some (.string l[i].value) := (h.below hb) i hi

/-- What is known while declarations are written. -/
structure Lp3 (W1 wr : World) (ts : List Tk) (k : Nat) (sd : List At) (S0 : ByteArray) (P : List ByteArray) (q : Nat) (sa : Option Addr) (ns : Nat) (S : ByteArray) : Prop where
  bel : Below W1.heap.size W1 wr
  said : AtRow wr sa (dclL ts k sd S0 (P.take q)).1
  len : (dclL ts k sd S0 (P.take q)).1.length = ns
  str : (dclL ts k sd S0 (P.take q)).2 = S

theorem Lp3.start {W1 wr : World} {ts : List Tk} {k : Nat} {sd : List At} {S0 : ByteArray} {P : List ByteArray} {sa : Option Addr} {ns : Nat} (h : AtRow wr sa sd) (hn : sd.length = ns) (hb : Below W1.heap.size W1 wr) : Lp3 W1 wr ts k sd S0 P 0 sa ns S0 := ⟨hb, h, hn, rfl⟩

theorem Lp3.below {W1 wr w' : World} {ts : List Tk} {k : Nat} {sd : List At} {S0 : ByteArray} {P : List ByteArray} {q : Nat} {sa : Option Addr} {ns : Nat} {S : ByteArray} (h : Lp3 W1 wr ts k sd S0 P q sa ns S) (hb : Below wr.heap.size wr w') : Lp3 W1 w' ts k sd S0 P q sa ns S := ⟨bb h.bel hb, h.said.below hb, h.len, h.str⟩

theorem Lp3.few {W1 wr : World} {ts : List Tk} {k : Nat} {sd : List At} {S0 : ByteArray} {P : List ByteArray} {q : Nat} {sa : Option Addr} {ns : Nat} {S : ByteArray} (h : Lp3 W1 wr ts k sd S0 P q sa ns S) (hz : TksSz 1048576 ts) (hp : ∀ p ∈ P, p.size ≤ 1048576) : ns ≤ sd.length + q ∧ S.size ≤ S0.size + 2100000 * q := by
  obtain ⟨h1, h2⟩ := dclL_all (k := k) hz sd S0 (P.take q) (fun p hp' => hp p (List.mem_of_mem_take hp'))
  rw [h.len] at h1
  rw [h.str] at h2
  have hl : (P.take q).length ≤ q := List.length_take_le _ _
  have h3 : 2100000 * (P.take q).length ≤ 2100000 * q := Nat.mul_le_mul_left _ hl
  exact ⟨by omega, by omega⟩

/-- It needs not be written. -/
theorem Lp3.skip {W1 wr : World} {ts : List Tk} {k : Nat} {sd : List At} {S0 : ByteArray} {P : List ByteArray} {q : Nat} {sa : Option Addr} {ns : Nat} {S : ByteArray} (h : Lp3 W1 wr ts k sd S0 P q sa ns S) (hq : q < P.length) (hs : skipB (dclL ts k sd S0 (P.take q)).1 P[q] (mnF ts k P[q]) = true) : Lp3 W1 wr ts k sd S0 P (q + 1) sa ns S := by
  have e : dclL ts k sd S0 (P.take (q + 1)) = dclL ts k sd S0 (P.take q) := by
    rw [dclL_next hq]
    unfold dclF
    rw [if_pos hs]
  exact ⟨h.bel, by rw [e]; exact h.said, by rw [e]; exact h.len, by rw [e]; exact h.str⟩

/-- It is. -/
theorem Lp3.next {W1 wr w' : World} {ts : List Tk} {k : Nat} {sd : List At} {S0 : ByteArray} {P : List ByteArray} {q : Nat} {sa sa' : Option Addr} {ns : Nat} {S : ByteArray} (h : Lp3 W1 wr ts k sd S0 P q sa ns S) (hq : q < P.length) (hs : skipB (dclL ts k sd S0 (P.take q)).1 P[q] (mnF ts k P[q]) = false) (hb : Below W1.heap.size W1 w')
    (hr : AtRow w' sa' ((dclL ts k sd S0 (P.take q)).1 ++ [⟨P[q], mnF ts k P[q]⟩])) : Lp3 W1 w' ts k sd S0 P (q + 1) sa' (ns + 1) (dclS S P[q] (mnF ts k P[q])) := by
  have e : dclL ts k sd S0 (P.take (q + 1)) = ((dclL ts k sd S0 (P.take q)).1 ++ [⟨P[q], mnF ts k P[q]⟩], dclS (dclL ts k sd S0 (P.take q)).2 P[q] (mnF ts k P[q])) := by
    rw [dclL_next hq]
    unfold dclF
    rw [if_neg (by rw [hs]; exact Bool.false_ne_true)]
  refine ⟨hb, by rw [e]; exact hr, ?_, ?_⟩
  · rw [e]
    show (_ ++ [_]).length = _
    rw [List.length_append, h.len]
    rfl
  · rw [e]
    show dclS _ _ _ = _
    rw [h.str]

/-- All that stands firm while a node is written. -/
structure CanX (b o cap : Nat) (ts : List Tk) (n k : Nat) (but : Int) (f : Nat) (sd : List At) (ns : Nat) (sa : Option Addr) (w W0 : World) (K : Int) (nm : ByteArray) (l : List At) (nA : Nat) (aa : Option Addr) (ca : Nat) (tx : ByteArray) : Prop where
  tree : TreeP ts
  sz : TksSz 1048576 ts
  len : ts.length = n
  kn : k < n
  nsl : sd.length = ns
  nsk : ns ≤ 10 * k
  na : l.length = nA
  na6 : nA ≤ 6
  tks : TkSz 1048576 ⟨K, nm, l, tx⟩
  node : nodeAt ts k = ⟨K, nm, l, tx⟩
  bel : Below w.heap.size w W0
  box : W0.heap[w.heap.size]? = some (.cells #[.int .i64 K, .string nm, .slice aa nA ca, .string tx] 42 (0, 0))
  row : TkRow W0 (some ⟨b, o, none⟩) ts
  ats : AtRow W0 aa l
  said : AtRow W0 sa sd
  ih : ∀ (j : Nat) (sd' : List At) (sa' : Option Addr) (sc' : Nat) (wx : World), TkRow wx (some ⟨b, o, none⟩) ts → j < n → k < j → AtRow wx sa' sd' → sd'.length ≤ 10 * j → Calls Tryz.prog 78 #[.slice (some ⟨b, o, none⟩) n cap, .int .i64 (j : Int), .int .i64 but, .slice sa' sd'.length sc'] wx fun e w' => e = .returned (.string (canonN ts but f j sd')) ∧ Below wx.heap.size wx w'

section

variable {b o cap : Nat} {ts : List Tk} {n k : Nat} {but : Int} {f : Nat} {sd : List At} {ns : Nat} {sa : Option Addr} {w W0 : World} {K : Int} {nm : ByteArray} {l : List At} {nA : Nat} {aa : Option Addr} {ca : Nat} {tx : ByteArray}

theorem CanX.nms (X : CanX b o cap ts n k but f sd ns sa w W0 K nm l nA aa ca tx) : nm.size ≤ 1048576 := X.tks.1

theorem CanX.asz (X : CanX b o cap ts n k but f sd ns sa w W0 K nm l nA aa ca tx) : AtSz 1048576 l := X.tks.2.2.1

theorem CanX.n50 (X : CanX b o cap ts n k but f sd ns sa w W0 K nm l nA aa ca tx) : n ≤ 50 := by rw [← X.len]; exact X.tree.2.1

theorem CanX.cm (X : CanX b o cap ts n k but f sd ns sa w W0 K nm l nA aa ca tx) (p : ByteArray) (wx : World) (hb : Below W0.heap.size W0 wx) (hp : p.size ≤ 1048576) :
    Calls Tryz.prog 80 #[.slice (some ⟨b, o, none⟩) n cap, .int .i64 (k : Int), .string p] wx fun e w' => e = .returned (.tuple #[.string ((meanF ts k p).getD ⟨#[]⟩), .bool (meanF ts k p).isSome]) ∧ Below wx.heap.size wx w' := by
  have h50 := X.n50
  have hk := X.kn
  have h := c_spec_l9Meaning (some ⟨b, o, none⟩) cap ts k p wx (X.row.below hb) X.tree (by rw [X.len]; exact hk) (by rw [X.len]; omega) X.sz hp
  rw [X.len] at h
  exact h

theorem CanX.ck (X : CanX b o cap ts n k but f sd ns sa w W0 K nm l nA aa ca tx) (wx : World) (hb : Below W0.heap.size W0 wx) :
    Calls Tryz.prog 129 #[.slice (some ⟨b, o, none⟩) n cap, .int .i64 (k : Int)] wx fun e w' => ∃ v, e = .returned v ∧ w'.ownsRow wx.heap.size 2 1 v (kidsN ts k).length (intC (kidsN ts k)) ∧ Below wx.heap.size wx w' := by
  have h50 := X.n50
  have hk := X.kn
  have h := cKidsS (some ⟨b, o, none⟩) cap ts k wx (X.row.below hb) (by rw [X.len]; exact hk) (by rw [X.len]; omega)
  rw [X.len] at h
  exact h

theorem CanX.ca' (X : CanX b o cap ts n k but f sd ns sa w W0 K nm l nA aa ca tx) (x y : At) (wx : World) (hb : Below W0.heap.size W0 wx) (hx : x.name.size ≤ 1048576) (hy : y.name.size ≤ 1048576) :
    Calls Tryz.prog 126 #[.slice (some ⟨b, o, none⟩) n cap, .int .i64 (k : Int), .agg #[.string x.name, .string x.value], .agg #[.string y.name, .string y.value]] wx fun e w' => e = .returned (.bool (aheadF ts k x y)) ∧ Below wx.heap.size wx w' := by
  have h50 := X.n50
  have hk := X.kn
  have h := c_spec_l11Ahead (some ⟨b, o, none⟩) cap ts k x y wx (X.row.below hb) X.tree (by rw [X.len]; exact hk) (by rw [X.len]; omega) X.sz hx hy
  rw [X.len] at h
  exact h

theorem CanX.cells (X : CanX b o cap ts n k but f sd ns sa w W0 K nm l nA aa ca tx) {wx : World} (hb : Below W0.heap.size W0 wx) : wx.cell? ⟨w.heap.size, 1, none⟩ = some (.string nm) ∧ wx.cell? ⟨w.heap.size, 2, none⟩ = some (.slice aa nA ca) := ⟨(box4_at X.box hb).2.1, (box4_at X.box hb).2.2.1⟩

end

theorem infoSd : (Tryz.prog.info? 162).map (fun i => (i.zero, i.size, i.bytes)) = some (some (.agg #[.string ⟨#[]⟩, .string ⟨#[]⟩]), 2, 32) := by kernel_rfl

/-- As the program asks it. -/
theorem skip_is (sd : List At) (p m : ByteArray) : skipB sd p m = (((lastF sd p).isSome && (((lastF sd p).getD ⟨#[]⟩).toList == m.toList)) || ((!(lastF sd p).isSome && p.toList.isEmpty) && m.toList.isEmpty)) := by
  unfold skipB
  rw [empty_is, empty_is, str_beq]
  cases lastF sd p with
  | none => simp
  | some x => simp

theorem sl_fromA (b o L cap k : Nat) (h : k ≤ L) (hL : L ≤ cap) (W : World) : (Instr.slice 40 (.slice (some ⟨b, o, none⟩) L cap) (some (.int .i64 k)) none none).run Tryz.prog W = .ok (.slice (some (if cap = k then ⟨b, o, none⟩ else ⟨b, o + k * 2, none⟩)) (L - k) (cap - k)) W := by
  have h' : (k : Int) ≤ L := by omega
  have h2 : (L : Int) ≤ cap := by omega
  go_simp
  by_cases e : cap = k <;> simp [e, Addr.add]

theorem sl_uptoA (b o L cap k : Nat) (h : k ≤ L) (hL : L ≤ cap) (W : World) : (Instr.slice 40 (.slice (some ⟨b, o, none⟩) L cap) none (some (.int .i64 k)) none).run Tryz.prog W = .ok (.slice (some ⟨b, o, none⟩) k cap) W := by
  have h' : (k : Int) ≤ L := by omega
  have h2 : (k : Int) ≤ cap := by omega
  have h3 : ¬ cap < k := by omega
  go_simp

/-- Ahead of the first loop. -/
theorem start_lp {W0 w1 : World} {ts : List Tk} {k : Nat} {nm : ByteArray} {l : List At} (hb : Below W0.heap.size W0 w1) : Lp2 W0 ((w1.alloc (.cells #[.string (preS nm)] 9)).alloc (.cells #[] 114)) ts k nm l 0 (.slice (some ⟨w1.heap.size, 0, none⟩) 1 1) (.slice (some ⟨w1.heap.size + 1, 0, none⟩) 0 0) 1 0 := by
  have HL1 := (Below.refl w1.heap.size w1).alloc (Nat.le_refl _) (.cells #[.string (preS nm)] 9)
  have HL2 := HL1.alloc HL1.size (.cells #[] 114)
  have HP2 := (Rd.new w1 9 1 [.string (preS nm)] 1 rfl).below ((Below.refl _ _).alloc (Nat.le_refl _) (.cells #[] 114))
  have HO2 := Rd.own (own_new (w1.alloc (.cells #[.string (preS nm)] 9)) 114 2)
  have eh : (w1.alloc (.cells #[.string (preS nm)] 9)).heap.size = w1.heap.size + 1 := by simp
  rw [eh] at HO2
  exact ⟨bb hb HL2, HP2, HO2, Nat.zero_le _, rfl, rfl⟩

set_option maxRecDepth 8000 in
set_option maxHeartbeats 16000000 in
theorem canon_el {b o cap : Nat} {ts : List Tk} {n k : Nat} {but : Int} {f : Nat} {sd : List At} {ns : Nat} {sa : Option Addr} {sc : Nat} {w W0 : World} {K : Int} {nm : ByteArray} {l : List At} {nA : Nat} {aa : Option Addr} {ca : Nat} {tx : ByteArray}
    (X : CanX b o cap ts n k but f sd ns sa w W0 K nm l nA aa ca tx) (hW0 : w.alloc (.cells #[.int .i64 K, .string nm, .slice aa nA ca, .string tx] 42) = W0) (q0 : w.cell? ⟨b, o + k * 4, none⟩ = some (.int .i64 K)) (q1 : w.cell? ⟨b, o + k * 4 + 1, none⟩ = some (.string nm)) (q2 : w.cell? ⟨b, o + k * 4 + 2, none⟩ = some (.slice aa nA ca)) (q3 : w.cell? ⟨b, o + k * 4 + 3, none⟩ = some (.string tx))
    (hbb : ((k : Int) == but) = false) (hne : nm.toList.isEmpty = false) (R : ByteArray) (HF : Hid (R = (((kidsN ts k).foldl (fun s j => s ++ canonN ts but f j (saidL ts k sd ⟨K, nm, l, tx⟩)) (headS ts k sd ⟨K, nm, l, tx⟩) ++ ⟨#[60, 47]⟩) ++ nm) ++ ⟨#[62]⟩)) :
    Calls Tryz.prog 78 #[.slice (some ⟨b, o, none⟩) n cap, .int .i64 (k : Int), .int .i64 but, .slice sa ns sc] w fun e w' => e = .returned (.string R) ∧ Below w.heap.size w w' := by
  have hkn : (k : Int) < (n : Int) := by have := X.kn; omega
  obtain ⟨c1, c2⟩ := X.cells (Below.refl _ W0)
  have CP := hid (cPartsX nm W0 X.nms)
  have hna6 := X.na6
  have XX := hid X
  clear X
  go_enter Tryz.func78, Tryz.ntmps78
  go_wp2_with fail
  refine CP.out.mono ?_
  rintro e w1 ⟨rfl, hb1⟩
  have HX := hid (start_lp (ts := ts) (k := k) (nm := nm) (l := l) hb1)
  clear hb1 CP c1 c2 q0 q1 q2 q3 hW0 hbb hne
  go_wp2_with fail
  go_loopw [12, 13, 14] (fun v12 v13 x wr => ∃ i np m pb po pc ob oo oc : Nat, x = .int .i64 (i : Int) ∧ v12 = .slice (some ⟨pb, po, none⟩) np pc ∧ v13 = .slice (some ⟨ob, oo, none⟩) m oc ∧ Hid (Lp2 W0 wr ts k nm l i (.slice (some ⟨pb, po, none⟩) np pc) (.slice (some ⟨ob, oo, none⟩) m oc) np m)) (fun _ _ x _ => nA - (intOf x).toNat)
  case atStart => exact ⟨0, 1, 0, _, _, _, _, _, _, rfl, rfl, rfl, HX.out⟩
  case round =>
    clear HX
    obtain ⟨i, np, m, pb, po, pc, ob, oo, oc, rfl, rfl, rfl, ST⟩ := hrel
    obtain ⟨d1, d2⟩ := XX.out.cells ST.out.bel
    have hi : i ≤ nA := by rw [← XX.out.na]; exact ST.out.hi
    by_cases hlt : i < nA
    case neg =>
      have hie : i = nA := by omega
      obtain ⟨W1, hW1⟩ : ∃ W, W = wr := ⟨_, rfl⟩
      subst hW1
      have hall : l.take i = l := List.take_of_length_le (by rw [XX.out.na]; omega)
      have hfew := ST.out.few XX.out.asz XX.out.nms
      have HP := hid ST.out.ps
      have HO := hid ST.out.oth
      have HNP := hid ST.out.hnp
      have HNM := hid ST.out.hm
      have HB1 := hid ST.out.bel
      rw [hall] at HP HO HNP HNM hfew
      have HFW := hid hfew.2.2
      obtain ⟨hnp6, hm6, -, -⟩ := hfew
      have hS0 : nm.size ≤ 1048576 := XX.out.nms
      obtain ⟨S0, hS0e⟩ : ∃ S0, (⟨#[60]⟩ : ByteArray) ++ nm = S0 := ⟨_, rfl⟩
      have HS0 := hid hS0e
      have hs0 : S0.size = 1 + nm.size := by rw [← hS0e, ByteArray.size_append]; rfl
      have HX := hid (Lp3.start (ts := ts) (k := k) (S0 := S0) (P := preL7 nm l) (XX.out.said.below HB1.out) XX.out.nsl (Below.refl W1.heap.size W1))
      have hinn : ¬ (i : Int) < (nA : Int) := by omega
      have hnp7 : np ≤ 7 := by omega
      have hm7 : m ≤ 6 := by omega
      clear hall ST hie hlt hi hnp6 hm6
      go_wp2_with fail
      clear d1 d2 hS0e hinn
      go_loopw [3, 21, 22] (fun v3 s x wr => ∃ (q ns' sc' : Nat) (sa' : Option Addr) (S : ByteArray), x = .int .i64 (q : Int) ∧ v3 = .slice sa' ns' sc' ∧ s = .string S ∧ q ≤ np ∧ Hid (Lp3 W1 wr ts k sd S0 (preL7 nm l) q sa' ns' S)) (fun _ _ x _ => np - (intOf x).toNat)
      case atStart => exact ⟨0, ns, sc, sa, S0, rfl, rfl, rfl, Nat.zero_le _, HX.out⟩
      case round =>
        clear HX
        obtain ⟨q, ns', sc', sa', S, rfl, rfl, rfl, hq, T3⟩ := hrel
        by_cases hqn : q < np
        case neg =>
          have hall : (preL7 nm l).take q = preL7 nm l := List.take_of_length_le (by rw [HNP.out]; omega)
          obtain ⟨hns6, hS6⟩ := T3.out.few XX.out.sz HFW.out.1
          have HSA := hid (And.intro T3.out.said T3.out.len)
          have HST := hid T3.out.str
          rw [hall, ← HS0.out] at HSA HST
          have HSA := hid (show AtRow wr sa' (saidL ts k sd ⟨K, nm, l, tx⟩) ∧ (saidL ts k sd ⟨K, nm, l, tx⟩).length = ns' from HSA.out)
          have HSD := hid (show headS ts k sd ⟨K, nm, l, tx⟩ = atsS (othL ts k l) S ++ ⟨#[62]⟩ by rw [← HST.out]; rfl)
          have HB3 := hid (bb HB1.out T3.out.bel)
          have HOW := hid (HO.out.below T3.out.bel)
          obtain ⟨W3, hW3⟩ : ∃ W, W = wr := ⟨_, rfl⟩
          subst hW3
          have hqq : ¬ (q : Int) < (np : Int) := by omega
          have hSz : S.size ≤ 16000000 := by omega
          have hnsk : ns' ≤ 10 * k + 7 := by have := XX.out.nsk; have := XX.out.nsl; omega
          clear hall T3 HST HP HO HNP HB1 hqn hq hS6 hns6 hs0 hS0
          go_wp2_with fail
          clear hqq
          go_loopw [21, 28] (fun s x wr => ∃ (r : Nat) (S' : ByteArray), x = .int .i64 (r : Int) ∧ s = .string S' ∧ r ≤ m ∧ S'.size ≤ 16000000 + 8000000 * r ∧ Hid (S' = atsS ((othL ts k l).take r) S ∧ Below W3.heap.size W3 wr)) (fun _ x _ => m - (intOf x).toNat)
          case atStart => exact ⟨0, S, rfl, rfl, Nat.zero_le _, by omega, by rw [List.take_zero]; rfl, Below.refl _ _⟩
          case round =>
            obtain ⟨r, S', rfl, rfl, hr, hS', T4⟩ := hrel
            by_cases hrm : r < m
            · have hrl : r < (othL ts k l).length := by rw [HNM.out]; exact hrm
              have hri : (r : Int) < (m : Int) := by omega
              have HOR := hid (HOW.out.below T4.out.2)
              obtain ⟨ob2, oo2, oc2, eo2, hob2, _, x1, x2⟩ := HOR.out.pair hrl
              obtain ⟨rfl, rfl⟩ : ob = ob2 ∧ oo = oo2 := by cases eo2; exact ⟨rfl, rfl⟩
              obtain ⟨z1, z2⟩ := XX.out.asz _ (HFW.out.2 _ (List.getElem_mem hrl))
              have CL := hid (cL7Attr (othL ts k l)[r] wr z1 z2)
              have hat := atS_size (othL ts k l)[r]
              have hat2 : (atS (othL ts k l)[r]).size ≤ 8000000 := by omega
              have HSN := hid (show S' ++ atS (othL ts k l)[r] = atsS ((othL ts k l).take (r + 1)) S by rw [take_snocN hrl, atsS_snoc, ← T4.out.1])
              generalize atS (othL ts k l)[r] = AS at *
              generalize (othL ts k l)[r].name = xn at *
              generalize (othL ts k l)[r].value = xv at *
              clear eo2 hob2 HOR hat z1 z2
              go_wp2_with fail
              refine CL.out.mono ?_
              rintro e w2 ⟨rfl, hb2⟩
              have HBN := hid (bb T4.out.2 hb2)
              have hsz : (S' ++ AS).size ≤ 16000000 + 8000000 * (r + 1) := by rw [ByteArray.size_append]; omega
              have HSZ := hid hsz
              clear hb2 CL x1 x2 hsz
              go_wp2_with fail
              go_roundw
              case rel => exact ⟨r + 1, S' ++ AS, by go_num, rfl, by omega, HSZ.out, HSN.out, HBN.out⟩
              case measure => simp [intOf]; omega
            · have hre : r = m := by omega
              have HHD := hid (show S' ++ ⟨#[62]⟩ = headS ts k sd ⟨K, nm, l, tx⟩ by
                rw [HSD.out, T4.out.1, List.take_of_length_le (by rw [HNM.out, hre]; exact Nat.le_refl _)])
              have hrr : ¬ (r : Int) < (m : Int) := by omega
              have hS7 : S'.size ≤ 64000000 := by omega
              have CK := hid (XX.out.ck wr (bb HB3.out T4.out.2))
              have HB4 := hid (bb HB3.out T4.out.2)
              have HA4 := hid (And.intro (HSA.out.1.below T4.out.2) HSA.out.2)
              clear hre hrm hr hS' T4 HSD HSA HB3 HOW HFW HNM HS0
              go_wp2_with fail
              refine CK.out.mono ?_
              rintro e w5 ⟨v5, rfl, hk5, hb5⟩
              obtain ⟨⟨ka, kc, hv5⟩, _⟩ := row64 hk5
              have HK5 := hid hk5
              have HB5 := hid (bb HB4.out hb5)
              have HA5 := hid (And.intro (HA4.out.1.below hb5) HA4.out.2)
              have HKL := hid (show ∀ j ∈ kidsN ts k, j < n from fun j hj => by rw [← XX.out.len]; exact kidsN_lt hj)
              have HKG := hid (show ∀ j ∈ kidsN ts k, k < j from fun j hj => by
                have := (List.mem_filter.1 hj).2
                simp only [Bool.and_eq_true, decide_eq_true_eq] at this
                exact this.1)
              have hkl : (kidsN ts k).length ≤ 50 := by
                have := kidsTo_len ts k ts.length
                have h2 : ts.length ≤ 50 := by rw [XX.out.len]; exact XX.out.n50
                unfold kidsN
                omega
              obtain ⟨H0, hH0⟩ : ∃ H, S' ++ (⟨#[62]⟩ : ByteArray) = H := ⟨_, rfl⟩
              have hH0s : H0.size ≤ 65000000 := by
                rw [← hH0, ByteArray.size_append]
                have : (⟨#[62]⟩ : ByteArray).size = 1 := rfl
                omega
              have HH0 := hid (show H0 = headS ts k sd ⟨K, nm, l, tx⟩ by rw [← hH0]; exact HHD.out)
              rw [← HH0.out] at HF
              subst hv5
              simp only [hH0]
              obtain ⟨SDF, hSDF⟩ : ∃ SDF, saidL ts k sd ⟨K, nm, l, tx⟩ = SDF := ⟨_, rfl⟩
              rw [hSDF] at HF HA5
              have CIH := hid (fun (j : Nat) (wx : World) (hb : Below w5.heap.size w5 wx) (hj : j ∈ kidsN ts k) => XX.out.ih j SDF sa' sc' wx (XX.out.row.below (bb HB5.out hb)) (HKL.out j hj) (HKG.out j hj) (HA5.out.1.below hb) (by rw [HA5.out.2]; have := HKG.out j hj; omega))
              rw [HA5.out.2] at CIH
              have HCS := hid (fun (j : Nat) (hj : j ∈ kidsN ts k) => canon_size XX.out.tree XX.out.sz but f j SDF (by rw [XX.out.len]; exact HKL.out j hj))
              have HFS := hid (fun (r : Nat) => kids_size XX.out.tree XX.out.sz but f SDF ((kidsN ts k).take r) (fun j hj => by rw [XX.out.len]; exact HKL.out j (List.mem_of_mem_take hj)) (Nat.le_trans (List.length_take_le' _ _) hkl) H0)
              obtain ⟨nk, hnk⟩ : ∃ nk, (kidsN ts k).length = nk := ⟨_, rfl⟩
              have HNK := hid hnk
              rw [hnk] at hkl HK5 ⊢
              clear hb5 hk5 CK HB4 HA4 HHD hrr hS7 hnk hH0 HKG hSDF
              go_wp2_with fail
              go_loopw [21, 30] (fun s x wr => ∃ (r : Nat) (S' : ByteArray), x = .int .i64 (r : Int) ∧ s = .string S' ∧ r ≤ nk ∧ Hid (S' = ((kidsN ts k).take r).foldl (fun s j => s ++ canonN ts but f j SDF) H0 ∧ Below w5.heap.size w5 wr)) (fun _ x _ => nk - (intOf x).toNat)
              case atStart => exact ⟨0, H0, rfl, rfl, Nat.zero_le _, by rw [List.take_zero]; rfl, Below.refl _ _⟩
              case round =>
                obtain ⟨r, S', rfl, rfl, hr, T5⟩ := hrel
                have hS' : S'.size ≤ 65000000 + 3500000000 * r := by
                  have h := HFS.out r
                  rw [← T5.out.1] at h
                  have hl : ((kidsN ts k).take r).length ≤ r := List.length_take_le _ _
                  have h3 : 3500000000 * ((kidsN ts k).take r).length ≤ 3500000000 * r := Nat.mul_le_mul_left _ hl
                  omega
                by_cases hrk : r < nk
                · have hrl : r < (kidsN ts k).length := by rw [HNK.out]; exact hrk
                  have hri : (r : Int) < (nk : Int) := by omega
                  obtain ⟨g5, c5, eg, hg5, x1⟩ := (row64 (show w5.ownsRow _ 2 1 (.slice ka nk kc) (kidsN ts k).length (intC (kidsN ts k)) by rw [HNK.out]; exact HK5.out)).2 r hrl
                  rw [HNK.out] at eg
                  obtain ⟨rfl, rfl⟩ : ka = some ⟨g5, 0, none⟩ ∧ kc = c5 := by cases eg; exact ⟨rfl, rfl⟩
                  have y1 := (T5.out.2.cell (p := ⟨g5, r, none⟩) hg5).trans x1
                  have hmem := List.getElem_mem hrl
                  have CI := hid (CIH.out (kidsN ts k)[r] wr T5.out.2 hmem)
                  have hcs : (canonN ts but f (kidsN ts k)[r] SDF).size ≤ 3500000000 := by
                    have h1 := HCS.out _ hmem
                    have h2 := endN_le (ts := ts) (k := (kidsN ts k)[r]) (by rw [XX.out.len]; exact HKL.out _ hmem)
                    have h3 : ts.length ≤ 50 := by rw [XX.out.len]; exact XX.out.n50
                    have h4 : 70000000 * (endN ts (kidsN ts k)[r] - (kidsN ts k)[r]) ≤ 70000000 * 50 := Nat.mul_le_mul_left _ (by omega)
                    omega
                  have HSN := hid (show S' ++ canonN ts but f (kidsN ts k)[r] SDF = ((kidsN ts k).take (r + 1)).foldl (fun s j => s ++ canonN ts but f j SDF) H0 by rw [take_snocN hrl, List.foldl_append, ← T5.out.1]; rfl)
                  generalize canonN ts but f (kidsN ts k)[r] SDF = CN at *
                  generalize (kidsN ts k)[r] = jj at *
                  clear eg x1 hg5 hmem
                  go_wp2_with fail
                  refine CI.out.mono ?_
                  rintro e w2 ⟨rfl, hb2⟩
                  have HBN := hid (bb T5.out.2 hb2)
                  clear hb2 CI y1
                  go_wp2_with fail
                  go_roundw
                  case rel => exact ⟨r + 1, S' ++ CN, by go_num, rfl, by omega, HSN.out, HBN.out⟩
                  case measure => simp [intOf]; omega
                · have hre : r = nk := by omega
                  have hrr : ¬ (r : Int) < (nk : Int) := by omega
                  have HFIN := hid (show R = ((S' ++ ⟨#[60, 47]⟩) ++ nm) ++ ⟨#[62]⟩ by rw [HF.out, T5.out.1, List.take_of_length_le (by rw [HNK.out, hre]; exact Nat.le_refl _)])
                  obtain ⟨d1, d2⟩ := XX.out.cells (bb HB5.out T5.out.2)
                  have HBF := hid (bb XX.out.bel (bb HB5.out T5.out.2))
                  have hnm8 : nm.size ≤ 1048576 := XX.out.nms
                  clear hre hrk T5 HF HCS HFS CIH HK5 HA5
                  go_wp2_with fail
                  go_ret
                  exact ⟨by rw [HFIN.out]; rfl, HBF.out⟩
        have hqP : q < (preL7 nm l).length := by rw [HNP.out]; exact hqn
        have hqi : (q : Int) < (np : Int) := by omega
        have HPQ := hid (HP.out.below T3.out.bel)
        obtain ⟨pb2, po2, pc2, ep2, hpb2, _, x1⟩ := HPQ.out.key hqP
        obtain ⟨rfl, rfl⟩ : pb = pb2 ∧ po = po2 := by cases ep2; exact ⟨rfl, rfl⟩
        have hpz : (preL7 nm l)[q].size ≤ 1048576 := HFW.out.1 _ (List.getElem_mem hqP)
        have CMN := hid (XX.out.cm (preL7 nm l)[q] wr (bb HB1.out T3.out.bel) hpz)
        obtain ⟨hns6, hS6⟩ := T3.out.few XX.out.sz HFW.out.1
        have CLL := hid (fun wx (hb : Below wr.heap.size wr wx) => c_spec_l11Last sa' sc' (dclL ts k sd S0 ((preL7 nm l).take q)).1 (preL7 nm l)[q] wx (T3.out.said.below hb) (by rw [T3.out.len]; have := XX.out.nsk; have := XX.out.nsl; have := XX.out.kn; have := XX.out.n50; omega))
        rw [T3.out.len] at CLL
        have hmz : ((meanF ts k (preL7 nm l)[q]).getD ⟨#[]⟩).size ≤ 1048576 := meanF_sz XX.out.sz _
        have HSK := hid (show skipB (dclL ts k sd S0 ((preL7 nm l).take q)).1 (preL7 nm l)[q] (mnF ts k (preL7 nm l)[q]) = _ from skip_is _ _ _)
        have HMN := hid (show mnF ts k (preL7 nm l)[q] = (meanF ts k (preL7 nm l)[q]).getD ⟨#[]⟩ from rfl)
        have HT3S := hid (fun wx (hb : Below wr.heap.size wr wx) h => (T3.out.below hb).skip hqP h)
        have HT3N := hid (fun wx sax h (hb : Below W1.heap.size W1 wx) hr => T3.out.next (w' := wx) (sa' := sax) hqP h hb hr)
        rw [HMN.out] at HSK HT3S HT3N
        have HSA := hid (And.intro T3.out.said T3.out.len)
        generalize (dclL ts k sd S0 ((preL7 nm l).take q)).1 = SD at *
        generalize (preL7 nm l)[q] = p at *
        generalize (meanF ts k p).getD ⟨#[]⟩ = M at *
        generalize (meanF ts k p).isSome = MI at *
        generalize (lastF SD p).isSome = LI at *
        generalize (lastF SD p).getD ⟨#[]⟩ = LV at *
        have HEP := hid (empty_is p)
        obtain ⟨BE, hBE⟩ : ∃ B, (LV.toList == M.toList) = B := ⟨_, rfl⟩
        obtain ⟨BP, hBP⟩ : ∃ B, p.toList.isEmpty = B := ⟨_, rfl⟩
        obtain ⟨BM, hBM⟩ : ∃ B, M.toList.isEmpty = B := ⟨_, rfl⟩
        rw [hBE, hBP, hBM] at HSK
        rw [hBP] at HEP
        obtain ⟨SK, hSK⟩ : ∃ B, skipB SD p M = B := ⟨_, rfl⟩
        rw [hSK] at HSK HT3S HT3N
        have HSD := hid T3.out
        have HLN := hid (show ns' ≤ 600 by have := XX.out.nsk; have := XX.out.nsl; have := XX.out.kn; have := XX.out.n50; omega)
        have hns7 := HLN.out
        have HPZ := hid hpz
        clear hSK ep2 hpz hns6 HMN HPQ
        go_wp2_with fail
        refine CMN.out.mono ?_
        rintro e w2 ⟨rfl, hb2⟩
        have HB2 := hid hb2
        have y1 := (hb2.cell (p := ⟨pb, po + q, none⟩) hpb2).trans x1
        have CL2 := hid (CLL.out _ hb2)
        have hpb3 := Nat.lt_of_lt_of_le hpb2 hb2.size
        clear hb2 CMN x1 CLL hpb2
        go_wp2_with fail
        refine CL2.out.mono ?_
        rintro e w3 ⟨rfl, hb3⟩
        have HB3 := hid (bb HB2.out hb3)
        have z1 := (hb3.cell (p := ⟨pb, po + q, none⟩) hpb3).trans y1
        have HPB := hid (Nat.lt_of_lt_of_le hpb3 hb3.size)
        clear hb3 CL2 y1 HB2 hpb3
        go_upto_region 28 with fail
        go_cut [173] from 128 to 202 (fun c wv => c = .bool SK ∧ wv = w3)
        case first =>
          cases LI with
          | true =>
            cases BE with
            | true =>
              go_wp2_with fail
              go_meet
              exact ⟨by rw [HSK.out]; rfl, rfl⟩
            | false =>
              go_wp2_with fail
              go_meet
              exact ⟨by rw [HSK.out]; rfl, rfl⟩
          | false =>
            cases BP with
            | false =>
              go_wp2_with fail
              go_meet
              exact ⟨by rw [HSK.out]; rfl, rfl⟩
            | true =>
              cases BM with
              | true =>
                go_wp2_with fail
                go_meet
                exact ⟨by rw [HSK.out]; rfl, rfl⟩
              | false =>
                go_wp2_with fail
                go_meet
                exact ⟨by rw [HSK.out]; rfl, rfl⟩
        case rest =>
          obtain ⟨rfl, rfl⟩ := hcut
          clear hBE hBM HSK
          cases SK with
          | true =>
            have TN := hid (HT3S.out _ HB3.out (by trivial))
            clear HT3S HT3N HSD
            go_wp2_with fail
            go_roundw
            case rel => exact ⟨q + 1, ns', sc', sa', S, by go_num, rfl, rfl, by omega, TN.out⟩
            case measure => simp [intOf]; omega
          | false =>
            obtain ⟨i0, iI, hz0, hz1, hz2⟩ := info_parts infoSd
            obtain ⟨w5, hw5e⟩ : ∃ W, W = wc := ⟨_, rfl⟩
            subst hw5e
            have HU7 := hid (AtRow.sr (c := sc') (HSA.out.1.below HB3.out) HSA.out.2)
            have hw5 : (w5.alloc (.cells #[] 162)).heap.size = w5.heap.size + 1 := by simp
            have hw6 : (w5.alloc (.cells #[.string p, .string M] 162)).heap.size = w5.heap.size + 1 := by simp
            have KP := hid (show ∀ wx, Below w5.heap.size w5 wx → wx.cell? ⟨pb, po + q, none⟩ = some (.string p) from fun wx hb => (hb.cell (p := ⟨pb, po + q, none⟩) HPB.out).trans z1)
            have B0 := hid ((Below.refl w5.heap.size w5).drew)
            have B1 := hid (((Below.refl w5.heap.size w5).alloc (Nat.le_refl _) (.cells #[] 162)).drew)
            have B2 := hid ((((Below.refl w5.heap.size w5).alloc (Nat.le_refl _) (.cells #[] 162)).alloc (by simp) (.cells #[.string p, .string M] 162)).drew)
            have B3 := hid (((Below.refl w5.heap.size w5).alloc (Nat.le_refl _) (.cells #[.string p, .string M] 162)).drew)
            have B4 := hid ((((Below.refl w5.heap.size w5).alloc (Nat.le_refl _) (.cells #[.string p, .string M] 162)).alloc (by simp) (.cells #[] 162)).drew)
            have F1 := hid (show ((w5.alloc (.cells #[] 162)).drew).ownsRow w5.heap.size 162 2 (.slice (some ⟨w5.heap.size, 0, none⟩) 0 0) 0 [] from own_new w5 162 2)
            have F2 := hid (show (((w5.alloc (.cells #[] 162)).alloc (.cells #[.string p, .string M] 162)).drew).ownsRow w5.heap.size 162 2 (.slice (some ⟨w5.heap.size, 0, none⟩) 0 0) 0 [] from (own_new w5 162 2).alloc (.cells #[.string p, .string M] 162))
            have F3 := hid (show (((w5.alloc (.cells #[.string p, .string M] 162)).alloc (.cells #[] 162)).drew).ownsRow w5.heap.size 162 2 (.slice (some ⟨w5.heap.size + 1, 0, none⟩) 0 0) 0 [] from by have h := own_base (own_new (w5.alloc (.cells #[.string p, .string M] 162)) 162 2) (show w5.heap.size ≤ (w5.alloc (.cells #[.string p, .string M] 162)).heap.size by simp); rw [hw6] at h; exact h)
            have X2 := hid (show Rd (((w5.alloc (.cells #[] 162)).alloc (.cells #[.string p, .string M] 162)).drew) 2 (.slice (some ⟨w5.heap.size + 1, 0, none⟩) 1 1) 1 (atC [⟨p, M⟩]) from by have h := Rd.new (w5.alloc (.cells #[] 162)) 162 2 (atC [⟨p, M⟩]) 1 rfl; rw [hw5] at h; exact ⟨h.at_, h.len⟩)
            have X3 := hid (show Rd (((w5.alloc (.cells #[.string p, .string M] 162)).alloc (.cells #[] 162)).drew) 2 (.slice (some ⟨w5.heap.size, 0, none⟩) 1 1) 1 (atC [⟨p, M⟩]) from by have h := (Rd.new w5 162 2 (atC [⟨p, M⟩]) 1 rfl).below ((Below.refl _ _).alloc (Nat.le_refl _) (.cells #[] 162)); exact ⟨h.at_, h.len⟩)
            have K0 := hid (KP.out _ B0.out)
            have K1 := hid (KP.out _ B1.out)
            have K2 := hid (KP.out _ B2.out)
            have K3 := hid (KP.out _ B3.out)
            have K4 := hid (KP.out _ B4.out)
            have HBc := B0
            clear hw5 hw6 z1 HT3S
            go_wp2_with fail
            go_region_held3 (fun w' => w'.cell? ⟨pb, po + q, none⟩ = some (.string p)) (first | with_reducible exact K0.out | with_reducible exact K1.out | with_reducible exact K2.out | with_reducible exact K3.out | with_reducible exact K4.out | with_reducible exact KP.out _ HBc.out | with_reducible exact KP.out _ (HBc.out.alloc HBc.out.size _))
              (first
                | (refine step_src rfl (.tmp 174) (.tmp 175) 157 rfl 162 i0 _ 2 32 Tryz.underlying157 iI hz0 hz1 hz2 rfl (by decide) w5.heap.size w5.heap.size 0 0 ns' [] (atC SD) _ (by simp [Act.eval, Act.put]) (by simp [Act.eval, Act.put]) F1.out (HU7.out.below B1.out) (atC_cell _) (by omega) (by omega) B1.out.size ns' (by omega) (atC SD) rfl ?_; intro g6 c6 w6 ho6 hb6 hg6; have HO6 := hid ho6; replace HBc := hid (B1.out.trans hb6); clear ho6 hb6 hg6)
                | (refine step_src rfl (.tmp 174) (.tmp 175) 157 rfl 162 i0 _ 2 32 Tryz.underlying157 iI hz0 hz1 hz2 rfl (by decide) w5.heap.size w5.heap.size 0 0 ns' [] (atC SD) _ (by simp [Act.eval, Act.put]) (by simp [Act.eval, Act.put]) F2.out (HU7.out.below B2.out) (atC_cell _) (by omega) (by omega) B2.out.size ns' (by omega) (atC SD) rfl ?_; intro g6 c6 w6 ho6 hb6 hg6; have HO6 := hid ho6; have HX6 := hid (X2.out.grown hg6 (by omega)); replace HBc := hid (B2.out.trans hb6); clear ho6 hb6 hg6)
                | (refine step_src rfl (.tmp 174) (.tmp 175) 157 rfl 162 i0 _ 2 32 Tryz.underlying157 iI hz0 hz1 hz2 rfl (by decide) w5.heap.size (w5.heap.size + 1) 0 0 ns' [] (atC SD) _ (by simp [Act.eval, Act.put]) (by simp [Act.eval, Act.put]) F3.out (HU7.out.below B4.out) (atC_cell _) (by omega) (by omega) B4.out.size ns' (by omega) (atC SD) rfl ?_; intro g6 c6 w6 ho6 hb6 hg6; have HO6 := hid ho6; have HX6 := hid (X3.out.grown hg6 (by omega)); replace HBc := hid (B4.out.trans hb6); clear ho6 hb6 hg6)
                | (refine step_own rfl (.tmp 176) (.tmp 183) 157 rfl 162 i0 _ 2 32 Tryz.underlying157 iI hz0 hz1 hz2 rfl (by decide) w5.heap.size g6 c6 ns' 1 (atC SD) (atC [⟨p, M⟩]) _ (by simp [Act.eval, Act.put]) (by simp [Act.eval, Act.put]) HO6.out HX6.out (atC_cell _) (by omega) (by omega) HBc.out.size (ns' + 1) (by omega) (atC (SD ++ [⟨p, M⟩])) (by rw [atC_app]) ?_; intro g8 c8 w8 ho8 hb8 hg8; have HO8 := hid ho8; replace HBc := hid (HBc.out.trans hb8); clear ho8 hb8 hg8)
                | (refine step_own rfl (.tmp 176) (.tmp 183) 157 rfl 162 i0 _ 2 32 Tryz.underlying157 iI hz0 hz1 hz2 rfl (by decide) w5.heap.size g6 c6 ns' 1 (atC SD) (atC [⟨p, M⟩]) _ (by simp [Act.eval, Act.put]) (by simp [Act.eval, Act.put]) (HO6.out.alloc _) (Rd.new w6 162 2 (atC [⟨p, M⟩]) 1 rfl) (atC_cell _) (by omega) (by omega) (HBc.out.alloc HBc.out.size _).size (ns' + 1) (by omega) (atC (SD ++ [⟨p, M⟩])) (by rw [atC_app]) ?_; intro g8 c8 w8 ho8 hb8 hg8; have HO8 := hid ho8; replace HBc := hid ((HBc.out.alloc HBc.out.size (.cells #[.string p, .string M] 162)).trans hb8); clear ho8 hb8 hg8))
            all_goals (
              rename_i hHeld
              have HKK := hid hHeld
              have TN := hid (HT3N.out w8 (some ⟨g8, 0, none⟩) (by trivial) (bb (bb HSD.out.bel HB3.out) HBc.out) (Rd.own HO8.out).ats)
              have HND := hid (show nmD p = if BP = true then ⟨#[110, 115]⟩ else (⟨#[110, 115, 58]⟩ : ByteArray) ++ p by unfold nmD; rw [HEP.out]; by_cases h : p.size = 0 <;> simp [h])
              have HDS := hid (show dclS S p M = ((((S ++ (⟨#[32]⟩ : ByteArray)) ++ nmD p) ++ ⟨#[61, 34]⟩) ++ M) ++ ⟨#[34]⟩ from rfl)
              have hpz2 : p.size ≤ 1048576 := HPZ.out
              clear HO8 HO6 HBc B0 B1 B2 B3 B4 F1 F2 F3 X2 X3 K0 K1 K2 K3 K4 KP HU7 HB3 HT3N HSD HEP
              cases BP with
              | true =>
                have HNE := hid (show nmD p = ⟨#[110, 115]⟩ from HND.out)
                rw [HNE.out] at HDS
                go_wp2_with fail
                go_roundw
                case rel => exact ⟨q + 1, ns' + 1, c8, _, _, by go_num, rfl, by rw [← HDS.out], by omega, TN.out⟩
                case measure => (simp [intOf]; omega)
              | false =>
                have HNE := hid (show nmD p = (⟨#[110, 115, 58]⟩ : ByteArray) ++ p from HND.out)
                rw [HNE.out] at HDS
                go_wp2_with fail
                go_roundw
                case rel => exact ⟨q + 1, ns' + 1, c8, _, _, by go_num, rfl, by rw [← HDS.out], by omega, TN.out⟩
                case measure => (simp [intOf]; omega))
    have his : i < l.length := by rw [XX.out.na]; exact hlt
    have hin : (i : Int) < (nA : Int) := by omega
    clear HF
    obtain ⟨ab, ao, ea, hab, x1, x2⟩ := at_cells XX.out.ats ST.out.bel his
    have CD := hid (fun wx => c_spec_l9Declares l[i] wx (XX.out.asz _ (List.getElem_mem his)).1)
    subst ea
    cases hdc : (declF l[i]).isSome with
    | true =>
      have HSK := hid (fun wx (hb : Below wr.heap.size wr wx) => (ST.out.below hb).skip his hdc)
      rw [hdc] at CD
      clear hdc ST XX
      generalize (declF l[i]).getD ⟨#[]⟩ = DD at *
      generalize l[i].name = xn at *
      generalize l[i].value = xv at *
      go_wp2_with fail
      refine (CD.out _).mono ?_
      rintro e w2 ⟨rfl, hb2⟩
      have HX2 := hid (HSK.out _ hb2)
      clear hb2 CD HSK x1 x2 d1 d2
      go_wp2_with fail
      go_roundw
      case rel => exact ⟨i + 1, np, m, pb, po, pc, ob, oo, oc, by go_num, rfl, rfl, HX2.out⟩
      case measure => simp [intOf]; omega
    | false =>
      have CPX := hid (fun wx => cPartsX l[i].name wx (XX.out.asz _ (List.getElem_mem his)).1)
      have HDC := hid hdc
      have EP := empty_is (preS l[i].name)
      obtain ⟨P', hP'⟩ : ∃ P', accP (preL7 nm (l.take i)) l[i] = P' := ⟨_, rfl⟩
      have HPP := hid hP'
      obtain ⟨PX, hPX⟩ : ∃ PX, preS l[i].name = PX := ⟨_, rfl⟩
      have HPX := hid hPX
      rw [hPX] at CPX EP
      obtain ⟨T0, hT0⟩ : ∃ T0, decide (PX.size = 0) = T0 := ⟨_, rfl⟩
      have HT0 := hid hT0
      rw [hT0] at EP
      rw [hdc] at CD
      clear hdc hP' hPX hT0
      go_wp2_with fail
      refine (CD.out _).mono ?_
      rintro e w2 ⟨rfl, hb2⟩
      have ST2 := hid (ST.out.below hb2)
      obtain ⟨e1, e2⟩ := XX.out.cells ST2.out.bel
      have y1 := (hb2.cell (p := ⟨ab, ao + i * 2, none⟩) hab).trans x1
      clear hb2 CD x1 x2 d1 d2 ST hab
      go_wp2_with fail
      refine (CPX.out _).mono ?_
      rintro e w3 ⟨rfl, hb3⟩
      have ST3 := hid (ST2.out.below hb3)
      clear hb3 CPX y1 e1 e2 ST2
      go_upto_if 81 with fail
      go_cut [12] from 53 to 124 (fun v wv => ∃ pb' po' pc' : Nat, v = .slice (some ⟨pb', po', none⟩) P'.length pc' ∧ Hid (Rd wv 1 v P'.length (keyV P') ∧ Below w3.heap.size w3 wv))
      case first =>
        cases T0 with
        | true =>
          have HE := hid (show P' = preL7 nm (l.take i) by rw [← HPP.out]; exact accP_none HDC.out (by rw [HPX.out]; simpa using HT0.out))
          have HRP := hid (show Rd w3 1 (.slice (some ⟨pb, po, none⟩) np pc) np (keyV P') by rw [HE.out]; exact ST3.out.ps)
          have HLP := hid (show P'.length = np by rw [HE.out]; exact ST3.out.hnp)
          go_wp2_with fail
          go_meet
          exact ⟨pb, po, pc, by rw [HLP.out], by rw [HLP.out]; exact HRP.out, Below.refl _ _⟩
        | false =>
          have CPT := hid (c_spec_l11Put (preL7 nm (l.take i)) (.slice (some ⟨pb, po, none⟩) np pc) PX w3 (by rw [ST3.out.hnp]; exact ST3.out.ps) (by rw [ST3.out.hnp]; have := (ST3.out.few XX.out.asz XX.out.nms).1; omega))
          have HE := hid (show putS (preL7 nm (l.take i)) PX = P' by rw [← HPP.out, ← HPX.out]; exact (accP_put HDC.out (by rw [HPX.out]; simpa using HT0.out)).symm)
          rw [HE.out] at CPT
          go_wp2_with fail
          refine CPT.out.mono ?_
          rintro e w4 ⟨v4, rfl, hr4, hb4⟩
          obtain ⟨b4, o4, c4, ev, _⟩ := hr4.at_
          have HR4 := hid hr4
          have HB4 := hid hb4
          subst ev
          clear hr4 hb4
          go_wp2_with fail
          go_meet
          exact ⟨b4, o4, c4, rfl, HR4.out, HB4.out⟩
      case rest =>
        obtain ⟨pb', po', pc', rfl, HC⟩ := hcut
        obtain ⟨Wc, hWc⟩ : ∃ W, W = wc := ⟨_, rfl⟩
        subst hWc
        have ST4 := hid (ST3.out.below HC.out.2)
        have HPW := hid HC.out.1
        have hm6 := (ST4.out.few XX.out.asz XX.out.nms).2.1
        obtain ⟨J, hJ⟩ : ∃ J, insN ts k (othL ts k (l.take i)) l[i] = J := ⟨_, rfl⟩
        have HJ := hid hJ
        have hJm : J ≤ m := by
          rw [← hJ, ← ST4.out.hm]
          exact insN_le _ _ _ _
        clear HC hJ ST3 EP HT0 HPX T0
        go_wp2_with fail
        go_loopw [19] (fun y wr => ∃ j : Nat, y = .int .i64 (j : Int) ∧ j ≤ J ∧ Hid (Below Wc.heap.size Wc wr)) (fun y _ => J - (intOf y).toNat)
        case atStart => exact ⟨0, rfl, Nat.zero_le _, Below.refl _ _⟩
        case round =>
          obtain ⟨j, rfl, hj, HB2⟩ := hrel
          have ST5 := hid (ST4.out.below HB2.out)
          go_upto_region 18 with fail
          go_cut [103] from 85 to 105 (fun c wv => c = .bool (decide (j < J)) ∧ Hid (Below wr.heap.size wr wv))
          case first =>
            obtain ⟨d1, d2⟩ := XX.out.cells ST5.out.bel
            have HNB := hid (bw_any wr)
            by_cases hjm : j < m
            · have hjl : j < (othL ts k (l.take i)).length := by rw [ST5.out.hm]; exact hjm
              have hjn : decide ((j : Int) < (m : Int)) = true := by simp; omega
              have hjn2 : (j : Int) < (m : Int) := by omega
              obtain ⟨ab2, ao2, ea2, hab2, x1, x2⟩ := at_cells XX.out.ats ST5.out.bel his
              obtain ⟨rfl, rfl⟩ : ab = ab2 ∧ ao = ao2 := by cases ea2; exact ⟨rfl, rfl⟩
              obtain ⟨ob2, oo2, oc2, eo2, hob2, _, y1, y2⟩ := ST5.out.oth.pair hjl
              obtain ⟨rfl, rfl, rfl⟩ : ob = ob2 ∧ oo = oo2 ∧ oc = oc2 := by cases eo2; exact ⟨rfl, rfl, rfl⟩
              obtain ⟨f1, f2⟩ := pair_bw hab2 x1 x2
              obtain ⟨g1, g2⟩ := pair_bw hob2 y1 y2
              have hlw := lt_of_heap (blk_below XX.out.box ST5.out.bel)
              have k2 : ∀ p : BW wr, p.w.cell? ⟨w.heap.size, 2, none⟩ = some (.slice (some ⟨ab, ao, none⟩) nA ca) := fun p => (p.h.cell (p := ⟨w.heap.size, 2, none⟩) hlw).trans d2
              have hsz := (XX.out.asz _ (List.getElem_mem his)).1
              have hsy := (XX.out.asz _ ((ST5.out.few XX.out.asz XX.out.nms).2.2.2 _ (List.getElem_mem hjl))).1
              have CAA := hid (fun p : BW wr => XX.out.ca' l[i] (othL ts k (l.take i))[j] p.w (bb ST5.out.bel p.h) hsz hsy)
              have HAH := hid (show (!aheadF ts k l[i] (othL ts k (l.take i))[j]) = decide (j < J) by
                rcases Nat.lt_or_eq_of_le hj with h' | h'
                · rw [insN_low (by rw [HJ.out]; exact h') hjl, decide_eq_true h']; rfl
                · rw [insN_at (by rw [HJ.out]; exact h'.symm) hjl, decide_eq_false (by omega)]; rfl)
              generalize aheadF ts k l[i] (othL ts k (l.take i))[j] = AH at *
              generalize l[i].name = xn at *
              generalize l[i].value = xv at *
              generalize (othL ts k (l.take i))[j].name = yn at *
              generalize (othL ts k (l.take i))[j].value = yv at *
              clear x1 x2 y1 y2 ea2 eo2 hsz hsy d1 d2 hab2 hob2 hlw
              haveI := HNB.out
              refine wp_region_below (by kernel_rfl) (by kernel_rfl) (Below.refl wr.heap.size wr) ?_
              repeat (go_big_quiet_step ((go_at_call 126; exact calls_bw _ (CAA.out _))))
              refine wpQuiet_nil ?_
              intro _ hw'
              obtain ⟨⟨wq, hwq⟩, hw''⟩ := hw'
              subst hw''
              have HWQ := hid hwq
              clear hwq f1 f2 g1 g2 k2
              go_wp2_with fail
              go_meet
              exact ⟨by rw [← HAH.out], HWQ.out⟩
            · have hjn : decide ((j : Int) < (m : Int)) = false := by simp; omega
              have HJJ := hid (show decide (j < J) = false by simp; omega)
              clear d1 d2
              haveI := HNB.out
              refine wp_region_below (by kernel_rfl) (by kernel_rfl) (Below.refl wr.heap.size wr) ?_
              repeat (go_big_quiet_step (fail))
              refine wpQuiet_nil ?_
              intro _ hw'
              obtain ⟨⟨wq, hwq⟩, hw''⟩ := hw'
              subst hw''
              have HWQ := hid hwq
              clear hwq
              go_wp2_with fail
              go_meet
              exact ⟨by rw [HJJ.out], HWQ.out⟩
          case rest =>
            obtain ⟨rfl, HD⟩ := hcut
            by_cases hjJ : j < J
            · have HBN := hid (bb HB2.out HD.out)
              rw [decide_eq_true hjJ]
              clear HD HB2 ST5
              go_wp2_with fail
              go_roundw
              case rel => exact ⟨j + 1, by go_num, by omega, HBN.out⟩
              case measure => simp [intOf]; omega
            · rw [decide_eq_false hjJ]
              obtain rfl : J = j := by omega
              have ST6 := hid (ST5.out.below HD.out)
              have HP6 := hid ((HPW.out.below HB2.out).below HD.out)
              clear ST5 HD HB2 HPW ST4 hj hjJ
              obtain ⟨L, hL⟩ : ∃ L, othL ts k (l.take i) = L := ⟨_, rfl⟩
              have HL := hid hL
              have HOT := hid ST6.out.oth
              have hoc : m ≤ oc := by
                obtain ⟨_, _, _, eo, _, h, _⟩ := HOT.out.at_
                cases eo
                exact h
              rw [hL] at HOT
              have HML := hid (show L.length = m by rw [← hL]; exact ST6.out.hm)
              have HRF := hid (HOT.out.from hJm)
              have HRU := hid (HOT.out.upto hJm)
              rw [atC_drop] at HRF
              rw [atC_take] at HRU
              have hfr := sl_fromA ob oo m oc J hJm hoc
              have hup := sl_uptoA ob oo m oc J hJm hoc
              generalize (if oc = J then (⟨ob, oo, none⟩ : Addr) else ⟨ob, oo + J * 2, none⟩) = A1 at *
              obtain ⟨i0, iI, hz0, hz1, hz2⟩ := info_parts infoAtW
              have HB1 := hid ((Below.refl wc.heap.size wc).alloc (Nat.le_refl _) (.cells #[] 114))
              have HO1 := hid (own_new wc 114 2)
              have HF1 := hid (HRF.out.below HB1.out)
              clear hL HOT
              go_wp2_with (at_builtin; refine wpL_own _ rfl _ _ _ rfl 114 i0 _ 2 32 Tryz.underlying40 iI hz0 hz1 hz2 rfl (by decide) wc.heap.size wc.heap.size 0 0 (m - J) [] (atC (L.drop J)) _ rfl rfl HO1.out HF1.out (atC_cell _) (by omega) (by omega) HB1.out.size (m - J) (by omega) (atC (L.drop J)) rfl ?_)
              intro g5 c5 w5 ho5 hb5
              have HB5 := hid (HB1.out.trans hb5)
              have HRS := hid (Rd.own ho5)
              have ST7 := hid (ST6.out.below HB5.out)
              have HP7 := hid (HP6.out.below HB5.out)
              have HU7 := hid (HRU.out.below HB5.out)
              clear ho5 hb5 hfr HO1 HF1 HB1 HRF HRU ST6 HP6 HB5
              obtain ⟨xn, hxn⟩ : ∃ xn, l[i].name = xn := ⟨_, rfl⟩
              obtain ⟨xv, hxv⟩ : ∃ xv, l[i].value = xv := ⟨_, rfl⟩
              have HXN := hid (And.intro hxn hxv)
              have KP := hid (show ∀ wx, Below w5.heap.size w5 wx → wx.cell? ⟨w.heap.size, 2, none⟩ = some (.slice (some ⟨ab, ao, none⟩) nA ca) ∧ wx.cell? ⟨ab, ao + i * 2, none⟩ = some (.string xn) ∧ wx.cell? ⟨ab, ao + i * 2 + 1, none⟩ = some (.string xv) from fun wx hb => by
                have hB := bb ST7.out.bel hb
                obtain ⟨ab2, ao2, ea2, _, x1, x2⟩ := at_cells XX.out.ats hB his
                cases ea2
                rw [hxn] at x1
                rw [hxv] at x2
                exact ⟨(XX.out.cells hB).2, x1, x2⟩)
              have hw5 : (w5.alloc (.cells #[] 114)).heap.size = w5.heap.size + 1 := by simp
              have hw6 : (w5.alloc (.cells #[.string xn, .string xv] 114)).heap.size = w5.heap.size + 1 := by simp
              have B0 := hid ((Below.refl w5.heap.size w5).drew)
              have B1 := hid (((Below.refl w5.heap.size w5).alloc (Nat.le_refl _) (.cells #[] 114)).drew)
              have B2 := hid ((((Below.refl w5.heap.size w5).alloc (Nat.le_refl _) (.cells #[] 114)).alloc (by simp) (.cells #[.string xn, .string xv] 114)).drew)
              have B3 := hid (((Below.refl w5.heap.size w5).alloc (Nat.le_refl _) (.cells #[.string xn, .string xv] 114)).drew)
              have B4 := hid ((((Below.refl w5.heap.size w5).alloc (Nat.le_refl _) (.cells #[.string xn, .string xv] 114)).alloc (by simp) (.cells #[] 114)).drew)
              have F1 := hid (show ((w5.alloc (.cells #[] 114)).drew).ownsRow w5.heap.size 114 2 (.slice (some ⟨w5.heap.size, 0, none⟩) 0 0) 0 [] from own_new w5 114 2)
              have F2 := hid (show (((w5.alloc (.cells #[] 114)).alloc (.cells #[.string xn, .string xv] 114)).drew).ownsRow w5.heap.size 114 2 (.slice (some ⟨w5.heap.size, 0, none⟩) 0 0) 0 [] from (own_new w5 114 2).alloc (.cells #[.string xn, .string xv] 114))
              have F3 := hid (show (((w5.alloc (.cells #[.string xn, .string xv] 114)).alloc (.cells #[] 114)).drew).ownsRow w5.heap.size 114 2 (.slice (some ⟨w5.heap.size + 1, 0, none⟩) 0 0) 0 [] from by have h := own_base (own_new (w5.alloc (.cells #[.string xn, .string xv] 114)) 114 2) (show w5.heap.size ≤ (w5.alloc (.cells #[.string xn, .string xv] 114)).heap.size by simp); rw [hw6] at h; exact h)
              have X2 := hid (show Rd (((w5.alloc (.cells #[] 114)).alloc (.cells #[.string xn, .string xv] 114)).drew) 2 (.slice (some ⟨w5.heap.size + 1, 0, none⟩) 1 1) 1 (atC [⟨xn, xv⟩]) from by have h := Rd.new (w5.alloc (.cells #[] 114)) 114 2 (atC [⟨xn, xv⟩]) 1 rfl; rw [hw5] at h; exact ⟨h.at_, h.len⟩)
              have X3 := hid (show Rd (((w5.alloc (.cells #[.string xn, .string xv] 114)).alloc (.cells #[] 114)).drew) 2 (.slice (some ⟨w5.heap.size, 0, none⟩) 1 1) 1 (atC [⟨xn, xv⟩]) from by have h := (Rd.new w5 114 2 (atC [⟨xn, xv⟩]) 1 rfl).below ((Below.refl _ _).alloc (Nat.le_refl _) (.cells #[] 114)); exact ⟨h.at_, h.len⟩)
              have K0 := hid (KP.out _ B0.out)
              have K1 := hid (KP.out _ B1.out)
              have K2 := hid (KP.out _ B2.out)
              have K3 := hid (KP.out _ B3.out)
              have K4 := hid (KP.out _ B4.out)
              have HBc := B0
              clear hxn hxv hw5 hw6
              go_wp2_with fail
              go_region_held3 (fun w' => w'.cell? ⟨w.heap.size, 2, none⟩ = some (.slice (some ⟨ab, ao, none⟩) nA ca) ∧ w'.cell? ⟨ab, ao + i * 2, none⟩ = some (.string xn) ∧ w'.cell? ⟨ab, ao + i * 2 + 1, none⟩ = some (.string xv)) (first | with_reducible exact K0.out | with_reducible exact K1.out | with_reducible exact K2.out | with_reducible exact K3.out | with_reducible exact K4.out | with_reducible exact KP.out _ HBc.out | with_reducible exact KP.out _ (HBc.out.alloc HBc.out.size _))
                (first
                  | (refine step_own rfl (.tmp 111) (.tmp 114) 40 rfl 114 i0 _ 2 32 Tryz.underlying40 iI hz0 hz1 hz2 rfl (by decide) w5.heap.size w5.heap.size 0 0 J [] (atC (L.take J)) _ (by simp [Act.eval, Act.put]) (by simp [Act.eval, Act.put]) F1.out (HU7.out.below B1.out) (atC_cell _) (by omega) (by omega) B1.out.size J (by omega) (atC (L.take J)) rfl ?_; intro g6 c6 w6 ho6 hb6 hg6; have HO6 := hid ho6; replace HBc := hid (B1.out.trans hb6); clear ho6 hb6 hg6)
                  | (refine step_own rfl (.tmp 111) (.tmp 114) 40 rfl 114 i0 _ 2 32 Tryz.underlying40 iI hz0 hz1 hz2 rfl (by decide) w5.heap.size w5.heap.size 0 0 J [] (atC (L.take J)) _ (by simp [Act.eval, Act.put]) (by simp [Act.eval, Act.put]) F2.out (HU7.out.below B2.out) (atC_cell _) (by omega) (by omega) B2.out.size J (by omega) (atC (L.take J)) rfl ?_; intro g6 c6 w6 ho6 hb6 hg6; have HO6 := hid ho6; have HX6 := hid (X2.out.grown hg6 (by omega)); replace HBc := hid (B2.out.trans hb6); clear ho6 hb6 hg6)
                  | (refine step_own rfl (.tmp 111) (.tmp 114) 40 rfl 114 i0 _ 2 32 Tryz.underlying40 iI hz0 hz1 hz2 rfl (by decide) w5.heap.size (w5.heap.size + 1) 0 0 J [] (atC (L.take J)) _ (by simp [Act.eval, Act.put]) (by simp [Act.eval, Act.put]) F3.out (HU7.out.below B4.out) (atC_cell _) (by omega) (by omega) B4.out.size J (by omega) (atC (L.take J)) rfl ?_; intro g6 c6 w6 ho6 hb6 hg6; have HO6 := hid ho6; have HX6 := hid (X3.out.grown hg6 (by omega)); replace HBc := hid (B4.out.trans hb6); clear ho6 hb6 hg6)
                  | (refine step_own rfl (.tmp 115) (.tmp 121) 40 rfl 114 i0 _ 2 32 Tryz.underlying40 iI hz0 hz1 hz2 rfl (by decide) w5.heap.size g6 c6 J 1 (atC (L.take J)) (atC [⟨xn, xv⟩]) _ (by simp [Act.eval, Act.put]) (by simp [Act.eval, Act.put]) HO6.out HX6.out (atC_cell _) (by omega) (by omega) HBc.out.size (J + 1) (by omega) (atC (L.take J ++ [⟨xn, xv⟩])) (by rw [atC_app]) ?_; intro g8 c8 w8 ho8 hb8 hg8; have HO8 := hid ho8; replace HBc := hid (HBc.out.trans hb8); clear ho8 hb8 hg8)
                  | (refine step_own rfl (.tmp 115) (.tmp 121) 40 rfl 114 i0 _ 2 32 Tryz.underlying40 iI hz0 hz1 hz2 rfl (by decide) w5.heap.size g6 c6 J 1 (atC (L.take J)) (atC [⟨xn, xv⟩]) _ (by simp [Act.eval, Act.put]) (by simp [Act.eval, Act.put]) (HO6.out.alloc _) (Rd.new w6 114 2 (atC [⟨xn, xv⟩]) 1 rfl) (atC_cell _) (by omega) (by omega) (HBc.out.alloc HBc.out.size _).size (J + 1) (by omega) (atC (L.take J ++ [⟨xn, xv⟩])) (by rw [atC_app]) ?_; intro g8 c8 w8 ho8 hb8 hg8; have HO8 := hid ho8; replace HBc := hid ((HBc.out.alloc HBc.out.size (.cells #[.string xn, .string xv] 114)).trans hb8); clear ho8 hb8 hg8)
                  | (refine step_own rfl (.tmp 122) (.tmp 123) 40 rfl 114 i0 _ 2 32 Tryz.underlying40 iI hz0 hz1 hz2 rfl (by decide) w5.heap.size g8 c8 (J + 1) (m - J) (atC (L.take J ++ [⟨xn, xv⟩])) (atC (L.drop J)) _ (by simp [Act.eval, Act.put]) (by simp [Act.eval, Act.put]) HO8.out (HRS.out.below HBc.out) (atC_cell _) (by omega) (by omega) HBc.out.size (m + 1) (by omega) (atC (L.take J ++ ⟨xn, xv⟩ :: L.drop J)) (by rw [← atC_app, List.append_assoc]; rfl) ?_; intro g9 c9 w9 ho9 hb9 hg9; have HO9 := hid ho9; replace HBc := hid (HBc.out.trans hb9); clear ho9 hb9 hg9))
              all_goals (
                rename_i hHeld
                clear hHeld
                have HXE := hid (show l[i] = ⟨xn, xv⟩ by rw [← HXN.out.1, ← HXN.out.2])
                have STN := hid (ST7.out.next his HDC.out (bb ST7.out.bel HBc.out) HPP.out (HP7.out.below HBc.out) (show insN ts k (othL ts k (l.take i)) l[i] = J from HJ.out) (show Rd w9 2 (.slice (some ⟨g9, 0, none⟩) (m + 1) c9) (m + 1) (atC ((othL ts k (l.take i)).take J ++ l[i] :: (othL ts k (l.take i)).drop J)) by rw [HL.out, HXE.out]; exact Rd.own HO9.out))
                clear HO9 HO8 HO6 HXE HBc B0 B1 B2 B3 B4 F1 F2 F3 X2 X3 K0 K1 K2 K3 K4 KP ST7 HP7 HRS HU7
                go_wp2_with fail
                go_roundw
                case rel => exact ⟨i + 1, P'.length, m + 1, pb', po', pc', g9, 0, c9, by go_num, rfl, rfl, STN.out⟩
                case measure => (simp [intOf]; omega))

set_option maxRecDepth 8000 in
set_option maxHeartbeats 16000000 in
theorem c_spec_l11Canon (a : Option Addr) (cap : Nat) (ts : List Tk) (but : Int) (hT : TreeP ts) (hz : TksSz 1048576 ts) : ∀ (f k : Nat) (sd : List At) (sa : Option Addr) (sc : Nat) (w : World), TkRow w a ts → k < ts.length → ts.length - k ≤ f → AtRow w sa sd → sd.length ≤ 10 * k →
    Calls Tryz.prog 78 #[.slice a ts.length cap, .int .i64 (k : Int), .int .i64 but, .slice sa sd.length sc] w fun e w' => e = .returned (.string (canonN ts but f k sd)) ∧ Below w.heap.size w w'
  | 0, k, _, _, _, _, _, hk, hf, _, _ => by omega
  | f + 1, k, sd, sa, sc, w, hR, hk, hf, hS, hsd => by
    obtain ⟨b, o, aa, ca, rfl, hbl, q0, q1, q2, q3, hA⟩ := hR k hk
    obtain ⟨t, ht⟩ : ∃ t, ts[k] = t := ⟨_, rfl⟩
    have htn : nodeAt ts k = t := by rw [nodeAt_at hk, ht]
    have hts := nodeAt_sz hz k
    rw [htn] at hts
    rw [ht] at q0 q1 q2 q3 hA
    obtain ⟨K, nm, l, tx⟩ := t
    simp only at q0 q1 q2 q3 hA
    have hLA := (Below.refl w.heap.size w).alloc (Nat.le_refl _) (.cells #[.int .i64 K, .string nm, .slice aa l.length ca, .string tx] 42)
    have hM0 := heap_alloc_new w (.cells #[.int .i64 K, .string nm, .slice aa l.length ca, .string tx] 42)
    obtain ⟨W0, hW0⟩ : ∃ W0, w.alloc (.cells #[.int .i64 K, .string nm, .slice aa l.length ca, .string tx] 42) = W0 := ⟨_, rfl⟩
    rw [hW0] at hLA hM0
    have hkn : (k : Int) < (ts.length : Int) := by omega
    by_cases hbut : (k : Int) = but
    · rw [canonN_but hbut]
      subst hbut
      have hbb : ((k : Int) == (k : Int)) = true := by simp
      have HLA := hid hLA
      clear hR hS hA hts htn ht hT hz hf hsd hLA hM0
      generalize ts.length = n at *
      generalize sd.length = ns at *
      generalize l.length = nA at *
      go_enter Tryz.func78, Tryz.ntmps78
      go_wp2_with fail
      go_ret
      exact ⟨rfl, HLA.out⟩
    have hbb : ((k : Int) == but) = false := by simpa using hbut
    by_cases hnm : nm.size = 0
    · rw [canonN_text htn hbut hnm]
      have E1 := empty_is nm
      rw [decide_eq_true hnm] at E1
      obtain ⟨⟨c0, c1, c2, c3⟩, _⟩ := box4 hM0
      have CX := hid (show Calls Tryz.prog 124 #[.string tx, .bool false] W0 fun e w' => e = .returned (.string (escS false tx)) ∧ Below W0.heap.size W0 w' from c_spec_Escaped tx false W0 hts.2.2.2)
      have HLA := hid hLA
      clear hR hS hA hts htn ht hT hz hf hsd hLA hM0 hbut hnm
      generalize escS false tx = ES at *
      generalize ts.length = n at *
      generalize sd.length = ns at *
      generalize l.length = nA at *
      go_enter Tryz.func78, Tryz.ntmps78
      go_wp2_with fail
      refine CX.out.mono ?_
      rintro e w1 ⟨rfl, hb1⟩
      have HB1 := hid (bb HLA.out hb1)
      clear hb1 CX
      go_wp2_with fail
      go_ret
      exact ⟨rfl, HB1.out⟩
    · have h6 : l.length ≤ 6 := by
        have h := six_at hT k (by rw [htn]; exact hnm)
        rw [htn] at h
        exact h
      exact canon_el ⟨hT, hz, rfl, hk, rfl, hsd, rfl, h6, hts, htn, hLA, hM0, hR.below hLA, hA.below hLA, hS.below hLA, fun j sd' sa' sc' wx h1 h2 h3 h4 h5 => c_spec_l11Canon (some ⟨b, o, none⟩) cap ts but hT hz f j sd' sa' sc' wx h1 h2 (by omega) h4 h5⟩ hW0 q0 q1 q2 q3 hbb (by rw [empty_is, decide_eq_false hnm]) _ (canonN_el htn hbut hnm)

end Go.Proofs.YteninofjeidljaaGreat

namespace Go.Proofs.YteninofjeidljaaGreat

open Go.RowKit

set_option linter.unusedVariables false

set_option linter.unusedSimpArgs false

/-- All is as it should be. -/
noncomputable def canB (ts : List Tk) (x y : Int) : Bool := namesB ts && (elemB ts x && (decide (-1 ≤ y ∧ y ≤ (ts.length : Int) - 1) && !decide (y = x)))

/-- The one way to write it. -/
noncomputable def canonI (ts : List Tk) (x y : Int) : ByteArray := if canB ts x y then canonN ts y ts.length x.toNat [] else ⟨#[]⟩

theorem canonI_no {ts : List Tk} {x y : Int} (h : canB ts x y = false) : canonI ts x y = ⟨#[]⟩ := by unfold canonI; rw [h]; rfl

theorem canonI_yes {ts : List Tk} {x y : Int} (h : canB ts x y = true) : canonI ts x y = canonN ts y ts.length x.toNat [] := by unfold canonI; rw [h]; rfl

set_option maxHeartbeats 2000000 in
theorem c_spec_l1InC (x lo hi : Int) (w : World) : Calls Tryz.prog 63 #[.int .i64 x, .int .i64 lo, .int .i64 hi] w fun e w' => e = .returned (.bool (decide (lo ≤ x ∧ x ≤ hi))) ∧ w' = w := by
  by_cases h1 : lo ≤ x
  · by_cases h2 : x ≤ hi
    · rw [decide_eq_true ⟨h1, h2⟩]
      go_enter Tryz.func63, Tryz.ntmps63
      go_wp2
      go_ret
      exact ⟨rfl, rfl⟩
    · rw [decide_eq_false (fun h => h2 h.2)]
      go_enter Tryz.func63, Tryz.ntmps63
      go_wp2
      go_ret
      exact ⟨rfl, rfl⟩
  · rw [decide_eq_false (fun h => h1 h.1)]
    go_enter Tryz.func63, Tryz.ntmps63
    go_wp2
    go_ret
    exact ⟨rfl, rfl⟩

set_option maxRecDepth 4000 in
set_option maxHeartbeats 4000000 in
theorem cCanonS (a : Option Addr) (cap : Nat) (ts : List Tk) (x y : Int) (w : World) (hR : TkRow w a ts) (hn : ts.length ≤ 1048576) (hz : TksSz 1048576 ts) :
    Calls Tryz.prog 24 #[.slice a ts.length cap, .int .i64 x, .int .i64 y] w fun e w' => e = .returned (.string (canonI ts x y)) ∧ Below w.heap.size w w' := by
  have CN := hid (cNamesOkS a cap ts w hR hn hz)
  have CE := hid (fun wx (hb : Below w.heap.size w wx) => c_spec_l9Element a cap ts x wx (hR.below hb) hn hz)
  have CI := hid (fun wx => c_spec_l1InC y (-1) ((ts.length : Int) - 1) wx)
  have hlen : (0 : Int) ≤ (ts.length : Int) ∧ (ts.length : Int) ≤ 1048576 := by omega
  cases h1 : namesB ts with
  | false =>
    rw [canonI_no (by unfold canB; rw [h1]; rfl)]
    rw [h1] at CN
    clear hR hz h1 CE CI
    generalize ts.length = n at *
    go_enter Tryz.func24, Tryz.ntmps24
    go_wp2_with fail
    refine CN.out.mono ?_
    rintro e w1 ⟨rfl, hb1⟩
    have HB1 := hid hb1
    clear hb1 CN
    go_wp2_with fail
    go_ret
    exact ⟨rfl, HB1.out⟩
  | true =>
    rw [h1] at CN
    cases h2 : elemB ts x with
    | false =>
      rw [canonI_no (by unfold canB; rw [h1, h2]; rfl)]
      rw [h2] at CE
      clear hR hz h1 h2 CI
      generalize ts.length = n at *
      go_enter Tryz.func24, Tryz.ntmps24
      go_wp2_with fail
      refine CN.out.mono ?_
      rintro e w1 ⟨rfl, hb1⟩
      have HB1 := hid hb1
      clear hb1 CN
      go_wp2_with fail
      refine (CE.out _ HB1.out).mono ?_
      rintro e w2 ⟨rfl, hb2⟩
      have HB2 := hid (bb HB1.out hb2)
      clear hb2 CE
      go_wp2_with fail
      go_ret
      exact ⟨rfl, HB2.out⟩
    | true =>
      rw [h2] at CE
      cases h3 : decide (-1 ≤ y ∧ y ≤ (ts.length : Int) - 1) with
      | false =>
        rw [canonI_no (by unfold canB; rw [h1, h2, h3]; rfl)]
        rw [h3] at CI
        clear hR hz h1 h2 h3
        generalize ts.length = n at *
        go_enter Tryz.func24, Tryz.ntmps24
        go_wp2_with fail
        refine CN.out.mono ?_
        rintro e w1 ⟨rfl, hb1⟩
        have HB1 := hid hb1
        clear hb1 CN
        go_wp2_with fail
        refine (CE.out _ HB1.out).mono ?_
        rintro e w2 ⟨rfl, hb2⟩
        have HB2 := hid (bb HB1.out hb2)
        clear hb2 CE
        go_wp2_with fail
        refine (CI.out _).mono ?_
        rintro e w3 ⟨rfl, rfl⟩
        go_wp2_with fail
        go_ret
        exact ⟨rfl, HB2.out⟩
      | true =>
        rw [h3] at CI
        by_cases h4 : y = x
        · rw [canonI_no (by unfold canB; rw [h1, h2, h3, decide_eq_true h4]; rfl)]
          subst h4
          have hyy : (y == y) = true := by simp
          clear hR hz h1 h2 h3
          generalize ts.length = n at *
          go_enter Tryz.func24, Tryz.ntmps24
          go_wp2_with fail
          refine CN.out.mono ?_
          rintro e w1 ⟨rfl, hb1⟩
          have HB1 := hid hb1
          clear hb1 CN
          go_wp2_with fail
          refine (CE.out _ HB1.out).mono ?_
          rintro e w2 ⟨rfl, hb2⟩
          have HB2 := hid (bb HB1.out hb2)
          clear hb2 CE
          go_wp2_with fail
          refine (CI.out _).mono ?_
          rintro e w3 ⟨rfl, rfl⟩
          go_wp2_with fail
          go_ret
          exact ⟨rfl, HB2.out⟩
        · rw [canonI_yes (by unfold canB; rw [h1, h2, h3, decide_eq_false h4]; rfl)]
          obtain ⟨hT, k, rfl, hk⟩ := elemB_t h2
          have hyy : (y == (k : Int)) = false := by simpa using h4
          have CC := hid (fun wx (hb : Below w.heap.size w wx) => c_spec_l11Canon a cap ts y hT hz ts.length k [] none 0 wx (hR.below hb) hk (by omega) (fun i hi => absurd hi (Nat.not_lt_zero _)) (Nat.zero_le _))
          rw [show ((k : Int).toNat) = k from rfl]
          clear hR hz h1 h2 h3 h4 hT hk
          generalize canonN ts y ts.length k [] = R at *
          generalize ts.length = n at *
          go_enter Tryz.func24, Tryz.ntmps24
          go_wp2_with fail
          refine CN.out.mono ?_
          rintro e w1 ⟨rfl, hb1⟩
          have HB1 := hid hb1
          clear hb1 CN
          go_wp2_with fail
          refine (CE.out _ HB1.out).mono ?_
          rintro e w2 ⟨rfl, hb2⟩
          have HB2 := hid (bb HB1.out hb2)
          clear hb2 CE
          go_wp2_with fail
          refine (CI.out _).mono ?_
          rintro e w3 ⟨rfl, rfl⟩
          go_wp2_with fail
          refine (CC.out _ HB2.out).mono ?_
          rintro e w4 ⟨rfl, hb4⟩
          have HB4 := hid (bb HB2.out hb4)
          clear hb4 CC
          go_wp2_with fail
          go_ret
          exact ⟨rfl, HB4.out⟩

set_option maxHeartbeats 2000000 in
theorem cCanonAllS (a : Option Addr) (cap : Nat) (ts : List Tk) (w : World) (hR : TkRow w a ts) (hn : ts.length ≤ 1048576) (hz : TksSz 1048576 ts) :
    Calls Tryz.prog 26 #[.slice a ts.length cap] w fun e w' => e = .returned (.string (canonI ts 0 (-1))) ∧ Below w.heap.size w w' := by
  have C := hid (cCanonS a cap ts 0 (-1) w hR hn hz)
  clear hR hz
  generalize canonI ts 0 (-1) = R at *
  generalize ts.length = n at *
  go_enter Tryz.func26, Tryz.ntmps26
  go_wp2_with fail
  refine C.out.mono ?_
  rintro e w1 ⟨rfl, hb1⟩
  have HB1 := hid hb1
  clear hb1 C
  go_wp2_with fail
  go_ret
  exact ⟨rfl, HB1.out⟩

end Go.Proofs.YteninofjeidljaaGreat
