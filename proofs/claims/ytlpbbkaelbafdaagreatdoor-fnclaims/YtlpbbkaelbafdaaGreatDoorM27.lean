/-  -/
import Derived.Test.YtlpbbkaelbafdaaGreatDoorM26
set_option linter.unusedVariables false
set_option linter.unusedSimpArgs false
namespace Go.Proofs.YtlpbbkaelbafdaaGreatDoor
open Go.RowKit

section
variable {T X : List Tk}

theorem get_app (X : List Tk) {i : Nat} (h : i < T.length) : (T ++ X)[i]? = T[i]? := List.getElem?_append_left h

theorem parI_app (X : List Tk) {i : Nat} (h : i < T.length) : parI (T ++ X) i = parI T i := by unfold parI; rw [get_app X h]

theorem nameI_app (X : List Tk) {i : Nat} (h : i < T.length) : nameI (T ++ X) i = nameI T i := by unfold nameI; rw [get_app X h]

theorem atN_app (X : List Tk) {i : Nat} (h : i < T.length) : atN (T ++ X) i = atN T i := by unfold atN; rw [get_app X h]

theorem textAt_app (X : List Tk) {i : Nat} (h : i < T.length) : textAt (T ++ X) i = textAt T i := by unfold textAt; rw [get_app X h]

theorem idAt_app (X : List Tk) {i : Nat} (h : i < T.length) : idAt (T ++ X) i = idAt T i := by unfold idAt; rw [get_app X h]

theorem chain_lt (T : List Tk) : ∀ i, ∀ j ∈ chainF T i, j < i
 | 0, j, h => absurd h (by simp [chainF])
 | i + 1, j, h => by
  rcases List.mem_cons.1 h with rfl | h
  ·exact Nat.lt_succ_self _
  ·have := chain_lt T i j ((List.dropWhile_sublist _).subset h)
   omega

theorem chainF_app (X : List Tk) : ∀ i, i <= T.length -> chainF (T ++ X) i = chainF T i
 | 0, _ => rfl
 | i + 1, h => by
  show i :: (chainF (T ++ X) i).dropWhile _ = i :: (chainF T i).dropWhile _
  rw [chainF_app X i (by omega), parI_app X (by omega)]

theorem upAts_app (X : List Tk) {c : List Nat} (h : ∀ j ∈ c, j < T.length) : upAts (T ++ X) c = upAts T c := by
 unfold upAts
 induction c with
 | nil => rfl
 | cons j c ih =>
  rw [List.flatMap_cons, List.flatMap_cons, get_app X (h j (by simp)), ih (fun k hk => h k (by simp [hk]))]

theorem meanF_app (X : List Tk) {i : Nat} (h : i < T.length) (p : ByteArray) : meanF (T ++ X) i p = meanF T i p := by
 unfold meanF
 rw [chainF_app X (i + 1) (by omega), upAts_app X (fun j hj => by have := chain_lt T (i + 1) j hj; omega)]

theorem knownN_app (X : List Tk) {i : Nat} (h : i < T.length) (l m : ByteArray) : knownN (T ++ X) i l m = knownN T i l m := by
 unfold knownN
 rw [nameI_app X h, meanF_app X h]

theorem kidB_app (X : List Tk) {i : Nat} (h : i < T.length) (l : ByteArray) : kidB (T ++ X) l i = kidB T l i := by
 unfold kidB
 rw [nameI_app X h, knownN_app X h]

theorem kidsTo_app (X : List Tk) (k : Nat) : ∀ e, e <= T.length -> kidsTo (T ++ X) k e = kidsTo T k e := by
 intro e h
 unfold kidsTo
 refine List.filter_congr (fun i hi => ?_)
 rw [List.mem_range] at hi
 rw [parI_app X (by omega)]

theorem kidsTo_snoc (T : List Tk) (k e : Nat) : kidsTo T k (e + 1) = kidsTo T k e ++ (if (decide (k < e) && decide (parI T e = (k : Int))) = true then [e] else []) := by
 unfold kidsTo
 rw [List.range_succ, List.filter_append]
 congr 1
 cases h : (decide (k < e) && decide (parI T e = (k : Int)))
 ·simp [List.filter_cons, h]
 ·simp [List.filter_cons, h]

theorem joinT_app (X : List Tk) {l : List Nat} (h : ∀ j ∈ l, j < T.length) : joinT (T ++ X) l = joinT T l := by
 unfold joinT
 generalize (⟨#[]⟩ : ByteArray) = s
 induction l generalizing s with
 | nil => rfl
 | cons j l ih =>
  rw [List.foldl_cons, List.foldl_cons, textAt_app X (h j (by simp))]
  exact ih (fun k hk => h k (by simp [hk])) _

end

structure En where
 name : ByteArray
 say : Say

def addE (T : List Tk) (e : En) : List Tk := addN T e.name e.say

def newE (n : Nat) (e : En) : List Tk := if e.say.text.size = 0 then [⟨0, e.name, e.say.attrs, nE⟩] else [⟨0, e.name, e.say.attrs, nE⟩, ⟨(n : Int), nE, [], e.say.text⟩]

theorem addE_is (T : List Tk) (e : En) : addE T e = T ++ newE T.length e := by
 unfold addE addN newE
 split
 ·rfl
 ·rw [List.append_assoc]; rfl

theorem newE_len (n : Nat) (e : En) : (newE n e).length = if e.say.text.size = 0 then 1 else 2 := by
 unfold newE
 split <;> rfl

theorem newE_0 (n : Nat) (e : En) : (newE n e)[0]? = some ⟨0, e.name, e.say.attrs, nE⟩ := by
 unfold newE
 split <;> rfl

theorem new_at (T : List Tk) (e : En) : (addE T e)[T.length]? = some ⟨0, e.name, e.say.attrs, nE⟩ := by
 rw [addE_is, List.getElem?_append_right (Nat.le_refl _), Nat.sub_self]
 exact newE_0 _ _

theorem new_text {T : List Tk} {e : En} (h : ¬ e.say.text.size = 0) : (addE T e)[T.length + 1]? = some ⟨(T.length : Int), nE, [], e.say.text⟩ := by
 rw [addE_is, List.getElem?_append_right (by omega), show T.length + 1 - T.length = 1 by omega]
 unfold newE
 rw [if_neg h]
 rfl

theorem addE_len (T : List Tk) (e : En) : (addE T e).length = T.length + (if e.say.text.size = 0 then 1 else 2) := by
 rw [addE_is, List.length_append, newE_len]

structure FlatT (h : Tk) (T : List Tk) : Prop where
 head : T[0]? = some h
 chain : (chainF T T.length).dropWhile (fun (j : Nat) => !decide ((j : Int) = 0)) = [0]

theorem FlatT.pos {h : Tk} {T : List Tk} (H : FlatT h T) : 0 < T.length := by
 rcases Nat.eq_zero_or_pos T.length with e | e
 ·have := H.head
  rw [List.length_eq_zero_iff.1 e] at this
  cases this
 ·exact e

theorem flat_one (h : Tk) : FlatT h [h] := ⟨rfl, rfl⟩

theorem par_new (T : List Tk) (e : En) : parI (addE T e) T.length = 0 := by unfold parI; rw [new_at]

theorem par_text {T : List Tk} {e : En} (ht : ¬ e.say.text.size = 0) : parI (addE T e) (T.length + 1) = (T.length : Int) := by unfold parI; rw [new_text ht]

theorem drop_no {p : Int} {j : Nat} {l : List Nat} (h : ¬ (j : Int) = p) : (j :: l).dropWhile (fun (j : Nat) => !decide ((j : Int) = p)) = l.dropWhile (fun (j : Nat) => !decide ((j : Int) = p)) := by
 rw [List.dropWhile_cons, if_pos (by rw [decide_eq_false h]; rfl)]

theorem drop_yes {p : Int} {j : Nat} {l : List Nat} (h : (j : Int) = p) : (j :: l).dropWhile (fun (j : Nat) => !decide ((j : Int) = p)) = j :: l := by
 rw [List.dropWhile_cons, if_neg (by rw [decide_eq_true h]; decide)]

theorem FlatT.chain1 {h : Tk} {T : List Tk} (H : FlatT h T) (e : En) : chainF (addE T e) (T.length + 1) = [T.length, 0] := by
 show T.length :: (chainF (addE T e) T.length).dropWhile (fun (j : Nat) => !decide ((j : Int) = parI (addE T e) T.length)) = _
 rw [par_new, addE_is, chainF_app _ _ (Nat.le_refl _), H.chain]

theorem FlatT.chain2 {h : Tk} {T : List Tk} (H : FlatT h T) (e : En) (ht : ¬ e.say.text.size = 0) : chainF (addE T e) (T.length + 2) = [T.length + 1, T.length, 0] := by
 show (T.length + 1) :: (chainF (addE T e) (T.length + 1)).dropWhile (fun (j : Nat) => !decide ((j : Int) = parI (addE T e) (T.length + 1))) = _
 rw [par_text ht, H.chain1, drop_yes rfl]

theorem FlatT.add {h : Tk} {T : List Tk} (H : FlatT h T) (e : En) : FlatT h (addE T e) := by
 have hp := H.pos
 refine ⟨by rw [addE_is, get_app _ hp]; exact H.head, ?_⟩
 rw [addE_len]
 by_cases ht : e.say.text.size = 0
 ·rw [if_pos ht, H.chain1, drop_no (by omega)]
  rfl
 ·rw [if_neg ht, H.chain2 e ht, drop_no (by omega), drop_no (by omega)]
  rfl

theorem kidsTo_add (T : List Tk) (e : En) (k : Nat) (hk : k < T.length) : kidsN (addE T e) k = kidsN T k ++ (if k = 0 then [T.length] else []) := by
 unfold kidsN
 rw [addE_len]
 have k1 : kidsTo (addE T e) k (T.length + 1) = kidsTo T k T.length ++ (if k = 0 then [T.length] else []) := by
  rw [kidsTo_snoc, par_new, addE_is, kidsTo_app _ _ _ (Nat.le_refl _), decide_eq_true hk]
  by_cases h0 : k = 0
  ·rw [if_pos h0, decide_eq_true (by omega)]; rfl
  ·rw [if_neg h0, decide_eq_false (by omega)]; rfl
 by_cases ht : e.say.text.size = 0
 ·rw [if_pos ht, k1]
 ·rw [if_neg ht, show T.length + 2 = T.length + 1 + 1 by omega, kidsTo_snoc, k1, par_text ht, decide_eq_false (show ¬ (T.length : Int) = (k : Int) by omega), Bool.and_false, if_neg (show ¬ false = true from Bool.false_ne_true), List.append_nil]

theorem kids_self (T : List Tk) (n : Nat) : ∀ e, e <= n + 1 -> kidsTo T n e = [] := by
 intro e he
 unfold kidsTo
 refine List.filter_eq_nil_iff.2 (fun i hi => ?_)
 rw [List.mem_range] at hi
 rw [decide_eq_false (by omega)]
 simp

theorem kids_new (T : List Tk) (e : En) : kidsN (addE T e) T.length = if e.say.text.size = 0 then [] else [T.length + 1] := by
 unfold kidsN
 rw [addE_len]
 by_cases ht : e.say.text.size = 0
 ·rw [if_pos ht, if_pos ht]
  exact kids_self _ _ _ (Nat.le_refl _)
 ·rw [if_neg ht, if_neg ht, show T.length + 2 = T.length + 1 + 1 by omega, kidsTo_snoc, kids_self _ _ _ (Nat.le_refl _), par_text ht, decide_eq_true (Nat.lt_succ_self _), decide_eq_true rfl]
  rfl

theorem kidsN_below {T : List Tk} {k j : Nat} (h : j ∈ kidsN T k) : k < j /\ j < T.length := by
 unfold kidsN kidsTo at h
 have h2 := List.mem_filter.1 h
 rw [List.mem_range] at h2
 simp at h2
 exact ⟨h2.2.1, h2.1⟩

theorem txN_old {T : List Tk} (e : En) {j : Nat} (h0 : 0 < j) (hj : j < T.length) : txN (addE T e) j = txN T j := by
 unfold txN
 rw [kidsTo_add T e j hj, if_neg (by omega), List.append_nil, addE_is]
 exact joinT_app _ (fun i hi => (kidsN_below hi).2)

theorem txN_new (T : List Tk) (e : En) : txN (addE T e) T.length = e.say.text := by
 unfold txN
 rw [kids_new]
 by_cases ht : e.say.text.size = 0
 ·rw [if_pos ht]
  exact (ByteArray.ext (Array.eq_empty_of_size_eq_zero ht)).symm
 ·rw [if_neg ht]
  have e1 : textAt (addE T e) (T.length + 1) = e.say.text := by unfold textAt; rw [new_text ht]
  show (⟨#[]⟩ : ByteArray) ++ textAt (addE T e) (T.length + 1) = _
  rw [e1]
  exact ByteArray.empty_append

theorem atN_new (T : List Tk) (e : En) : atN (addE T e) T.length = e.say.attrs := by unfold atN; rw [new_at]

theorem nameI_new (T : List Tk) (e : En) : nameI (addE T e) T.length = e.name := by unfold nameI; rw [new_at]

theorem FlatT.mean {h : Tk} {T : List Tk} (H : FlatT h T) (e : En) (p : ByteArray) : meanF (addE T e) T.length p = meanL (e.say.attrs ++ h.attrs) p := by
 unfold meanF
 rw [H.chain1]
 congr 1
 unfold upAts
 rw [List.flatMap_cons, List.flatMap_cons, new_at, (H.add e).head]
 simp

noncomputable def entB (h : Tk) (loc : ByteArray) (e : En) : Bool := open Classical in !decide (e.name.size = 0) && ((meanL (e.say.attrs ++ h.attrs) (preS e.name)).isSome && decide (locS e.name = loc) && decide ((meanL (e.say.attrs ++ h.attrs) (preS e.name)).getD ⟨#[]⟩ = claimS))

theorem FlatT.kidNew {h : Tk} {T : List Tk} (H : FlatT h T) (e : En) (loc : ByteArray) : kidB (addE T e) loc T.length = entB h loc e := by
 unfold kidB knownN entB
 rw [nameI_new, H.mean]

theorem FlatT.says {h : Tk} {T : List Tk} (H : FlatT h T) (e : En) (loc : ByteArray) : sayL (addE T e) (kidsK (addE T e) 0 loc) = sayL T (kidsK T 0 loc) ++ (if entB h loc e = true then [e.say] else []) := by
 have hp := H.pos
 unfold kidsK
 rw [kidsTo_add T e 0 hp, if_pos rfl, List.filter_append]
 have e1 : (kidsN T 0).filter (kidB (addE T e) loc) = (kidsN T 0).filter (kidB T loc) := by
  refine List.filter_congr (fun i hi => ?_)
  rw [addE_is, kidB_app _ (kidsN_below hi).2]
 have e2 : [T.length].filter (kidB (addE T e) loc) = if entB h loc e = true then [T.length] else [] := by
  rw [List.filter_cons, H.kidNew]
  rfl
 rw [e1, e2]
 unfold sayL
 rw [List.map_append]
 congr 1
 ·refine List.map_congr_left (fun j hj => ?_)
  have hj2 := kidsN_below (List.mem_filter.1 hj).1
  unfold sayN
  rw [txN_old e hj2.1 hj2.2, addE_is, atN_app _ hj2.2]
 ·split
  ·show [sayN (addE T e) T.length] = [e.say]
   unfold sayN
   rw [atN_new, txN_new]
  ·rfl

def flatE (h : Tk) (E : List En) : List Tk := E.foldl addE [h]

theorem flatE_snoc (h : Tk) (E : List En) (e : En) : flatE h (E ++ [e]) = addE (flatE h E) e := by
 unfold flatE
 rw [List.foldl_append]
 rfl

theorem flat_all (h : Tk) (E : List En) : FlatT h (flatE h E) := by
 unfold flatE
 have : ∀ (E : List En) (T : List Tk), FlatT h T -> FlatT h (E.foldl addE T) := by
  intro E
  induction E with
  | nil => exact fun T H => H
  | cons e E ih => exact fun T H => ih _ (H.add e)
 exact this E _ (flat_one h)

theorem snoc_ind {α : Type} {P : List α -> Prop} (h0 : P []) (h1 : ∀ l x, P l -> P (l ++ [x])) (l : List α) : P l := by
 have : ∀ (m : List α), P m.reverse := by
  intro m
  induction m with
  | nil => exact h0
  | cons x m ih => rw [List.reverse_cons]; exact h1 _ _ ih
 have h := this l.reverse
 rw [List.reverse_reverse] at h
 exact h

theorem flat_says (h : Tk) (loc : ByteArray) (E : List En) : sayL (flatE h E) (kidsK (flatE h E) 0 loc) = (E.filter (entB h loc)).map (·.say) := by
 refine snoc_ind (P := fun E => sayL (flatE h E) (kidsK (flatE h E) 0 loc) = (E.filter (entB h loc)).map (·.say)) ?_ ?_ E
 ·have : kidsN (flatE h []) 0 = [] := kids_self _ 0 _ (Nat.le_refl _)
  unfold kidsK
  rw [this]
  rfl
 ·intro E e ih
  rw [flatE_snoc, (flat_all h E).says, ih, List.filter_append, List.map_append]
  congr 1
  rw [List.filter_cons]
  split <;> rfl

end Go.Proofs.YtlpbbkaelbafdaaGreatDoor

namespace Go.Proofs.YtlpbbkaelbafdaaGreatDoor
open Go.RowKit

theorem elN_app {T : List Tk} (X : List Tk) {p : Nat} (h : elN T p) : elN (T ++ X) p := by
 obtain ⟨h1, h2⟩ := h
 exact ⟨by rw [List.length_append]; omega, by rw [List.getElem_append_left h1]; exact h2⟩

theorem node_app {T : List Tk} (X : List Tk) {i : Nat} (hi : i < T.length) (h : NodeOk T i) : NodeOk (T ++ X) i := by
 obtain ⟨⟨h1, h2⟩, h3, h4, h5⟩ := h
 refine ⟨⟨by rw [List.length_append]; omega, by rw [List.getElem_append_left hi]; exact h2⟩, ?_, by rw [chainF_app X _ (by omega)]; exact h4, ?_⟩
 ·rcases h3 with h3 | ⟨p, k1, k2, k3⟩
  ·exact .inl h3
  ·exact .inr ⟨p, by rw [chainF_app X _ (by omega)]; exact k1, by rw [parI_app X hi]; exact k2, elN_app X k3⟩
 ·rintro ⟨t1, t0, t2, t3, t4⟩
  rw [List.getElem_append_left hi] at t2 t4
  rw [List.getElem_append_left (show i - 1 < T.length by omega)] at t3 t4
  exact h5 ⟨hi, t0, t2, t3, t4⟩

structure EnOk (h : Tk) (e : En) : Prop where
 node : nodeB ⟨0, e.name, e.say.attrs, nE⟩ = true
 name : ¬ e.name.size = 0
 text : e.say.text.size = 0 \/ textB e.say.text = true
 mean : (meanL (e.say.attrs ++ h.attrs) (preS e.name)).isSome = true
 pre : ¬ preS e.name = nsS
 cnt : ∀ x ∈ e.say.attrs, cntB x = false
 noId : valF e.say.attrs idS = none

theorem get_new (T : List Tk) (e : En) (h : T.length < (addE T e).length) : (addE T e)[T.length] = ⟨0, e.name, e.say.attrs, nE⟩ := by
 have := new_at T e
 rw [List.getElem?_eq_getElem h] at this
 exact Option.some.inj this

theorem get_text {T : List Tk} {e : En} (ht : ¬ e.say.text.size = 0) (h : T.length + 1 < (addE T e).length) : (addE T e)[T.length + 1] = ⟨(T.length : Int), nE, [], e.say.text⟩ := by
 have := new_text (T := T) ht
 rw [List.getElem?_eq_getElem h] at this
 exact Option.some.inj this

theorem FlatT.tree {h : Tk} {T : List Tk} (H : FlatT h T) (hT : TreeP T) {e : En} (he : EnOk h e) (hl : (addE T e).length <= 50) : TreeP (addE T e) := by
 have hp := H.pos
 have hL := addE_len T e
 obtain ⟨t1, t2, t3, t4, t5⟩ := hT
 have hlt : T.length < (addE T e).length := by rw [hL]; split <;> omega
 have hel : elN (addE T e) 0 := by rw [addE_is]; exact elN_app _ t4
 have m0 : 0 ∈ chainF T T.length := by
  have : (0 : Nat) ∈ (chainF T T.length).dropWhile (fun (j : Nat) => !decide ((j : Int) = 0)) := by rw [H.chain]; simp
  exact (List.dropWhile_sublist _).subset this
 refine ⟨by omega, hl, by rw [addE_is, parI_app _ hp]; exact t3, hel, fun i hi => ?_⟩
 rcases Nat.lt_trichotomy i T.length with h' | h' | h'
 ·rw [addE_is]
  exact node_app _ h' (t5 i h')
 ·subst h'
  refine ⟨⟨hlt, by rw [get_new]; exact he.node⟩, .inr ⟨0, by rw [addE_is, chainF_app _ _ (Nat.le_refl _)]; exact m0, by rw [par_new]; rfl, hel⟩, by rw [H.chain1]; simp, ?_⟩
  rintro ⟨_, _, k1, _, _⟩
  rw [get_new] at k1
  exact he.name k1
 ·have ht : ¬ e.say.text.size = 0 := fun ht => by rw [if_pos ht] at hL; omega
  rw [if_neg ht] at hL
  obtain rfl : i = T.length + 1 := by omega
  refine ⟨⟨hi, by
   rw [get_text ht]
   unfold nodeB
   rw [if_pos (show (nE).size = 0 from rfl)]
   rcases he.text with h | h
   ·exact absurd h ht
   ·simp [h]⟩, .inr ⟨T.length, by rw [H.chain1]; simp, by rw [par_text ht], ⟨hlt, by rw [get_new]; exact he.name⟩⟩, by rw [H.chain2 e ht]; simp, ?_⟩
  rintro ⟨_, _, _, k2, _⟩
  have e2 : (addE T e)[T.length + 1 - 1]'(by omega) = ⟨0, e.name, e.say.attrs, nE⟩ := get_new T e hlt
  rw [e2] at k2
  exact he.name k2

theorem attrsN_app {T : List Tk} (X : List Tk) {i : Nat} (h : i < T.length) {l : List At} (H : AttrsN T i l) : AttrsN (T ++ X) i l := by
 unfold AttrsN keysN at *
 refine ⟨fun x hx hc => by rw [meanF_app X h]; exact H.1 x hx hc, ?_⟩
 have e : keyN (T ++ X) i = keyN T i := by
  funext x
  unfold keyN
  rw [meanF_app X h]
 rw [e]
 exact H.2

theorem FlatT.names {h : Tk} {T : List Tk} (H : FlatT h T) (hN : NamesP T) {e : En} (he : EnOk h e) (hl : (addE T e).length <= 50) : NamesP (addE T e) := by
 refine ⟨H.tree hN.1 he hl, fun i t hi => ?_⟩
 have hL := addE_len T e
 rcases Nat.lt_trichotomy i T.length with h' | h' | h'
 ·rw [addE_is, get_app _ h'] at hi
  rcases hN.2 i t hi with k | ⟨k1, k2, k3⟩
  ·exact .inl k
  ·rw [addE_is]
   exact .inr ⟨by rw [meanF_app _ h']; exact k1, k2, attrsN_app _ h' k3⟩
 ·subst h'
  rw [new_at] at hi
  obtain rfl := Option.some.inj hi
  have hcn : ∀ x ∈ e.say.attrs, cntB x = true -> (meanF (addE T e) T.length (preS x.name)).isSome = true := fun x hx hc => by
   rw [he.cnt x hx] at hc
   cases hc
  refine .inr ⟨by rw [H.mean]; exact he.mean, he.pre, hcn, ?_⟩
  show (keysN (addE T e) T.length e.say.attrs).Nodup
  unfold keysN
  rw [List.filter_eq_nil_iff.2 (fun x hx => by rw [he.cnt x hx]; decide)]
  exact List.nodup_nil
 ·have hi2 : i < (addE T e).length := by
   rcases Nat.lt_or_ge i (addE T e).length with k | k
   ·exact k
   ·rw [List.getElem?_eq_none k] at hi; cases hi
  have ht : ¬ e.say.text.size = 0 := fun ht => by rw [if_pos ht] at hL; omega
  rw [if_neg ht] at hL
  obtain rfl : i = T.length + 1 := by omega
  rw [new_text ht] at hi
  obtain rfl := Option.some.inj hi
  exact .inl rfl

theorem idsTo_app {T : List Tk} (X : List Tk) : ∀ e, e <= T.length -> idsTo (T ++ X) e = idsTo T e := by
 intro e
 induction e with
 | zero => exact fun _ => rfl
 | succ e ih =>
  intro he
  rw [idsTo_next, idsTo_next, ih (by omega), idAt_app X (by omega)]

theorem ids_add {h : Tk} {T : List Tk} {e : En} (he : EnOk h e) : idsTo (addE T e) (addE T e).length = idsTo T T.length := by
 have i1 : idAt (addE T e) T.length = none := by
  unfold idAt
  rw [new_at]
  exact he.noId
 have e1 : idsTo (addE T e) (T.length + 1) = idsTo T T.length := by
  rw [idsTo_none i1, addE_is, idsTo_app _ _ (Nat.le_refl _)]
 rw [addE_len]
 by_cases ht : e.say.text.size = 0
 ·rw [if_pos ht]; exact e1
 ·rw [if_neg ht, show T.length + 2 = T.length + 1 + 1 by omega, idsTo_none (by unfold idAt; rw [new_text ht]; rfl)]
  exact e1

theorem flatE_len (h : Tk) (E : List En) : (flatE h E).length <= 1 + 2 * E.length := by
 refine snoc_ind (P := fun E => (flatE h E).length <= 1 + 2 * E.length) (Nat.le_refl _) (fun E e ih => ?_) E
 rw [flatE_snoc, addE_len, List.length_append]
 have : [e].length = 1 := rfl
 split <;> omega

theorem flat_ok (h : Tk) (h0 : NamesP [h]) (h1 : IdsP [h] 1) (E : List En) (hE : ∀ e ∈ E, EnOk h e) (hl : E.length <= 20) : NamesP (flatE h E) /\ IdsP (flatE h E) (flatE h E).length := by
 have key : ∀ E : List En, (∀ e ∈ E, EnOk h e) -> E.length <= 20 -> NamesP (flatE h E) /\ idsTo (flatE h E) (flatE h E).length = idsTo [h] 1 := by
  refine snoc_ind (P := fun E => (∀ e ∈ E, EnOk h e) -> E.length <= 20 -> NamesP (flatE h E) /\ idsTo (flatE h E) (flatE h E).length = idsTo [h] 1) (fun _ _ => ⟨h0, rfl⟩) (fun E e ih hE hl => ?_)
  have hle : E.length + 1 <= 20 := by simpa using hl
  obtain ⟨i1, i2⟩ := ih (fun x hx => hE x (by simp [hx])) (by omega)
  have he := hE e (by simp)
  rw [flatE_snoc]
  have hlen := flatE_len h (E ++ [e])
  rw [flatE_snoc, List.length_append, show [e].length = 1 from rfl] at hlen
  exact ⟨(flat_all h E).names i1 he (by omega), by rw [ids_add he]; exact i2⟩
 obtain ⟨k1, k2⟩ := key E hE hl
 refine ⟨k1, ?_⟩
 unfold IdsP at h1 ⊢
 rw [k2]
 exact h1

end Go.Proofs.YtlpbbkaelbafdaaGreatDoor

namespace Go.Proofs.YtlpbbkaelbafdaaGreatDoor
open Go.RowKit

def cS : ByteArray := ⟨#[99]⟩

theorem plain_of {signs s : ByteArray} {m : Nat} (hs : plainL signs.data.toList = true) (h : ofB signs m s = true) : plainL s.data.toList = true /\ s.size <= m := by
 unfold ofB at h
 rw [Bool.and_eq_true] at h
 refine ⟨?_, of_decide_eq_true h.2⟩
 unfold plainL at hs ⊢
 refine List.all_eq_true.2 (fun c hc => ?_)
 obtain ⟨d, hd, e⟩ := List.any_eq_true.1 (List.all_eq_true.1 h.1 c hc)
 rw [<- of_decide_eq_true e]
 exact List.all_eq_true.1 hs d hd

theorem word_plain {s : ByteArray} (h : wordB s = true) : plainL s.data.toList = true /\ s.size <= 20 := by
 unfold wordB at h
 rw [Bool.and_eq_true] at h
 exact plain_of (by decide) h.2

theorem id_plain {s : ByteArray} (h : idOk s = true) : plainL s.data.toList = true /\ s.size <= 12 := by
 unfold idOk at h
 rw [Bool.and_eq_true] at h
 exact plain_of (by decide) h.2

theorem id_ne {s : ByteArray} (h : idOk s = true) : ¬ s.size = 0 := by
 intro e
 unfold idOk at h
 rw [decide_eq_true e] at h
 simp at h

theorem fval_plain {s : ByteArray} (h : fvalB s = true) : plainL s.data.toList = true /\ 1 <= s.size /\ s.size <= 30 := by
 unfold fvalB at h
 split at h
 ·rename_i hs
  simp only [Bool.and_eq_true] at h
  exact ⟨h.1.1, hs.1, hs.2⟩
 ·cases h

theorem text_ok {s : ByteArray} (h1 : plainL s.data.toList = true) (h2 : ¬ s.size = 0) (h3 : s.size <= 60) : textB s = true := by
 unfold textB
 rw [h1, decide_eq_true (by omega)]
 rfl

theorem dgt_plain {k : Nat} (h : k < 10) : plainB ((dgt k).toNat : Int) = true := by
 rw [dgt_toNat k h]
 unfold plainB
 rw [decide_eq_true (by omega), decide_eq_true (by omega)]
 rfl

theorem two_plain {k : Nat} (h : k < 100) : plainL (two k) = true := by
 unfold two plainL
 simp only [List.all_cons, List.all_nil, Bool.and_true, Bool.and_eq_true]
 exact ⟨dgt_plain (by omega), dgt_plain (by omega)⟩

theorem plainL_app (a b : List UInt8) : plainL (a ++ b) = (plainL a && plainL b) := by unfold plainL; rw [List.all_append]

theorem qTx_plain (x : Int) : plainL (qTx x).data.toList = true /\ (qTx x).size <= 60 := by
 by_cases h : 0 <= x /\ x <= 3155759999
 ·obtain ⟨n, rfl⟩ : ∃ n : Nat, x = n := ⟨x.toNat, by omega⟩
  have ht := textOf_is (t := n) (by omega)
  have hl := isText_length ht
  obtain ⟨k, m, dd, a, e⟩ := ht
  have h1 := a.k1
  have h2 := a.m1
  have h3 := a.d1
  have h4 := (dm_pos (lp k) m a.m0 a.m1).2
  have h5 : lp k <= 1 := by unfold lp; split <;> omega
  refine ⟨?_, ?_⟩
  ·show plainL (textOf n).toArray.toList = true
   rw [List.toList_toArray, e]
   unfold txt
   simp only [plainL_app, Bool.and_eq_true]
   refine ⟨⟨⟨⟨⟨⟨⟨⟨⟨⟨⟨⟨by decide, two_plain (by omega)⟩, by decide⟩, two_plain (by omega)⟩, by decide⟩, two_plain (by omega)⟩, by decide⟩, two_plain (by omega)⟩, by decide⟩, two_plain (by omega)⟩, by decide⟩, two_plain (by omega)⟩, by decide⟩
  ·show (textOf n).toArray.size <= 60
   rw [List.size_toArray]
   omega
 ·unfold qTx textOf
  rw [if_neg h]
  exact ⟨rfl, by decide⟩

theorem time_back {x : Int} (h : timeB x = true) : timeOf (qTx x).data.toList = (x, true) := by
 have h' := of_decide_eq_true h
 obtain ⟨n, rfl⟩ : ∃ n : Nat, x = n := ⟨x.toNat, by omega⟩
 exact timeOf_yes (by omega) (show textOf n = (textOf n).toArray.toList by rw [List.toList_toArray])

theorem declF_no {x : At} (h1 : ¬ x.name = nsS) (h2 : ¬ preS x.name = nsS) : declF x = none := by
 unfold declF
 rw [if_neg h1, if_neg h2]

theorem right_no {x : At} (h : declF x = none) : rightB x = true := by
 unfold rightB
 rw [h]

theorem declB_no {x : At} (h : declF x = none) (p : ByteArray) : declB p x = false := by
 unfold declB
 rw [h]
 simp

theorem cnt_no {x : At} (h : (preS x.name).size = 0) : cntB x = false := by
 unfold cntB
 rw [decide_eq_true h]
 simp

theorem decl_c : declF ⟨nsCS, claimS⟩ = some cS := by
 unfold declF
 rw [if_neg (show ¬ nsCS = nsS by decide), if_pos (show preS nsCS = nsS by decide)]
 exact congrArg some (show locS nsCS = cS by decide)

theorem decl_id (v : ByteArray) : declF ⟨idS, v⟩ = none := declF_no (show ¬ idS = nsS by decide) (show ¬ preS idS = nsS by decide)

theorem right_c : rightB ⟨nsCS, claimS⟩ = true := by
 unfold rightB
 rw [decl_c]
 decide

theorem mean_c {l : List At} (h : ∀ x ∈ l, declF x = none) (c : Cm) : meanL (l ++ (headT c).attrs) cS = some claimS := by
 have hr : (l ++ (headT c).attrs).all rightB = true := by
  refine List.all_eq_true.2 (fun x hx => ?_)
  rcases List.mem_append.1 hx with h' | h'
  ·exact right_no (h x h')
  ·rcases List.mem_cons.1 h' with rfl | h'
   ·exact right_c
   ·rw [List.mem_singleton.1 h']
    exact right_no (decl_id _)
 have hf : (l ++ (headT c).attrs).find? (declB cS) = some ⟨nsCS, claimS⟩ := by
  rw [List.find?_append, List.find?_eq_none.2 (fun x hx => by rw [declB_no (h x hx)]; decide)]
  show List.find? (declB cS) [(⟨nsCS, claimS⟩ : At), ⟨idS, c.id⟩] = some (⟨nsCS, claimS⟩ : At)
  rw [List.find?_cons_of_pos]
  unfold declB
  rw [decl_c]
  simp
 unfold meanL
 rw [if_pos hr, hf]

theorem kid_pre (k : Nat) (hk : k < 6) : preS (kidN k) = cS /\ locS (kidN k) = localN k /\ nameL (kidN k).data.toList = true /\ ¬ (kidN k).size = 0 := by
 match k, hk with
 | 0, _ => decide
 | 1, _ => decide
 | 2, _ => decide
 | 3, _ => decide
 | 4, _ => decide
 | 5, _ => decide

theorem local_inj (k q : Nat) (hk : k < 6) (hq : q < 6) (h : localN k = localN q) : k = q := by
 match k, hk, q, hq with
 | 0, _, 0, _ => rfl
 | 1, _, 1, _ => rfl
 | 2, _, 2, _ => rfl
 | 3, _, 3, _ => rfl
 | 4, _, 4, _ => rfl
 | 5, _, 5, _ => rfl
 | 0, _, 1, _ | 0, _, 2, _ | 0, _, 3, _ | 0, _, 4, _ | 0, _, 5, _ => exact absurd h (by decide)
 | 1, _, 0, _ | 1, _, 2, _ | 1, _, 3, _ | 1, _, 4, _ | 1, _, 5, _ => exact absurd h (by decide)
 | 2, _, 0, _ | 2, _, 1, _ | 2, _, 3, _ | 2, _, 4, _ | 2, _, 5, _ => exact absurd h (by decide)
 | 3, _, 0, _ | 3, _, 1, _ | 3, _, 2, _ | 3, _, 4, _ | 3, _, 5, _ => exact absurd h (by decide)
 | 4, _, 0, _ | 4, _, 1, _ | 4, _, 2, _ | 4, _, 3, _ | 4, _, 5, _ => exact absurd h (by decide)
 | 5, _, 0, _ | 5, _, 1, _ | 5, _, 2, _ | 5, _, 3, _ | 5, _, 4, _ => exact absurd h (by decide)

def entTo (c : Cm) (u v : ByteArray) : Nat -> List En
 | 0 => []
 | k + 1 => entTo c u v k ++ (saysL c u v k).map (fun s => ⟨kidN k, s⟩)

theorem addAll_flat (L : List Tk) (name : ByteArray) (l : List Say) : addAll L name l = (l.map (fun s => (⟨name, s⟩ : En))).foldl addE L := by
 unfold addAll
 rw [List.foldl_map]
 rfl

theorem tree_flat (c : Cm) (u v : ByteArray) : ∀ k, treeTo c u v k = flatE (headT c) (entTo c u v k)
 | 0 => rfl
 | k + 1 => by
  show addAll (treeTo c u v k) (kidN k) (saysL c u v k) = (entTo c u v k ++ (saysL c u v k).map (fun s => (⟨kidN k, s⟩ : En))).foldl addE [headT c]
  rw [List.foldl_append, addAll_flat, tree_flat c u v k]
  rfl

def PlainA (l : List At) : Prop := ∀ x ∈ l, declF x = none /\ (preS x.name).size = 0 /\ ¬ x.name = idS

theorem says_plain (c : Cm) (u v : ByteArray) (k : Nat) : ∀ s ∈ saysL c u v k, PlainA s.attrs := by
 have t : ∀ (x : ByteArray), ∀ s ∈ txtL x, PlainA s.attrs := fun x s hs => by
  unfold txtL at hs
  split at hs
  ·cases hs
  ·rw [List.mem_singleton.1 hs]
   exact fun y hy => by cases hy
 have n : ∀ (nm w : ByteArray), (¬ nm = nsS) -> (¬ preS nm = nsS) -> (preS nm).size = 0 -> (¬ nm = idS) -> declF ⟨nm, w⟩ = none /\ (preS nm).size = 0 /\ ¬ nm = idS := fun nm w a b d e => ⟨declF_no a b, d, e⟩
 match k with
 | 0 => exact t _
 | 1 => exact t _
 | 2 =>
  intro s hs
  have hs' : s = ⟨[⟨fromS, u⟩, ⟨toS, v⟩], nE⟩ := List.mem_singleton.1 hs
  subst hs'
  intro x hx
  have hx' : x = ⟨fromS, u⟩ \/ x = ⟨toS, v⟩ := by simpa using hx
  rcases hx' with rfl | rfl
  ·exact n fromS u (by decide) (by decide) (by decide) (by decide)
  ·exact n toS v (by decide) (by decide) (by decide) (by decide)
 | 3 => exact t _
 | 4 => exact t _
 | k + 5 =>
  intro s hs
  have hs' : s ∈ factL c.facts := hs
  unfold factL at hs'
  obtain ⟨f, _, rfl⟩ := List.mem_map.1 hs'
  intro x hx
  have hx' : x = ⟨nameS, f.name⟩ := List.mem_singleton.1 hx
  subst hx'
  exact n nameS _ (by decide) (by decide) (by decide) (by decide)

theorem ent_is (c : Cm) {k : Nat} (hk : k < 6) {s : Say} (hs : PlainA s.attrs) (loc : ByteArray) : entB (headT c) loc ⟨kidN k, s⟩ = true ↔ localN k = loc := by
 obtain ⟨p1, p2, p3, p4⟩ := kid_pre k hk
 unfold entB
 rw [p1, p2, mean_c (fun x hx => (hs x hx).1), decide_eq_false p4]
 simp

theorem filter_kind (c : Cm) (u v : ByteArray) {q : Nat} (hq : q < 6) : ∀ k, k <= 6 -> ((entTo c u v k).filter (entB (headT c) (localN q))).map (·.say) = if q < k then saysL c u v q else []
 | 0, _ => by rw [if_neg (by omega)]; rfl
 | k + 1, h => by
  show ((entTo c u v k ++ (saysL c u v k).map (fun s => (⟨kidN k, s⟩ : En))).filter _).map _ = _
  rw [List.filter_append, List.map_append, filter_kind c u v hq k (by omega)]
  have hm : ∀ e ∈ (saysL c u v k).map (fun s => (⟨kidN k, s⟩ : En)), (entB (headT c) (localN q) e = true ↔ localN k = localN q) := fun e he => by
   obtain ⟨s, hs, rfl⟩ := List.mem_map.1 he
   exact ent_is c (by omega) (says_plain c u v k s hs) _
  by_cases hkq : k = q
  ·subst hkq
   rw [if_neg (by omega), if_pos (by omega), List.filter_eq_self.2 (fun e he => (hm e he).2 rfl), List.map_map]
   show [] ++ (saysL c u v k).map (fun s => s) = _
   rw [List.map_id', List.nil_append]
  ·rw [List.filter_eq_nil_iff.2 (fun e he => fun hh => hkq (local_inj k q (by omega) hq ((hm e he).1 hh)))]
   by_cases h1 : q < k
   ·rw [if_pos h1, if_pos (by omega)]; exact List.append_nil _
   ·rw [if_neg h1, if_neg (by omega)]; rfl

end Go.Proofs.YtlpbbkaelbafdaaGreatDoor

namespace Go.Proofs.YtlpbbkaelbafdaaGreatDoor
open Go.RowKit

theorem hearB_t (s : Say) : hearB 2 s = ((hearT s fromS).2 && (hearT s toS).2) := rfl

theorem dec_of {c : Cm} (hc : claimB c = true) {T : List Tk} (hid0 : (valF (atN T 0) idS).getD ByteArray.empty = c.id) (hs : ∀ q, q < 6 -> sayL T (kidsK T 0 (localN q)) = saysL c (qTx c.frm) (qTx c.til) q) :
  (∀ q, q < 6 -> decX T 0 q = true) /\ decC T 0 6 = c := by
 have hcc := hc
 unfold claimB at hc
 simp only [Bool.and_eq_true] at hc
 obtain ⟨⟨⟨⟨⟨⟨⟨b1, b2⟩, b3⟩, b4⟩, b5⟩, b6⟩, b7⟩, b8⟩ := hc
 have n2 := word_ne b2
 have n3 := word_ne b3
 have n4 := word_ne b4
 have s0 : sayL T (kidsK T 0 (localN 0)) = [⟨[], c.iss⟩] := (hs 0 (by omega)).trans (txtL_one n2)
 have s1 : sayL T (kidsK T 0 (localN 1)) = [⟨[], c.sub⟩] := (hs 1 (by omega)).trans (txtL_one n3)
 have s2 : sayL T (kidsK T 0 (localN 2)) = [⟨[⟨fromS, qTx c.frm⟩, ⟨toS, qTx c.til⟩], nE⟩] := hs 2 (by omega)
 have s3 : sayL T (kidsK T 0 (localN 3)) = [⟨[], c.whom⟩] := (hs 3 (by omega)).trans (txtL_one n4)
 have s4 : sayL T (kidsK T 0 (localN 4)) = txtL c.ans := hs 4 (by omega)
 have s5 : sayL T (kidsK T 0 (localN 5)) = factL c.facts := hs 5 (by omega)
 have v1 : valF [⟨fromS, qTx c.frm⟩, ⟨toS, qTx c.til⟩] fromS = some (qTx c.frm) := by unfold valF; simp
 have v2 : valF [⟨fromS, qTx c.frm⟩, ⟨toS, qTx c.til⟩] toS = some (qTx c.til) := by
  unfold valF
  rw [List.find?_cons_of_neg (by simp; decide)]
  simp
 have t1 : hearT ⟨[⟨fromS, qTx c.frm⟩, ⟨toS, qTx c.til⟩], nE⟩ fromS = (c.frm, true) := by
  unfold hearT
  rw [v1]
  exact time_back b6
 have t2 : hearT ⟨[⟨fromS, qTx c.frm⟩, ⟨toS, qTx c.til⟩], nE⟩ toS = (c.til, true) := by
  unfold hearT
  rw [v2]
  exact time_back b7
 have hn : ∀ (x : At), (valF [⟨nameS, x.name⟩] nameS) = some x.name := fun x => by unfold valF; simp
 refine ⟨fun q hq => ?_, ?_⟩
 ·unfold decX allB
  match q, hq with
  | 0, _ => rw [s0]; simp [leN, moN, hearB, n2]
  | 1, _ => rw [s1]; simp [leN, moN, hearB, n3]
  | 2, _ =>
   rw [s2]
   have : hearB 2 ⟨[⟨fromS, qTx c.frm⟩, ⟨toS, qTx c.til⟩], nE⟩ = true := by
    rw [hearB_t, t1, t2]
    rfl
   simp [leN, moN, this]
  | 3, _ => rw [s3]; simp [leN, moN, hearB, n4]
  | 4, _ =>
   rw [s4]
   unfold txtL
   by_cases h : c.ans.size = 0
   ·rw [if_pos h]; simp [leN, moN]
   ·rw [if_neg h]; simp [leN, moN, hearB, h]
  | 5, _ =>
   rw [s5]
   have h4 := (factsB_p b8).1
   have : (factL c.facts).all (hearB 5) = true := by
    refine List.all_eq_true.2 (fun s hs => ?_)
    unfold factL at hs
    obtain ⟨f, _, rfl⟩ := List.mem_map.1 hs
    show (valF [⟨nameS, f.name⟩] nameS).isSome = true
    rw [hn]
    rfl
   rw [this, factL_len]
   simp [leN, moN]
   omega
 ·have c0 : decC T 0 0 = ⟨c.id, ⟨#[]⟩, ⟨#[]⟩, 0, 0, ⟨#[]⟩, ⟨#[]⟩, []⟩ := by rw [decC_zero, hid0]
  have c1 : decC T 0 1 = ⟨c.id, c.iss, ⟨#[]⟩, 0, 0, ⟨#[]⟩, ⟨#[]⟩, []⟩ := by
   rw [show decC T 0 1 = _ from decC_succ T 0 0, s0, c0, List.foldl_cons, List.foldl_nil, hc0]
  have c2 : decC T 0 2 = ⟨c.id, c.iss, c.sub, 0, 0, ⟨#[]⟩, ⟨#[]⟩, []⟩ := by
   rw [show decC T 0 2 = _ from decC_succ T 0 1, s1, c1, List.foldl_cons, List.foldl_nil, hc1]
  have c3 : decC T 0 3 = ⟨c.id, c.iss, c.sub, c.frm, c.til, ⟨#[]⟩, ⟨#[]⟩, []⟩ := by
   rw [show decC T 0 3 = _ from decC_succ T 0 2, s2, c2, List.foldl_cons, List.foldl_nil, hc2, t1, t2]
  have c4 : decC T 0 4 = ⟨c.id, c.iss, c.sub, c.frm, c.til, c.whom, ⟨#[]⟩, []⟩ := by
   rw [show decC T 0 4 = _ from decC_succ T 0 3, s3, c3, List.foldl_cons, List.foldl_nil, hc3]
  have c5 : decC T 0 5 = ⟨c.id, c.iss, c.sub, c.frm, c.til, c.whom, c.ans, []⟩ := by
   rw [show decC T 0 5 = _ from decC_succ T 0 4, s4, c4]
   unfold txtL
   by_cases h : c.ans.size = 0
   ·rw [if_pos h, List.foldl_nil]
    rw [show c.ans = ⟨#[]⟩ from ByteArray.ext (Array.eq_empty_of_size_eq_zero h)]
   ·rw [if_neg h, List.foldl_cons, List.foldl_nil, hc4]
  rw [show decC T 0 6 = _ from decC_succ T 0 5, fold5, c5, s5]
  have e : (factL c.facts).map (fun s => (⟨(valF s.attrs nameS).getD ByteArray.empty, s.text⟩ : At)) = c.facts := by
   unfold factL
   rw [List.map_map]
   have : ((fun s : Say => (⟨(valF s.attrs nameS).getD ByteArray.empty, s.text⟩ : At)) ∘ fun f : At => (⟨[⟨nameS, f.name⟩], f.value⟩ : Say)) = fun f => f := by
    funext f
    show (⟨(valF [⟨nameS, f.name⟩] nameS).getD ByteArray.empty, f.value⟩ : At) = f
    rw [hn]
    rfl
   rw [this, List.map_id']
  rw [e]
  rfl

theorem id_head (c : Cm) : valF (headT c).attrs idS = some c.id := by
 unfold valF
 show Option.map _ (List.find? _ [(⟨nsCS, claimS⟩ : At), ⟨idS, c.id⟩]) = _
 rw [List.find?_cons_of_neg (by simp; decide)]
 simp

theorem id_flat (c : Cm) (E : List En) : (valF (atN (flatE (headT c) E) 0) idS).getD ByteArray.empty = c.id := by
 have h := (flat_all (headT c) E).head
 have e : atN (flatE (headT c) E) 0 = (headT c).attrs := by unfold atN; rw [h]
 rw [e, id_head]
 rfl

theorem head_known (c : Cm) (E : List En) : (!decide ((nameI (flatE (headT c) E) 0).size = 0) && knownN (flatE (headT c) E) 0 (⟨#[67, 108, 97, 105, 109]⟩ : ByteArray) claimS) = true := by
 have h := (flat_all (headT c) E).head
 have hp := (flat_all (headT c) E).pos
 have e : nameI (flatE (headT c) E) 0 = cClaimS := by unfold nameI; rw [h]; rfl
 have hm : meanF (flatE (headT c) E) 0 cS = some claimS := by
  unfold meanF
  show meanL (upAts (flatE (headT c) E) [0]) cS = _
  have e2 : upAts (flatE (headT c) E) [0] = [] ++ (headT c).attrs := by unfold upAts; rw [List.flatMap_cons, h]; simp
  rw [e2]
  exact mean_c (fun x hx => by cases hx) c
 unfold knownN
 rw [e, show preS cClaimS = cS by decide, show locS cClaimS = ⟨#[67, 108, 97, 105, 109]⟩ by decide, hm]
 simp
 decide

def otherS : ByteArray := ⟨#[111, 116, 104, 101, 114]⟩
def wS : ByteArray := ⟨#[119]⟩
def xS : ByteArray := ⟨#[120]⟩
def otherE : En := ⟨otherS, ⟨[⟨nsS, wS⟩], xS⟩⟩

theorem other_not (h : Tk) {q : Nat} (hq : q < 6) : entB h (localN q) otherE = false := by
 have : ¬ locS otherE.name = localN q := by
  match q, hq with
  | 0, _ => decide
  | 1, _ => decide
  | 2, _ => decide
  | 3, _ => decide
  | 4, _ => decide
  | 5, _ => decide
 unfold entB
 simp [this]

theorem says_tree (c : Cm) (u v : ByteArray) {q : Nat} (hq : q < 6) : sayL (flatE (headT c) (entTo c u v 6)) (kidsK (flatE (headT c) (entTo c u v 6)) 0 (localN q)) = saysL c u v q := by
 rw [flat_says, filter_kind c u v hq 6 (Nat.le_refl _), if_pos hq]

theorem says_more (c : Cm) (u v : ByteArray) {q : Nat} (hq : q < 6) : sayL (flatE (headT c) (entTo c u v 6 ++ [otherE])) (kidsK (flatE (headT c) (entTo c u v 6 ++ [otherE])) 0 (localN q)) = saysL c u v q := by
 rw [flat_says, List.filter_append, List.map_append, filter_kind c u v hq 6 (Nat.le_refl _), if_pos hq, List.filter_cons_of_neg (by rw [other_not _ hq]; decide)]
 exact List.append_nil _

theorem entTo_len {c : Cm} {u v : ByteArray} (h : c.facts.length <= 4) : (entTo c u v 6).length <= 9 := by
 have t := txtL_len
 show ((((((([] : List En) ++ (txtL c.iss).map _) ++ (txtL c.sub).map _) ++ [_].map _) ++ (txtL c.whom).map _) ++ (txtL c.ans).map _) ++ (factL c.facts).map _).length <= 9
 simp only [List.length_append, List.length_map, List.length_nil, List.length_cons, factL_len]
 have h1 := t c.iss
 have h2 := t c.sub
 have h3 := t c.whom
 have h4 := t c.ans
 omega

theorem atsOk_one {x : At} (h : atOk x) : attrsB [x] = true := attrsB_t ⟨show 1 <= 6 by decide, fun j hj _ => by
 have : j = 0 := by simpa using hj
 subst this
 exact h, fun i j hi hj _ => by
  have : i = 0 := by simpa using hi
  omega⟩

theorem atsOk_two {x y : At} (h : atOk x) (h2 : atOk y) (hne : ¬ x.name = y.name) : attrsB [x, y] = true := attrsB_t ⟨show 2 <= 6 by decide, fun j hj _ => by
 match j, hj with
 | 0, _ => exact h
 | 1, _ => exact h2, fun i j hi hj _ => by
  match i, j, hi, hj with
  | 1, 0, _, _ => exact hne⟩

theorem node_of {name : ByteArray} {l : List At} (h1 : nameL name.data.toList = true) (h2 : ¬ name.size = 0) (h3 : attrsB l = true) : nodeB ⟨0, name, l, nE⟩ = true := by
 unfold nodeB
 rw [if_neg h2, h1, h3]
 rfl

theorem says_ok {c : Cm} (hc : claimB c = true) (k : Nat) (hk : k < 6) : ∀ s ∈ saysL c (qTx c.frm) (qTx c.til) k, attrsB s.attrs = true /\ (s.text.size = 0 \/ textB s.text = true) := by
 unfold claimB at hc
 simp only [Bool.and_eq_true] at hc
 obtain ⟨⟨⟨⟨⟨⟨⟨b1, b2⟩, b3⟩, b4⟩, b5⟩, b6⟩, b7⟩, b8⟩ := hc
 have a0 : attrsB [] = true := attrsB_t ⟨show 0 <= 6 by decide, fun j hj _ => absurd hj (Nat.not_lt_zero _), fun i j hi hj _ => absurd hi (Nat.not_lt_zero _)⟩
 have t : ∀ (x : ByteArray), plainL x.data.toList = true -> x.size <= 60 -> ∀ s ∈ txtL x, attrsB s.attrs = true /\ (s.text.size = 0 \/ textB s.text = true) := fun x h1 h2 s hs => by
  unfold txtL at hs
  split at hs
  ·cases hs
  ·rename_i h0
   rw [List.mem_singleton.1 hs]
   exact ⟨a0, .inr (text_ok h1 h0 h2)⟩
 have w := fun {x : ByteArray} (h : wordB x = true) => t x (word_plain h).1 (Nat.le_trans (word_plain h).2 (by decide))
 match k, hk with
 | 0, _ => exact w b2
 | 1, _ => exact w b3
 | 2, _ =>
  intro s hs
  have hs' : s = ⟨[⟨fromS, qTx c.frm⟩, ⟨toS, qTx c.til⟩], nE⟩ := List.mem_singleton.1 hs
  subst hs'
  exact ⟨atsOk_two ⟨show nameL fromS.data.toList = true by decide, (qTx_plain _).1, (qTx_plain _).2⟩ ⟨show nameL toS.data.toList = true by decide, (qTx_plain _).1, (qTx_plain _).2⟩ (show ¬ fromS = toS by decide), .inl rfl⟩
 | 3, _ => exact w b4
 | 4, _ =>
  intro s hs
  have hs' : s ∈ txtL c.ans := hs
  by_cases h0 : c.ans.size = 0
  ·unfold txtL at hs'
   rw [if_pos h0] at hs'
   cases hs'
  ·have : idOk c.ans = true := by
    rw [decide_eq_false h0] at b5
    simpa using b5
   exact t c.ans (id_plain this).1 (Nat.le_trans (id_plain this).2 (by decide)) s hs'
 | 5, _ =>
  intro s hs
  have hs' : s ∈ factL c.facts := hs
  unfold factL at hs'
  obtain ⟨f, hf, rfl⟩ := List.mem_map.1 hs'
  obtain ⟨i, hi, rfl⟩ := List.getElem_of_mem hf
  have hp := (factsB_p b8).2 i hi hi
  have h1 := word_plain hp.1
  have h2 := fval_plain hp.2.1
  exact ⟨atsOk_one ⟨show nameL nameS.data.toList = true by decide, h1.1, Nat.le_trans h1.2 (by decide)⟩, .inr (text_ok (s := c.facts[i].value) h2.1 (by omega) (by omega))⟩

theorem plain_noId {l : List At} (h : PlainA l) : valF l idS = none := by
 unfold valF
 rw [List.find?_eq_none.2 (fun x hx => by simp [(h x hx).2.2])]
 rfl

theorem ent_ok {c : Cm} (hc : claimB c = true) : ∀ k, k <= 6 -> ∀ e ∈ entTo c (qTx c.frm) (qTx c.til) k, EnOk (headT c) e
 | 0, _, e, he => by cases he
 | k + 1, hk, e, he => by
  have he' : e ∈ entTo c (qTx c.frm) (qTx c.til) k ++ (saysL c (qTx c.frm) (qTx c.til) k).map (fun s => (⟨kidN k, s⟩ : En)) := he
  rcases List.mem_append.1 he' with h | h
  ·exact ent_ok hc k (by omega) e h
  ·obtain ⟨s, hs, rfl⟩ := List.mem_map.1 h
   obtain ⟨p1, p2, p3, p4⟩ := kid_pre k (by omega)
   have hp := says_plain c _ _ k s hs
   have ho := says_ok hc k (by omega) s hs
   exact ⟨node_of p3 p4 ho.1, p4, ho.2, by show (meanL (s.attrs ++ (headT c).attrs) (preS (kidN k))).isSome = true; rw [p1, mean_c (fun x hx => (hp x hx).1)]; rfl, by show ¬ preS (kidN k) = nsS; rw [p1]; decide, fun x hx => cnt_no (hp x hx).2.1, plain_noId hp⟩

theorem other_ok (c : Cm) : EnOk (headT c) otherE := by
 have hd : declF ⟨nsS, wS⟩ = some ⟨#[]⟩ := by unfold declF; rw [if_pos rfl]
 refine ⟨node_of (by decide) (by decide) (atsOk_one ⟨by decide, by decide, by decide⟩), by decide, .inr (text_ok (by decide) (by decide) (by decide)), ?_, by decide, fun x hx => ?_, ?_⟩
 ·have hr : ([(⟨nsS, wS⟩ : At)] ++ (headT c).attrs).all rightB = true := by
   refine List.all_eq_true.2 (fun x hx => ?_)
   rcases List.mem_cons.1 hx with rfl | h'
   ·unfold rightB
    rw [hd]
    decide
   ·rcases List.mem_cons.1 h' with rfl | h'
    ·exact right_c
    ·rw [List.mem_singleton.1 h']
     exact right_no (decl_id _)
  show (meanL ([(⟨nsS, wS⟩ : At)] ++ (headT c).attrs) (preS otherS)).isSome = true
  unfold meanL
  rw [if_pos hr, show preS otherS = ⟨#[]⟩ by decide]
  have hf : ([(⟨nsS, wS⟩ : At)] ++ (headT c).attrs).find? (declB ⟨#[]⟩) = some ⟨nsS, wS⟩ := by
   show List.find? _ ((⟨nsS, wS⟩ : At) :: (headT c).attrs) = _
   rw [List.find?_cons_of_pos]
   unfold declB
   rw [hd]
   simp
  rw [hf]
  rfl
 ·have hx' : x = ⟨nsS, wS⟩ := List.mem_singleton.1 hx
  subst hx'
  exact cnt_no (by decide)
 ·unfold valF
  show Option.map _ (List.find? _ [(⟨nsS, wS⟩ : At)]) = none
  rw [List.find?_cons_of_neg (by simp; decide)]
  rfl

theorem head_names {c : Cm} (hc : claimB c = true) : NamesP [headT c] /\ IdsP [headT c] 1 := by
 have hid := (claim_parts hc).1
 have hn : nodeB (headT c) = true := by
  show nodeB ⟨-1, cClaimS, [⟨nsCS, claimS⟩, ⟨idS, c.id⟩], nE⟩ = true
  unfold nodeB
  rw [if_neg (show ¬ cClaimS.size = 0 by decide), show nameL cClaimS.data.toList = true by decide, atsOk_two ⟨show nameL nsCS.data.toList = true by decide, show plainL claimS.data.toList = true by decide, show claimS.size <= 60 by decide⟩ ⟨show nameL idS.data.toList = true by decide, (id_plain hid).1, Nat.le_trans (id_plain hid).2 (by decide)⟩ (show ¬ nsCS = idS by decide)]
  rfl
 have hm : meanF [headT c] 0 cS = some claimS := by
  unfold meanF
  show meanL (upAts [headT c] [0]) cS = _
  exact mean_c (l := []) (fun x hx => by cases hx) c
 refine ⟨⟨⟨Nat.le_refl 1, show 1 <= 50 by decide, rfl, ⟨Nat.one_pos, show ¬ cClaimS.size = 0 by decide⟩, fun i hi => ?_⟩, fun i t hi => ?_⟩, ?_⟩
 ·have : i = 0 := by simpa using hi
  subst this
  exact ⟨⟨Nat.one_pos, hn⟩, .inl rfl, by show [0].length <= 9; decide, fun ⟨_, h0, _⟩ => absurd h0 (by decide)⟩
 ·have : i = 0 := by
   rcases Nat.eq_zero_or_pos i with h | h
   ·exact h
   ·rw [List.getElem?_eq_none (by show 1 <= i; omega)] at hi; cases hi
  subst this
  obtain rfl := Option.some.inj hi
  have hcn : ∀ x ∈ (headT c).attrs, cntB x = false := fun x hx => by
   rcases List.mem_cons.1 hx with rfl | h'
   ·unfold cntB
    rw [decl_c]
    rfl
   ·rw [List.mem_singleton.1 h']
    exact cnt_no (show (preS idS).size = 0 by decide)
  refine .inr ⟨by show (meanF [headT c] 0 (preS cClaimS)).isSome = true; rw [show preS cClaimS = cS by decide, hm]; rfl, show ¬ preS cClaimS = nsS by decide, fun x hx hcx => ?_, ?_⟩
  ·rw [hcn x hx] at hcx
   cases hcx
  ·unfold keysN
   rw [List.filter_eq_nil_iff.2 (fun x hx => by rw [hcn x hx]; decide)]
   exact List.nodup_nil
 ·have e : idsTo [headT c] 1 = [c.id] := by
   rw [idsTo_next]
   show [] ++ (idAt [headT c] 0).toList = _
   have : idAt [headT c] 0 = some c.id := id_head c
   rw [this]
   rfl
  unfold IdsP
  rw [e]
  exact ⟨fun v hv => by rw [List.mem_singleton.1 hv]; exact hid, List.pairwise_singleton _ _⟩

theorem claim_back {c : Cm} (hc : claimB c = true) (E : List En) (hE : E = entTo c (qTx c.frm) (qTx c.til) 6 \/ E = entTo c (qTx c.frm) (qTx c.til) 6 ++ [otherE]) :
  namesB (flatE (headT c) E) = true /\ idsB (flatE (headT c) E) = true /\ qdI (flatE (headT c) E) 0 = true /\ qdV (flatE (headT c) E) 0 = c := by
 obtain ⟨h0, h1⟩ := head_names hc
 have hl := entTo_len (u := qTx c.frm) (v := qTx c.til) (claim_parts hc).2.2.2.2
 have hok : (∀ e ∈ E, EnOk (headT c) e) /\ E.length <= 20 := by
  rcases hE with rfl | rfl
  ·exact ⟨ent_ok hc 6 (Nat.le_refl _), by omega⟩
  ·refine ⟨fun e he => ?_, by rw [List.length_append, show [otherE].length = 1 from rfl]; omega⟩
   rcases List.mem_append.1 he with h | h
   ·exact ent_ok hc 6 (Nat.le_refl _) e h
   ·rw [List.mem_singleton.1 h]
    exact other_ok c
 obtain ⟨k1, k2⟩ := flat_ok (headT c) h0 h1 E hok.1 hok.2
 have n1 : namesB (flatE (headT c) E) = true := namesB_t k1
 have n2 : idsB (flatE (headT c) E) = true := by rw [idsB_is k2]; exact treeB_t k1.1
 have hs : ∀ q, q < 6 -> sayL (flatE (headT c) E) (kidsK (flatE (headT c) E) 0 (localN q)) = saysL c (qTx c.frm) (qTx c.til) q := fun q hq => by
  rcases hE with rfl | rfl
  ·exact says_tree c _ _ hq
  ·exact says_more c _ _ hq
 obtain ⟨d1, d2⟩ := dec_of hc (id_flat c E) hs
 obtain ⟨q1, q2⟩ := qdB_is (head_known c E) d1 (by rw [d2]; exact hc)
 obtain ⟨i1, i2⟩ := qdI_yes n1 n2 (flat_all (headT c) E).pos
 exact ⟨n1, n2, i1.trans q1, i2.trans (q2.trans d2)⟩

end Go.Proofs.YtlpbbkaelbafdaaGreatDoor
