/- A right claim's tree is a tree: of the texts on Decoded what is wanted for that alone. A letter: what it is, and that it is a tree (mathematics alone). What the program cuts and puts together is what the document says (mathematics alone). -/
import Derived.Test.YtcjeodgfpnecgaaGreatDoorM35
import Derived.Test.YtcjeodgfpnecgaaGreatDoorM21
import Derived.Test.YtcjeodgfpnecgaaGreatDoorM10
import Derived.Test.YtcjeodgfpnecgaaGreatDoorM11
import Derived.Test.YtcjeodgfpnecgaaGreatDoorM31
import Derived.Test.YtcjeodgfpnecgaaGreatDoorM34
import Derived.Test.YtcjeodgfpnecgaaGreatDoorM30
namespace Go.Proofs.YtcjeodgfpnecgaaGreatDoor
open Go.RowKit
set_option linter.unusedVariables false
set_option linter.unusedSimpArgs false

theorem claim_parts {c : Cm} (h : claimB c = true) : idOk c.id = true ∧ wordB c.iss = true ∧ wordB c.sub = true ∧ wordB c.whom = true ∧ c.facts.length ≤ 4 := by
  unfold claimB at h
  simp only [Bool.and_eq_true] at h
  exact ⟨h.1.1.1.1.1.1.1, h.1.1.1.1.1.1.2, h.1.1.1.1.1.2, h.1.1.1.1.2, (factsB_p h.2).1⟩

section
variable {T X : List Tk}

theorem get_app (X : List Tk) {i : Nat} (h : i < T.length) : (T ++ X)[i]? = T[i]? := List.getElem?_append_left h

theorem parI_app (X : List Tk) {i : Nat} (h : i < T.length) : parI (T ++ X) i = parI T i := by unfold parI; rw [get_app X h]

theorem idAt_app (X : List Tk) {i : Nat} (h : i < T.length) : idAt (T ++ X) i = idAt T i := by unfold idAt; rw [get_app X h]

theorem chain_lt (T : List Tk) : ∀ i, ∀ j ∈ chainF T i, j < i
  | 0, j, h => absurd h (by simp [chainF])
  | i + 1, j, h => by
    rcases List.mem_cons.1 h with rfl | h
    · exact Nat.lt_succ_self _
    · have := chain_lt T i j ((List.dropWhile_sublist _).subset h)
      omega

theorem chainF_app (X : List Tk) : ∀ i, i ≤ T.length → chainF (T ++ X) i = chainF T i
  | 0, _ => rfl
  | i + 1, h => by
    show i :: (chainF (T ++ X) i).dropWhile _ = i :: (chainF T i).dropWhile _
    rw [chainF_app X i (by omega), parI_app X (by omega)]

theorem upAts_app (X : List Tk) {c : List Nat} (h : ∀ j ∈ c, j < T.length) : upAts (T ++ X) c = upAts T c := by
  unfold upAts
  induction c with
  | nil => rfl
  | cons j c ih =>
    rw [List.flatMap_cons, List.flatMap_cons, get_app X (h j (by simp)), ih (fun k hk => h k (by simp [hk]))]

theorem meanF_app (X : List Tk) {i : Nat} (h : i < T.length) (p : ByteArray) : meanF (T ++ X) i p = meanF T i p := by
  unfold meanF
  rw [chainF_app X (i + 1) (by omega), upAts_app X (fun j hj => by have := chain_lt T (i + 1) j hj; omega)]

end

/-- A kid that is to be: its name, and what it says. -/
structure En where
  name : ByteArray
  say : Say

def addE (T : List Tk) (e : En) : List Tk := addN T e.name e.say

def newE (n : Nat) (e : En) : List Tk := if e.say.text.size = 0 then [⟨0, e.name, e.say.attrs, nE⟩] else [⟨0, e.name, e.say.attrs, nE⟩, ⟨(n : Int), nE, [], e.say.text⟩]

theorem addE_is (T : List Tk) (e : En) : addE T e = T ++ newE T.length e := by
  unfold addE addN newE
  split
  · rfl
  · rw [List.append_assoc]; rfl

theorem newE_len (n : Nat) (e : En) : (newE n e).length = if e.say.text.size = 0 then 1 else 2 := by
  unfold newE
  split <;> rfl

theorem newE_0 (n : Nat) (e : En) : (newE n e)[0]? = some ⟨0, e.name, e.say.attrs, nE⟩ := by
  unfold newE
  split <;> rfl

theorem new_at (T : List Tk) (e : En) : (addE T e)[T.length]? = some ⟨0, e.name, e.say.attrs, nE⟩ := by
  rw [addE_is, List.getElem?_append_right (Nat.le_refl _), Nat.sub_self]
  exact newE_0 _ _

theorem new_text {T : List Tk} {e : En} (h : ¬ e.say.text.size = 0) : (addE T e)[T.length + 1]? = some ⟨(T.length : Int), nE, [], e.say.text⟩ := by
  rw [addE_is, List.getElem?_append_right (by omega), show T.length + 1 - T.length = 1 by omega]
  unfold newE
  rw [if_neg h]
  rfl

theorem addE_len (T : List Tk) (e : En) : (addE T e).length = T.length + (if e.say.text.size = 0 then 1 else 2) := by
  rw [addE_is, List.length_append, newE_len]

/-- A head and kids in one row. -/
structure FlatT (h : Tk) (T : List Tk) : Prop where
  head : T[0]? = some h
  chain : (chainF T T.length).dropWhile (fun (j : Nat) => !decide ((j : Int) = 0)) = [0]

theorem FlatT.pos {h : Tk} {T : List Tk} (H : FlatT h T) : 0 < T.length := by
  rcases Nat.eq_zero_or_pos T.length with e | e
  · have := H.head
    rw [List.length_eq_zero_iff.1 e] at this
    cases this
  · exact e

theorem flat_one (h : Tk) : FlatT h [h] := ⟨rfl, rfl⟩

theorem par_new (T : List Tk) (e : En) : parI (addE T e) T.length = 0 := by unfold parI; rw [new_at]

theorem par_text {T : List Tk} {e : En} (ht : ¬ e.say.text.size = 0) : parI (addE T e) (T.length + 1) = (T.length : Int) := by unfold parI; rw [new_text ht]

theorem drop_no {p : Int} {j : Nat} {l : List Nat} (h : ¬ (j : Int) = p) : (j :: l).dropWhile (fun (j : Nat) => !decide ((j : Int) = p)) = l.dropWhile (fun (j : Nat) => !decide ((j : Int) = p)) := by
  rw [List.dropWhile_cons, if_pos (by rw [decide_eq_false h]; rfl)]

theorem drop_yes {p : Int} {j : Nat} {l : List Nat} (h : (j : Int) = p) : (j :: l).dropWhile (fun (j : Nat) => !decide ((j : Int) = p)) = j :: l := by
  rw [List.dropWhile_cons, if_neg (by rw [decide_eq_true h]; decide)]

theorem FlatT.chain1 {h : Tk} {T : List Tk} (H : FlatT h T) (e : En) : chainF (addE T e) (T.length + 1) = [T.length, 0] := by
  show T.length :: (chainF (addE T e) T.length).dropWhile (fun (j : Nat) => !decide ((j : Int) = parI (addE T e) T.length)) = _
  rw [par_new, addE_is, chainF_app _ _ (Nat.le_refl _), H.chain]

theorem FlatT.chain2 {h : Tk} {T : List Tk} (H : FlatT h T) (e : En) (ht : ¬ e.say.text.size = 0) : chainF (addE T e) (T.length + 2) = [T.length + 1, T.length, 0] := by
  show (T.length + 1) :: (chainF (addE T e) (T.length + 1)).dropWhile (fun (j : Nat) => !decide ((j : Int) = parI (addE T e) (T.length + 1))) = _
  rw [par_text ht, H.chain1, drop_yes rfl]

theorem FlatT.add {h : Tk} {T : List Tk} (H : FlatT h T) (e : En) : FlatT h (addE T e) := by
  have hp := H.pos
  refine ⟨by rw [addE_is, get_app _ hp]; exact H.head, ?_⟩
  rw [addE_len]
  by_cases ht : e.say.text.size = 0
  · rw [if_pos ht, H.chain1, drop_no (by omega)]
    rfl
  · rw [if_neg ht, H.chain2 e ht, drop_no (by omega), drop_no (by omega)]
    rfl

theorem FlatT.mean {h : Tk} {T : List Tk} (H : FlatT h T) (e : En) (p : ByteArray) : meanF (addE T e) T.length p = meanL (e.say.attrs ++ h.attrs) p := by
  unfold meanF
  rw [H.chain1]
  congr 1
  unfold upAts
  rw [List.flatMap_cons, List.flatMap_cons, new_at, (H.add e).head]
  simp

/-- All kids, one behind the other. -/
def flatE (h : Tk) (E : List En) : List Tk := E.foldl addE [h]

theorem flatE_snoc (h : Tk) (E : List En) (e : En) : flatE h (E ++ [e]) = addE (flatE h E) e := by
  unfold flatE
  rw [List.foldl_append]
  rfl

theorem flat_all (h : Tk) (E : List En) : FlatT h (flatE h E) := by
  unfold flatE
  have : ∀ (E : List En) (T : List Tk), FlatT h T → FlatT h (E.foldl addE T) := by
    intro E
    induction E with
    | nil => exact fun T H => H
    | cons e E ih => exact fun T H => ih _ (H.add e)
  exact this E _ (flat_one h)

theorem snoc_ind {α : Type} {P : List α → Prop} (h0 : P []) (h1 : ∀ l x, P l → P (l ++ [x])) (l : List α) : P l := by
  have : ∀ (m : List α), P m.reverse := by
    intro m
    induction m with
    | nil => exact h0
    | cons x m ih => rw [List.reverse_cons]; exact h1 _ _ ih
  have h := this l.reverse
  rw [List.reverse_reverse] at h
  exact h

theorem elN_app {T : List Tk} (X : List Tk) {p : Nat} (h : elN T p) : elN (T ++ X) p := by
  obtain ⟨h1, h2⟩ := h
  exact ⟨by rw [List.length_append]; omega, by rw [List.getElem_append_left h1]; exact h2⟩

theorem node_app {T : List Tk} (X : List Tk) {i : Nat} (hi : i < T.length) (h : NodeOk T i) : NodeOk (T ++ X) i := by
  obtain ⟨⟨h1, h2⟩, h3, h4, h5⟩ := h
  refine ⟨⟨by rw [List.length_append]; omega, by rw [List.getElem_append_left hi]; exact h2⟩, ?_, by rw [chainF_app X _ (by omega)]; exact h4, ?_⟩
  · rcases h3 with h3 | ⟨p, k1, k2, k3⟩
    · exact .inl h3
    · exact .inr ⟨p, by rw [chainF_app X _ (by omega)]; exact k1, by rw [parI_app X hi]; exact k2, elN_app X k3⟩
  · rintro ⟨t1, t0, t2, t3, t4⟩
    rw [List.getElem_append_left hi] at t2 t4
    rw [List.getElem_append_left (show i - 1 < T.length by omega)] at t3 t4
    exact h5 ⟨hi, t0, t2, t3, t4⟩

/-- A kid that may stand there. -/
structure EnOk (h : Tk) (e : En) : Prop where
  node : nodeB ⟨0, e.name, e.say.attrs, nE⟩ = true
  name : ¬ e.name.size = 0
  text : e.say.text.size = 0 ∨ textB e.say.text = true
  mean : (meanL (e.say.attrs ++ h.attrs) (preS e.name)).isSome = true
  pre : ¬ preS e.name = nsS
  cnt : ∀ x ∈ e.say.attrs, cntB x = false
  noId : valF e.say.attrs idS = none

theorem get_new (T : List Tk) (e : En) (h : T.length < (addE T e).length) : (addE T e)[T.length] = ⟨0, e.name, e.say.attrs, nE⟩ := by
  have := new_at T e
  rw [List.getElem?_eq_getElem h] at this
  exact Option.some.inj this

theorem get_text {T : List Tk} {e : En} (ht : ¬ e.say.text.size = 0) (h : T.length + 1 < (addE T e).length) : (addE T e)[T.length + 1] = ⟨(T.length : Int), nE, [], e.say.text⟩ := by
  have := new_text (T := T) ht
  rw [List.getElem?_eq_getElem h] at this
  exact Option.some.inj this

theorem FlatT.tree {h : Tk} {T : List Tk} (H : FlatT h T) (hT : TreeP T) {e : En} (he : EnOk h e) (hl : (addE T e).length ≤ 50) : TreeP (addE T e) := by
  have hp := H.pos
  have hL := addE_len T e
  obtain ⟨t1, t2, t3, t4, t5⟩ := hT
  have hlt : T.length < (addE T e).length := by rw [hL]; split <;> omega
  have hel : elN (addE T e) 0 := by rw [addE_is]; exact elN_app _ t4
  have m0 : 0 ∈ chainF T T.length := by
    have : (0 : Nat) ∈ (chainF T T.length).dropWhile (fun (j : Nat) => !decide ((j : Int) = 0)) := by rw [H.chain]; simp
    exact (List.dropWhile_sublist _).subset this
  refine ⟨by omega, hl, by rw [addE_is, parI_app _ hp]; exact t3, hel, fun i hi => ?_⟩
  rcases Nat.lt_trichotomy i T.length with h' | h' | h'
  · rw [addE_is]
    exact node_app _ h' (t5 i h')
  · subst h'
    refine ⟨⟨hlt, by rw [get_new]; exact he.node⟩, .inr ⟨0, by rw [addE_is, chainF_app _ _ (Nat.le_refl _)]; exact m0, by rw [par_new]; rfl, hel⟩, by rw [H.chain1]; simp, ?_⟩
    rintro ⟨_, _, k1, _, _⟩
    rw [get_new] at k1
    exact he.name k1
  · have ht : ¬ e.say.text.size = 0 := fun ht => by rw [if_pos ht] at hL; omega
    rw [if_neg ht] at hL
    obtain rfl : i = T.length + 1 := by omega
    refine ⟨⟨hi, by
      rw [get_text ht]
      unfold nodeB
      rw [if_pos (show (nE).size = 0 from rfl)]
      rcases he.text with h | h
      · exact absurd h ht
      · simp [h]⟩, .inr ⟨T.length, by rw [H.chain1]; simp, by rw [par_text ht], ⟨hlt, by rw [get_new]; exact he.name⟩⟩, by rw [H.chain2 e ht]; simp, ?_⟩
    rintro ⟨_, _, _, k2, _⟩
    have e2 : (addE T e)[T.length + 1 - 1]'(by omega) = ⟨0, e.name, e.say.attrs, nE⟩ := get_new T e hlt
    rw [e2] at k2
    exact he.name k2

theorem attrsN_app {T : List Tk} (X : List Tk) {i : Nat} (h : i < T.length) {l : List At} (H : AttrsN T i l) : AttrsN (T ++ X) i l := by
  unfold AttrsN keysN at *
  refine ⟨fun x hx hc => by rw [meanF_app X h]; exact H.1 x hx hc, ?_⟩
  have e : keyN (T ++ X) i = keyN T i := by
    funext x
    unfold keyN
    rw [meanF_app X h]
  rw [e]
  exact H.2

theorem FlatT.names {h : Tk} {T : List Tk} (H : FlatT h T) (hN : NamesP T) {e : En} (he : EnOk h e) (hl : (addE T e).length ≤ 50) : NamesP (addE T e) := by
  refine ⟨H.tree hN.1 he hl, fun i t hi => ?_⟩
  have hL := addE_len T e
  rcases Nat.lt_trichotomy i T.length with h' | h' | h'
  · rw [addE_is, get_app _ h'] at hi
    rcases hN.2 i t hi with k | ⟨k1, k2, k3⟩
    · exact .inl k
    · rw [addE_is]
      exact .inr ⟨by rw [meanF_app _ h']; exact k1, k2, attrsN_app _ h' k3⟩
  · subst h'
    rw [new_at] at hi
    obtain rfl := Option.some.inj hi
    have hcn : ∀ x ∈ e.say.attrs, cntB x = true → (meanF (addE T e) T.length (preS x.name)).isSome = true := fun x hx hc => by
      rw [he.cnt x hx] at hc
      cases hc
    refine .inr ⟨by rw [H.mean]; exact he.mean, he.pre, hcn, ?_⟩
    show (keysN (addE T e) T.length e.say.attrs).Nodup
    unfold keysN
    rw [List.filter_eq_nil_iff.2 (fun x hx => by rw [he.cnt x hx]; decide)]
    exact List.nodup_nil
  · have hi2 : i < (addE T e).length := by
      rcases Nat.lt_or_ge i (addE T e).length with k | k
      · exact k
      · rw [List.getElem?_eq_none k] at hi; cases hi
    have ht : ¬ e.say.text.size = 0 := fun ht => by rw [if_pos ht] at hL; omega
    rw [if_neg ht] at hL
    obtain rfl : i = T.length + 1 := by omega
    rw [new_text ht] at hi
    obtain rfl := Option.some.inj hi
    exact .inl rfl

theorem idsTo_app {T : List Tk} (X : List Tk) : ∀ e, e ≤ T.length → idsTo (T ++ X) e = idsTo T e := by
  intro e
  induction e with
  | zero => exact fun _ => rfl
  | succ e ih =>
    intro he
    rw [idsTo_next, idsTo_next, ih (by omega), idAt_app X (by omega)]

theorem ids_add {h : Tk} {T : List Tk} {e : En} (he : EnOk h e) : idsTo (addE T e) (addE T e).length = idsTo T T.length := by
  have i1 : idAt (addE T e) T.length = none := by
    unfold idAt
    rw [new_at]
    exact he.noId
  have e1 : idsTo (addE T e) (T.length + 1) = idsTo T T.length := by
    rw [idsTo_none i1, addE_is, idsTo_app _ _ (Nat.le_refl _)]
  rw [addE_len]
  by_cases ht : e.say.text.size = 0
  · rw [if_pos ht]; exact e1
  · rw [if_neg ht, show T.length + 2 = T.length + 1 + 1 by omega, idsTo_none (by unfold idAt; rw [new_text ht]; rfl)]
    exact e1

theorem flatE_len (h : Tk) (E : List En) : (flatE h E).length ≤ 1 + 2 * E.length := by
  refine snoc_ind (P := fun E => (flatE h E).length ≤ 1 + 2 * E.length) (Nat.le_refl _) (fun E e ih => ?_) E
  rw [flatE_snoc, addE_len, List.length_append]
  have : [e].length = 1 := rfl
  split <;> omega

/-- The whole tree is right. -/
theorem flat_ok (h : Tk) (h0 : NamesP [h]) (h1 : IdsP [h] 1) (E : List En) (hE : ∀ e ∈ E, EnOk h e) (hl : E.length ≤ 20) : NamesP (flatE h E) ∧ IdsP (flatE h E) (flatE h E).length := by
  have key : ∀ E : List En, (∀ e ∈ E, EnOk h e) → E.length ≤ 20 → NamesP (flatE h E) ∧ idsTo (flatE h E) (flatE h E).length = idsTo [h] 1 := by
    refine snoc_ind (P := fun E => (∀ e ∈ E, EnOk h e) → E.length ≤ 20 → NamesP (flatE h E) ∧ idsTo (flatE h E) (flatE h E).length = idsTo [h] 1) (fun _ _ => ⟨h0, rfl⟩) (fun E e ih hE hl => ?_)
    have hle : E.length + 1 ≤ 20 := by simpa using hl
    obtain ⟨i1, i2⟩ := ih (fun x hx => hE x (by simp [hx])) (by omega)
    have he := hE e (by simp)
    rw [flatE_snoc]
    have hlen := flatE_len h (E ++ [e])
    rw [flatE_snoc, List.length_append, show [e].length = 1 from rfl] at hlen
    exact ⟨(flat_all h E).names i1 he (by omega), by rw [ids_add he]; exact i2⟩
  obtain ⟨k1, k2⟩ := key E hE hl
  refine ⟨k1, ?_⟩
  unfold IdsP at h1 ⊢
  rw [k2]
  exact h1

def cS : ByteArray := ⟨#[99]⟩

theorem plain_of {signs s : ByteArray} {m : Nat} (hs : plainL signs.data.toList = true) (h : ofB signs m s = true) : plainL s.data.toList = true ∧ s.size ≤ m := by
  unfold ofB at h
  rw [Bool.and_eq_true] at h
  refine ⟨?_, of_decide_eq_true h.2⟩
  unfold plainL at hs ⊢
  refine List.all_eq_true.2 (fun c hc => ?_)
  obtain ⟨d, hd, e⟩ := List.any_eq_true.1 (List.all_eq_true.1 h.1 c hc)
  rw [← of_decide_eq_true e]
  exact List.all_eq_true.1 hs d hd

theorem word_plain {s : ByteArray} (h : wordB s = true) : plainL s.data.toList = true ∧ s.size ≤ 20 := by
  unfold wordB at h
  rw [Bool.and_eq_true] at h
  exact plain_of (by decide) h.2

theorem id_plain {s : ByteArray} (h : idOk s = true) : plainL s.data.toList = true ∧ s.size ≤ 12 := by
  unfold idOk at h
  rw [Bool.and_eq_true] at h
  exact plain_of (by decide) h.2

theorem id_ne {s : ByteArray} (h : idOk s = true) : ¬ s.size = 0 := by
  intro e
  unfold idOk at h
  rw [decide_eq_true e] at h
  simp at h

theorem fval_plain {s : ByteArray} (h : fvalB s = true) : plainL s.data.toList = true ∧ 1 ≤ s.size ∧ s.size ≤ 30 := by
  unfold fvalB at h
  split at h
  · rename_i hs
    simp only [Bool.and_eq_true] at h
    exact ⟨h.1.1, hs.1, hs.2⟩
  · cases h

theorem text_ok {s : ByteArray} (h1 : plainL s.data.toList = true) (h2 : ¬ s.size = 0) (h3 : s.size ≤ 60) : textB s = true := by
  unfold textB
  rw [h1, decide_eq_true (by omega)]
  rfl

theorem dgt_plain {k : Nat} (h : k < 10) : plainB ((dgt k).toNat : Int) = true := by
  rw [dgt_toNat k h]
  unfold plainB
  rw [decide_eq_true (by omega), decide_eq_true (by omega)]
  rfl

theorem two_plain {k : Nat} (h : k < 100) : plainL (two k) = true := by
  unfold two plainL
  simp only [List.all_cons, List.all_nil, Bool.and_true, Bool.and_eq_true]
  exact ⟨dgt_plain (by omega), dgt_plain (by omega)⟩

theorem plainL_app (a b : List UInt8) : plainL (a ++ b) = (plainL a && plainL b) := by unfold plainL; rw [List.all_append]

theorem qTx_plain (x : Int) : plainL (qTx x).data.toList = true ∧ (qTx x).size ≤ 60 := by
  by_cases h : 0 ≤ x ∧ x ≤ 3155759999
  · obtain ⟨n, rfl⟩ : ∃ n : Nat, x = n := ⟨x.toNat, by omega⟩
    have ht := textOf_is (t := n) (by omega)
    have hl := isText_length ht
    obtain ⟨k, m, dd, a, e⟩ := ht
    have h1 := a.k1
    have h2 := a.m1
    have h3 := a.d1
    have h4 := (dm_pos (lp k) m a.m0 a.m1).2
    have h5 : lp k ≤ 1 := by unfold lp; split <;> omega
    refine ⟨?_, ?_⟩
    · show plainL (textOf n).toArray.toList = true
      rw [List.toList_toArray, e]
      unfold txt
      simp only [plainL_app, Bool.and_eq_true]
      refine ⟨⟨⟨⟨⟨⟨⟨⟨⟨⟨⟨⟨by decide, two_plain (by omega)⟩, by decide⟩, two_plain (by omega)⟩, by decide⟩, two_plain (by omega)⟩, by decide⟩, two_plain (by omega)⟩, by decide⟩, two_plain (by omega)⟩, by decide⟩, two_plain (by omega)⟩, by decide⟩
    · show (textOf n).toArray.size ≤ 60
      rw [List.size_toArray]
      omega
  · unfold qTx textOf
    rw [if_neg h]
    exact ⟨rfl, by decide⟩

/-- It declares nothing. -/
theorem declF_no {x : At} (h1 : ¬ x.name = nsS) (h2 : ¬ preS x.name = nsS) : declF x = none := by
  unfold declF
  rw [if_neg h1, if_neg h2]

theorem right_no {x : At} (h : declF x = none) : rightB x = true := by
  unfold rightB
  rw [h]

theorem declB_no {x : At} (h : declF x = none) (p : ByteArray) : declB p x = false := by
  unfold declB
  rw [h]
  simp

theorem cnt_no {x : At} (h : (preS x.name).size = 0) : cntB x = false := by
  unfold cntB
  rw [decide_eq_true h]
  simp

theorem decl_c : declF ⟨nsCS, claimS⟩ = some cS := by
  unfold declF
  rw [if_neg (show ¬ nsCS = nsS by decide), if_pos (show preS nsCS = nsS by decide)]
  exact congrArg some (show locS nsCS = cS by decide)

theorem decl_id (v : ByteArray) : declF ⟨idS, v⟩ = none := declF_no (show ¬ idS = nsS by decide) (show ¬ preS idS = nsS by decide)

theorem right_c : rightB ⟨nsCS, claimS⟩ = true := by
  unfold rightB
  rw [decl_c]
  decide

/-- What c means beside attrs that declare nothing. -/
theorem mean_c {l : List At} (h : ∀ x ∈ l, declF x = none) (c : Cm) : meanL (l ++ (headT c).attrs) cS = some claimS := by
  have hr : (l ++ (headT c).attrs).all rightB = true := by
    refine List.all_eq_true.2 (fun x hx => ?_)
    rcases List.mem_append.1 hx with h' | h'
    · exact right_no (h x h')
    · rcases List.mem_cons.1 h' with rfl | h'
      · exact right_c
      · rw [List.mem_singleton.1 h']
        exact right_no (decl_id _)
  have hf : (l ++ (headT c).attrs).find? (declB cS) = some ⟨nsCS, claimS⟩ := by
    rw [List.find?_append, List.find?_eq_none.2 (fun x hx => by rw [declB_no (h x hx)]; decide)]
    show List.find? (declB cS) [(⟨nsCS, claimS⟩ : At), ⟨idS, c.id⟩] = some (⟨nsCS, claimS⟩ : At)
    rw [List.find?_cons_of_pos]
    unfold declB
    rw [decl_c]
    simp
  unfold meanL
  rw [if_pos hr, hf]

theorem kid_pre (k : Nat) (hk : k < 6) : preS (kidN k) = cS ∧ locS (kidN k) = localN k ∧ nameL (kidN k).data.toList = true ∧ ¬ (kidN k).size = 0 := by
  match k, hk with
  | 0, _ => decide
  | 1, _ => decide
  | 2, _ => decide
  | 3, _ => decide
  | 4, _ => decide
  | 5, _ => decide

/-- The kids of a claim. -/
def entTo (c : Cm) (u v : ByteArray) : Nat → List En
  | 0 => []
  | k + 1 => entTo c u v k ++ (saysL c u v k).map (fun s => ⟨kidN k, s⟩)

theorem addAll_flat (L : List Tk) (name : ByteArray) (l : List Say) : addAll L name l = (l.map (fun s => (⟨name, s⟩ : En))).foldl addE L := by
  unfold addAll
  rw [List.foldl_map]
  rfl

theorem tree_flat (c : Cm) (u v : ByteArray) : ∀ k, treeTo c u v k = flatE (headT c) (entTo c u v k)
  | 0 => rfl
  | k + 1 => by
    show addAll (treeTo c u v k) (kidN k) (saysL c u v k) = (entTo c u v k ++ (saysL c u v k).map (fun s => (⟨kidN k, s⟩ : En))).foldl addE [headT c]
    rw [List.foldl_append, addAll_flat, tree_flat c u v k]
    rfl

/-- Attrs that declare nothing, have no prefix and are not Id. -/
def PlainA (l : List At) : Prop := ∀ x ∈ l, declF x = none ∧ (preS x.name).size = 0 ∧ ¬ x.name = idS

theorem says_plain (c : Cm) (u v : ByteArray) (k : Nat) : ∀ s ∈ saysL c u v k, PlainA s.attrs := by
  have t : ∀ (x : ByteArray), ∀ s ∈ txtL x, PlainA s.attrs := fun x s hs => by
    unfold txtL at hs
    split at hs
    · cases hs
    · rw [List.mem_singleton.1 hs]
      exact fun y hy => by cases hy
  have n : ∀ (nm w : ByteArray), (¬ nm = nsS) → (¬ preS nm = nsS) → (preS nm).size = 0 → (¬ nm = idS) → declF ⟨nm, w⟩ = none ∧ (preS nm).size = 0 ∧ ¬ nm = idS := fun nm w a b d e => ⟨declF_no a b, d, e⟩
  match k with
  | 0 => exact t _
  | 1 => exact t _
  | 2 =>
    intro s hs
    have hs' : s = ⟨[⟨fromS, u⟩, ⟨toS, v⟩], nE⟩ := List.mem_singleton.1 hs
    subst hs'
    intro x hx
    have hx' : x = ⟨fromS, u⟩ ∨ x = ⟨toS, v⟩ := by simpa using hx
    rcases hx' with rfl | rfl
    · exact n fromS u (by decide) (by decide) (by decide) (by decide)
    · exact n toS v (by decide) (by decide) (by decide) (by decide)
  | 3 => exact t _
  | 4 => exact t _
  | k + 5 =>
    intro s hs
    have hs' : s ∈ factL c.facts := hs
    unfold factL at hs'
    obtain ⟨f, _, rfl⟩ := List.mem_map.1 hs'
    intro x hx
    have hx' : x = ⟨nameS, f.name⟩ := List.mem_singleton.1 hx
    subst hx'
    exact n nameS _ (by decide) (by decide) (by decide) (by decide)

theorem id_head (c : Cm) : valF (headT c).attrs idS = some c.id := by
  unfold valF
  show Option.map _ (List.find? _ [(⟨nsCS, claimS⟩ : At), ⟨idS, c.id⟩]) = _
  rw [List.find?_cons_of_neg (by simp; decide)]
  simp

theorem entTo_len {c : Cm} {u v : ByteArray} (h : c.facts.length ≤ 4) : (entTo c u v 6).length ≤ 9 := by
  have t := txtL_len
  show ((((((([] : List En) ++ (txtL c.iss).map _) ++ (txtL c.sub).map _) ++ [_].map _) ++ (txtL c.whom).map _) ++ (txtL c.ans).map _) ++ (factL c.facts).map _).length ≤ 9
  simp only [List.length_append, List.length_map, List.length_nil, List.length_cons, factL_len]
  have h1 := t c.iss
  have h2 := t c.sub
  have h3 := t c.whom
  have h4 := t c.ans
  omega

theorem atsOk_one {x : At} (h : atOk x) : attrsB [x] = true := attrsB_t ⟨show 1 ≤ 6 by decide, fun j hj _ => by
  have : j = 0 := by simpa using hj
  subst this
  exact h, fun i j hi hj _ => by
    have : i = 0 := by simpa using hi
    omega⟩

theorem atsOk_two {x y : At} (h : atOk x) (h2 : atOk y) (hne : ¬ x.name = y.name) : attrsB [x, y] = true := attrsB_t ⟨show 2 ≤ 6 by decide, fun j hj _ => by
  match j, hj with
  | 0, _ => exact h
  | 1, _ => exact h2, fun i j hi hj _ => by
    match i, j, hi, hj with
    | 1, 0, _, _ => exact hne⟩

theorem node_of {name : ByteArray} {l : List At} (h1 : nameL name.data.toList = true) (h2 : ¬ name.size = 0) (h3 : attrsB l = true) : nodeB ⟨0, name, l, nE⟩ = true := by
  unfold nodeB
  rw [if_neg h2, h1, h3]
  rfl

/-- What a right claim says may stand there. -/
theorem says_ok {c : Cm} (hc : claimB c = true) (k : Nat) (hk : k < 6) : ∀ s ∈ saysL c (qTx c.frm) (qTx c.til) k, attrsB s.attrs = true ∧ (s.text.size = 0 ∨ textB s.text = true) := by
  unfold claimB at hc
  simp only [Bool.and_eq_true] at hc
  obtain ⟨⟨⟨⟨⟨⟨⟨b1, b2⟩, b3⟩, b4⟩, b5⟩, b6⟩, b7⟩, b8⟩ := hc
  have a0 : attrsB [] = true := attrsB_t ⟨show 0 ≤ 6 by decide, fun j hj _ => absurd hj (Nat.not_lt_zero _), fun i j hi hj _ => absurd hi (Nat.not_lt_zero _)⟩
  have t : ∀ (x : ByteArray), plainL x.data.toList = true → x.size ≤ 60 → ∀ s ∈ txtL x, attrsB s.attrs = true ∧ (s.text.size = 0 ∨ textB s.text = true) := fun x h1 h2 s hs => by
    unfold txtL at hs
    split at hs
    · cases hs
    · rename_i h0
      rw [List.mem_singleton.1 hs]
      exact ⟨a0, .inr (text_ok h1 h0 h2)⟩
  have w := fun {x : ByteArray} (h : wordB x = true) => t x (word_plain h).1 (Nat.le_trans (word_plain h).2 (by decide))
  match k, hk with
  | 0, _ => exact w b2
  | 1, _ => exact w b3
  | 2, _ =>
    intro s hs
    have hs' : s = ⟨[⟨fromS, qTx c.frm⟩, ⟨toS, qTx c.til⟩], nE⟩ := List.mem_singleton.1 hs
    subst hs'
    exact ⟨atsOk_two ⟨show nameL fromS.data.toList = true by decide, (qTx_plain _).1, (qTx_plain _).2⟩ ⟨show nameL toS.data.toList = true by decide, (qTx_plain _).1, (qTx_plain _).2⟩ (show ¬ fromS = toS by decide), .inl rfl⟩
  | 3, _ => exact w b4
  | 4, _ =>
    intro s hs
    have hs' : s ∈ txtL c.ans := hs
    by_cases h0 : c.ans.size = 0
    · unfold txtL at hs'
      rw [if_pos h0] at hs'
      cases hs'
    · have : idOk c.ans = true := by
        rw [decide_eq_false h0] at b5
        simpa using b5
      exact t c.ans (id_plain this).1 (Nat.le_trans (id_plain this).2 (by decide)) s hs'
  | 5, _ =>
    intro s hs
    have hs' : s ∈ factL c.facts := hs
    unfold factL at hs'
    obtain ⟨f, hf, rfl⟩ := List.mem_map.1 hs'
    obtain ⟨i, hi, rfl⟩ := List.getElem_of_mem hf
    have hp := (factsB_p b8).2 i hi hi
    have h1 := word_plain hp.1
    have h2 := fval_plain hp.2.1
    exact ⟨atsOk_one ⟨show nameL nameS.data.toList = true by decide, h1.1, Nat.le_trans h1.2 (by decide)⟩, .inr (text_ok (s := c.facts[i].value) h2.1 (by omega) (by omega))⟩

theorem plain_noId {l : List At} (h : PlainA l) : valF l idS = none := by
  unfold valF
  rw [List.find?_eq_none.2 (fun x hx => by simp [(h x hx).2.2])]
  rfl

theorem ent_ok {c : Cm} (hc : claimB c = true) : ∀ k, k ≤ 6 → ∀ e ∈ entTo c (qTx c.frm) (qTx c.til) k, EnOk (headT c) e
  | 0, _, e, he => by cases he
  | k + 1, hk, e, he => by
    have he' : e ∈ entTo c (qTx c.frm) (qTx c.til) k ++ (saysL c (qTx c.frm) (qTx c.til) k).map (fun s => (⟨kidN k, s⟩ : En)) := he
    rcases List.mem_append.1 he' with h | h
    · exact ent_ok hc k (by omega) e h
    · obtain ⟨s, hs, rfl⟩ := List.mem_map.1 h
      obtain ⟨p1, p2, p3, p4⟩ := kid_pre k (by omega)
      have hp := says_plain c _ _ k s hs
      have ho := says_ok hc k (by omega) s hs
      exact ⟨node_of p3 p4 ho.1, p4, ho.2, by show (meanL (s.attrs ++ (headT c).attrs) (preS (kidN k))).isSome = true; rw [p1, mean_c (fun x hx => (hp x hx).1)]; rfl, by show ¬ preS (kidN k) = nsS; rw [p1]; decide, fun x hx => cnt_no (hp x hx).2.1, plain_noId hp⟩

theorem head_names {c : Cm} (hc : claimB c = true) : NamesP [headT c] ∧ IdsP [headT c] 1 := by
  have hid := (claim_parts hc).1
  have hn : nodeB (headT c) = true := by
    show nodeB ⟨-1, cClaimS, [⟨nsCS, claimS⟩, ⟨idS, c.id⟩], nE⟩ = true
    unfold nodeB
    rw [if_neg (show ¬ cClaimS.size = 0 by decide), show nameL cClaimS.data.toList = true by decide, atsOk_two ⟨show nameL nsCS.data.toList = true by decide, show plainL claimS.data.toList = true by decide, show claimS.size ≤ 60 by decide⟩ ⟨show nameL idS.data.toList = true by decide, (id_plain hid).1, Nat.le_trans (id_plain hid).2 (by decide)⟩ (show ¬ nsCS = idS by decide)]
    rfl
  have hm : meanF [headT c] 0 cS = some claimS := by
    unfold meanF
    show meanL (upAts [headT c] [0]) cS = _
    exact mean_c (l := []) (fun x hx => by cases hx) c
  refine ⟨⟨⟨Nat.le_refl 1, show 1 ≤ 50 by decide, rfl, ⟨Nat.one_pos, show ¬ cClaimS.size = 0 by decide⟩, fun i hi => ?_⟩, fun i t hi => ?_⟩, ?_⟩
  · have : i = 0 := by simpa using hi
    subst this
    exact ⟨⟨Nat.one_pos, hn⟩, .inl rfl, by show [0].length ≤ 9; decide, fun ⟨_, h0, _⟩ => absurd h0 (by decide)⟩
  · have : i = 0 := by
      rcases Nat.eq_zero_or_pos i with h | h
      · exact h
      · rw [List.getElem?_eq_none (by show 1 ≤ i; omega)] at hi; cases hi
    subst this
    obtain rfl := Option.some.inj hi
    have hcn : ∀ x ∈ (headT c).attrs, cntB x = false := fun x hx => by
      rcases List.mem_cons.1 hx with rfl | h'
      · unfold cntB
        rw [decl_c]
        rfl
      · rw [List.mem_singleton.1 h']
        exact cnt_no (show (preS idS).size = 0 by decide)
    refine .inr ⟨by show (meanF [headT c] 0 (preS cClaimS)).isSome = true; rw [show preS cClaimS = cS by decide, hm]; rfl, show ¬ preS cClaimS = nsS by decide, fun x hx hcx => ?_, ?_⟩
    · rw [hcn x hx] at hcx
      cases hcx
    · unfold keysN
      rw [List.filter_eq_nil_iff.2 (fun x hx => by rw [hcn x hx]; decide)]
      exact List.nodup_nil
  · have e : idsTo [headT c] 1 = [c.id] := by
      rw [idsTo_next]
      show [] ++ (idAt [headT c] 0).toList = _
      have : idAt [headT c] 0 = some c.id := id_head c
      rw [this]
      rfl
    unfold IdsP
    rw [e]
    exact ⟨fun v hv => by rw [List.mem_singleton.1 hv]; exact hid, List.pairwise_singleton _ _⟩

end Go.Proofs.YtcjeodgfpnecgaaGreatDoor

namespace Go.Proofs.YtcjeodgfpnecgaaGreatDoor
open Go.RowKit
set_option linter.unusedVariables false
set_option linter.unusedSimpArgs false

def letterS : ByteArray := ⟨#[108, 58, 76, 101, 116, 116, 101, 114]⟩
def nsLS : ByteArray := ⟨#[110, 115, 58, 108]⟩

def ltrAts (id : ByteArray) : List At := if id.size = 0 then [⟨nsLS, claimS⟩] else [⟨nsLS, claimS⟩, ⟨idS, id⟩]

def headL (id : ByteArray) : Tk := ⟨-1, letterS, ltrAts id, nE⟩

theorem ltrAts_none {id : ByteArray} (h : id.size = 0) : ltrAts id = [⟨nsLS, claimS⟩] := if_pos h
theorem ltrAts_one {id : ByteArray} (h : ¬ id.size = 0) : ltrAts id = [⟨nsLS, claimS⟩, ⟨idS, id⟩] := if_neg h

/-- The identifier may be that of a letter of this claim. -/
noncomputable def luseB (c : Cm) (id : ByteArray) : Bool := (decide (id.size = 0) || idOk id) && !decide (id = c.id)

noncomputable def ltrB (c : Cm) (id : ByteArray) : Bool := claimB c && luseB c id

noncomputable def ltrL (c : Cm) (id : ByteArray) : List Tk := if ltrB c id = true then putL [headL id] 1 0 (treeTo c (qTx c.frm) (qTx c.til) 6) else []

theorem ltrL_t {c : Cm} {id : ByteArray} (h : ltrB c id = true) : ltrL c id = putL [headL id] 1 0 (treeTo c (qTx c.frm) (qTx c.til) 6) := if_pos h
theorem ltrL_f {c : Cm} {id : ByteArray} (h : ltrB c id = false) : ltrL c id = [] := if_neg (by rw [h]; decide)

theorem drop_map (p : Int) : ∀ l : List Nat, (∃ x ∈ l, (x : Int) = p) → ((l.map (· + 1)) ++ [0]).dropWhile (fun (j : Nat) => !decide ((j : Int) = p + 1)) = (l.dropWhile (fun (j : Nat) => !decide ((j : Int) = p))).map (· + 1) ++ [0]
  | [], ⟨x, hx, _⟩ => absurd hx List.not_mem_nil
  | y :: l, ⟨x, hx, e⟩ => by
    by_cases h : (y : Int) = p
    · rw [drop_yes h, List.map_cons, List.cons_append, drop_yes (by omega)]
    · rw [drop_no h, List.map_cons, List.cons_append, drop_no (by omega)]
      refine drop_map p l ⟨x, ?_, e⟩
      rcases List.mem_cons.1 hx with rfl | h'
      · exact absurd e h
      · exact h'

section
variable {h : Tk} {br : List Tk}

theorem pl_len : (putL [h] 1 0 br).length = 1 + br.length := putL_len (Nat.le_refl 1)

theorem pl_zero : (putL [h] 1 0 br)[0]? = some h := put_low (Nat.le_refl 1) Nat.one_pos rfl

theorem pl_next {i : Nat} {t : Tk} (ht : br[i]? = some t) (hi : i < br.length) : (putL [h] 1 0 br)[i + 1]? = some (shK (inF 1 0 i t) t) := by
  rw [Nat.add_comm]
  exact put_mid (Nat.le_refl 1) hi ht

theorem pl_par0 (hk : h.kind = -1) : parI (putL [h] 1 0 br) 0 = -1 := by unfold parI; rw [pl_zero]; exact hk

theorem pl_par1 (hi : 0 < br.length) : parI (putL [h] 1 0 br) 1 = 0 := by
  unfold parI
  rw [show (putL [h] 1 0 br)[1]? = some (shK (inF 1 0 0 br[0]) br[0]) from pl_next (List.getElem?_eq_getElem hi) hi]
  rfl

theorem pl_par {i : Nat} (h0 : 0 < i) (hi : i < br.length) : parI (putL [h] 1 0 br) (i + 1) = parI br i + 1 := by
  unfold parI
  rw [pl_next (List.getElem?_eq_getElem hi) hi, List.getElem?_eq_getElem hi]
  show inF 1 0 i br[i] = br[i].kind + 1
  unfold inF
  rw [if_neg (by omega)]
  rfl

theorem pl_chain (hT : TreeP br) : ∀ i, i < br.length → chainF (putL [h] 1 0 br) (i + 2) = (chainF br (i + 1)).map (· + 1) ++ [0]
  | 0, hi => by
    show 1 :: (chainF (putL [h] 1 0 br) 1).dropWhile (fun (j : Nat) => !decide ((j : Int) = parI (putL [h] 1 0 br) 1)) = _
    rw [pl_par1 hi]
    rfl
  | i + 1, hi => by
    show (i + 2) :: (chainF (putL [h] 1 0 br) (i + 2)).dropWhile (fun (j : Nat) => !decide ((j : Int) = parI (putL [h] 1 0 br) (i + 1 + 1))) = ((i + 1) :: (chainF br (i + 1)).dropWhile (fun (j : Nat) => !decide ((j : Int) = parI br (i + 1)))).map (· + 1) ++ [0]
    rw [pl_par (Nat.succ_pos i) hi, pl_chain hT i (by omega)]
    rcases (hT.2.2.2.2 (i + 1) hi).2.1 with h0 | ⟨p, p1, p2, _⟩
    · omega
    · rw [drop_map _ _ ⟨p, p1, p2⟩]
      rfl

theorem pl_el0 (hne : ¬ h.name.size = 0) : elN (putL [h] 1 0 br) 0 := by
  have hl : 0 < (putL [h] 1 0 br).length := by rw [pl_len]; omega
  refine ⟨hl, ?_⟩
  have : (putL [h] 1 0 br)[0] = h := by
    have := pl_zero (h := h) (br := br)
    rw [List.getElem?_eq_getElem hl] at this
    exact Option.some.inj this
  rw [this]
  exact hne

theorem pl_at {i : Nat} (hi : i < br.length) (hl : i + 1 < (putL [h] 1 0 br).length) : (putL [h] 1 0 br)[i + 1] = shK (inF 1 0 i br[i]) br[i] := by
  have := pl_next (h := h) (List.getElem?_eq_getElem hi) hi
  rw [List.getElem?_eq_getElem hl] at this
  exact Option.some.inj this

theorem pl_tree (hn : nodeB h = true) (hne : ¬ h.name.size = 0) (hk : h.kind = -1) (hT : TreeP br) (hl : br.length ≤ 49) (hd : ∀ i, i < br.length → (chainF br (i + 1)).length ≤ 8) : TreeP (putL [h] 1 0 br) := by
  have hL := pl_len (h := h) (br := br)
  have h1 := hT.1
  refine ⟨by omega, by omega, pl_par0 hk, pl_el0 hne, fun i hi => ?_⟩
  match i, hi with
  | 0, hi =>
    refine ⟨⟨hi, ?_⟩, .inl rfl, by show [0].length ≤ 9; decide, fun ⟨_, h0, _⟩ => absurd h0 (Nat.lt_irrefl 0)⟩
    have := pl_zero (h := h) (br := br)
    rw [List.getElem?_eq_getElem hi] at this
    rw [Option.some.inj this]
    exact hn
  | i + 1, hi =>
    have hb : i < br.length := by omega
    obtain ⟨⟨_, n1⟩, n2, n3, n4⟩ := hT.2.2.2.2 i hb
    refine ⟨⟨hi, by rw [pl_at hb hi]; exact n1⟩, ?_, ?_, ?_⟩
    · rcases Nat.eq_zero_or_pos i with e | e
      · subst e
        exact .inr ⟨0, by show 0 ∈ [0]; simp, by rw [pl_par1 hb]; rfl, pl_el0 hne⟩
      · rcases n2 with h0 | ⟨p, p1, p2, p3, p4⟩
        · omega
        · obtain ⟨k, rfl⟩ : ∃ k, i = k + 1 := ⟨i - 1, by omega⟩
          refine .inr ⟨p + 1, ?_, by rw [pl_par e hb, ← p2]; rfl, ?_⟩
          · rw [pl_chain hT k (by omega)]
            exact List.mem_append_left _ (List.mem_map_of_mem p1)
          · have hpl : p + 1 < (putL [h] 1 0 br).length := by omega
            refine ⟨hpl, ?_⟩
            rw [pl_at p3 hpl]
            exact p4
    · rw [pl_chain hT i hb, List.length_append, List.length_map]
      have := hd i hb
      simp
      omega
    · rintro ⟨_, _, t2, t3, t4⟩
      rw [pl_at hb hi] at t2 t4
      rcases Nat.eq_zero_or_pos i with e | e
      · subst e
        obtain ⟨_, q⟩ := hT.2.2.2.1
        exact q t2
      · obtain ⟨k, rfl⟩ : ∃ k, i = k + 1 := ⟨i - 1, by omega⟩
        have hkb : k < br.length := by omega
        have e2 : (putL [h] 1 0 br)[k + 1 + 1 - 1]'(by omega) = shK (inF 1 0 k br[k]) br[k] := pl_at hkb (by omega)
        rw [e2] at t3 t4
        have t4' : inF 1 0 k br[k] = inF 1 0 (k + 1) br[k + 1] := t4
        unfold inF at t4'
        rw [if_neg (by omega : ¬ k + 1 = 0)] at t4'
        by_cases k0 : k = 0
        · subst k0
          obtain ⟨_, q⟩ := hT.2.2.2.1
          exact q t3
        · rw [if_neg k0] at t4'
          exact n4 ⟨hb, Nat.succ_pos k, t2, t3, by show br[k].kind = br[k + 1].kind; omega⟩

end

theorem flat_depth (h : Tk) : ∀ E : List En, ∀ i, i < (flatE h E).length → (chainF (flatE h E) (i + 1)).length ≤ 3 := by
  refine snoc_ind (P := fun E => ∀ i, i < (flatE h E).length → (chainF (flatE h E) (i + 1)).length ≤ 3) (fun i hi => ?_) (fun E e ih i hi => ?_)
  · have : i = 0 := by have hh : i < [h].length := hi; simpa using hh
    subst this
    show [0].length ≤ 3
    decide
  · rw [flatE_snoc] at hi ⊢
    have H := flat_all h E
    have hL := addE_len (flatE h E) e
    rcases Nat.lt_trichotomy i (flatE h E).length with h' | h' | h'
    · rw [addE_is, chainF_app _ _ (by omega)]
      exact ih i h'
    · subst h'
      rw [H.chain1]
      show 2 ≤ 3
      omega
    · have ht : ¬ e.say.text.size = 0 := fun ht => by rw [if_pos ht] at hL; omega
      rw [if_neg ht] at hL
      obtain rfl : i = (flatE h E).length + 1 := by omega
      rw [H.chain2 e ht]
      exact Nat.le_refl 3

theorem luse_id {c : Cm} {id : ByteArray} (h : luseB c id = true) : id.size = 0 ∨ idOk id = true := by
  unfold luseB at h
  rw [Bool.and_eq_true, Bool.or_eq_true] at h
  rcases h.1 with h | h
  · exact .inl (of_decide_eq_true h)
  · exact .inr h

theorem headL_node {id : ByteArray} (h : id.size = 0 ∨ idOk id = true) : nodeB (headL id) = true := by
  have e1 : atOk ⟨nsLS, claimS⟩ := ⟨show nameL nsLS.data.toList = true by decide, show plainL claimS.data.toList = true by decide, show claimS.size ≤ 60 by decide⟩
  have ha : attrsB (ltrAts id) = true := by
    by_cases h0 : id.size = 0
    · rw [ltrAts_none h0]
      exact atsOk_one e1
    · rw [ltrAts_one h0]
      rcases h with h | h
      · exact absurd h h0
      · exact atsOk_two e1 ⟨show nameL idS.data.toList = true by decide, (id_plain h).1, Nat.le_trans (id_plain h).2 (by decide)⟩ (show ¬ nsLS = idS by decide)
  show nodeB ⟨-1, letterS, ltrAts id, nE⟩ = true
  unfold nodeB
  rw [if_neg (show ¬ letterS.size = 0 by decide), show nameL letterS.data.toList = true by decide, ha]
  rfl

/-- The tree of a right claim. -/
theorem claim_tree {c : Cm} (hc : claimB c = true) : TreeP (treeTo c (qTx c.frm) (qTx c.til) 6) ∧ (treeTo c (qTx c.frm) (qTx c.til) 6).length ≤ 19 ∧ ∀ i, i < (treeTo c (qTx c.frm) (qTx c.til) 6).length → (chainF (treeTo c (qTx c.frm) (qTx c.til) 6) (i + 1)).length ≤ 3 := by
  obtain ⟨h0, h1⟩ := head_names hc
  have hl := entTo_len (u := qTx c.frm) (v := qTx c.til) (claim_parts hc).2.2.2.2
  rw [tree_flat]
  refine ⟨(flat_ok (headT c) h0 h1 _ (ent_ok hc 6 (Nat.le_refl _)) (by omega)).1.1, ?_, flat_depth _ _⟩
  have := flatE_len (headT c) (entTo c (qTx c.frm) (qTx c.til) 6)
  omega

/-- What is grafted, and that it can be. -/
theorem letter_graft {c : Cm} {id : ByteArray} (h : ltrB c id = true) : graftL [headL id] (treeTo c (qTx c.frm) (qTx c.til) 6) 0 = ltrL c id ∧ graftB [headL id] (treeTo c (qTx c.frm) (qTx c.til) 6) 0 = true := by
  have hc : claimB c = true := by unfold ltrB at h; rw [Bool.and_eq_true] at h; exact h.1
  have hu : luseB c id = true := by unfold ltrB at h; rw [Bool.and_eq_true] at h; exact h.2
  rw [ltrL_t h]
  obtain ⟨t1, t2, t3⟩ := claim_tree hc
  have hn := headL_node (luse_id hu)
  have hne : ¬ (headL id).name.size = 0 := show ¬ letterS.size = 0 by decide
  have t0 : TreeP [headL id] := by
    refine ⟨Nat.le_refl 1, show 1 ≤ 50 by decide, rfl, ⟨Nat.one_pos, hne⟩, fun i hi => ?_⟩
    have : i = 0 := by simpa using hi
    subst this
    exact ⟨⟨Nat.one_pos, hn⟩, .inl rfl, by show [0].length ≤ 9; decide, fun ⟨_, h0, _⟩ => absurd h0 (Nat.lt_irrefl 0)⟩
  have tp := pl_tree hn hne rfl t1 (by omega) (fun i hi => by have := t3 i hi; omega)
  have he : endN [headL id] (0 : Int).toNat = 1 := rfl
  have hel : elemB [headL id] 0 = true := by
    unfold elemB hasB
    rw [treeB_t t0, decide_eq_true (show (0 : Int) ≤ 0 ∧ (0 : Int) < ([headL id].length : Int) from ⟨Int.le_refl _, by show (0 : Int) < 1; decide⟩)]
    have : nameI [headL id] (0 : Int).toNat = letterS := rfl
    rw [this]
    decide
  have hg : graftB [headL id] (treeTo c (qTx c.frm) (qTx c.til) 6) 0 = true := by
    unfold graftB
    rw [hel, he, treeB_t t1, treeB_t tp]
    rfl
  refine ⟨?_, hg⟩
  unfold graftL
  rw [if_pos (treeB_t t0), if_pos hg, he]

/-- Nothing is grafted where the claim is none. -/
theorem letter_none (id : ByteArray) : graftB [headL id] [] 0 = false := by
  have : treeB ([] : List Tk) = false := treeB_f fun h => absurd h.1 (by decide)
  unfold graftB
  rw [this, Bool.false_and, Bool.and_false]

end Go.Proofs.YtcjeodgfpnecgaaGreatDoor

namespace Go.Proofs.YtcjeodgfpnecgaaGreatDoor
open Go.RowKit
set_option linter.unusedVariables false

theorem getSet {α : Type} {l : List α} {i : Nat} {x : α} (h : i < l.length) (j : Nat) : (l.set i x)[j]? = if i = j then some x else l[j]? := by
  rw [List.getElem?_set]
  split
  · rename_i e
    first
      | rfl
      | rw [if_pos (by omega)]
  · rfl

/-- A branch. -/
theorem branch_mv {ts : List Tk} {k : Nat} (hk : k < ts.length) : ∃ t0, (mvL (k : Int) (-(k : Int)) ((ts.drop k).take (endN ts k - k)))[0]? = some t0 ∧ (mvL (k : Int) (-(k : Int)) ((ts.drop k).take (endN ts k - k))).set 0 (shK (-1) t0) = branchL ts k := by
  have hle := endN_le hk
  have h1 : k + (endN ts k - k) ≤ ts.length := by omega
  rw [mv_seg h1]
  have e0 := segN_get (f := fun _ t => if (k : Int) ≤ t.kind then t.kind + -(k : Int) else t.kind) (endN ts k - k) h1 0 (by omega) ts[k] (List.getElem?_eq_getElem hk)
  refine ⟨_, e0, ?_⟩
  have hl := segN_len (f := fun _ t => if (k : Int) ≤ t.kind then t.kind + -(k : Int) else t.kind) (ts := ts) (k := k) (endN ts k - k) h1
  refine List.ext_getElem? fun j => ?_
  rw [getSet (by rw [hl]; omega)]
  unfold branchL
  by_cases hj : j < endN ts k - k
  · have hkj : k + j < ts.length := by omega
    rw [segN_get (f := brF k) _ h1 j hj ts[k + j] (List.getElem?_eq_getElem hkj)]
    split
    · rename_i e
      subst e
      have hb : brF k (k + 0) ts[k + 0] = -1 := if_pos rfl
      rw [hb]
      rfl
    · rename_i e
      rw [segN_get _ h1 j hj ts[k + j] (List.getElem?_eq_getElem hkj)]
      have h2 := endN_in hk (show k < k + j by omega) (by omega)
      rw [parI_at hkj] at h2
      have hb : brF k (k + j) ts[k + j] = ts[k + j].kind - (k : Int) := if_neg (by omega)
      rw [hb]
      simp only [if_pos h2]
      rfl
  · rw [if_neg (by omega), List.getElem?_eq_none (by rw [hl]; omega), List.getElem?_eq_none (by rw [segN_len _ h1]; omega)]

theorem drop_seg {k b : Int} {ts : List Tk} {e : Nat} (h : e ≤ ts.length) : mvL k b (ts.drop e) = segN (fun _ t => if k ≤ t.kind then t.kind + b else t.kind) ts e (ts.length - e) := by
  rw [← mv_seg (by omega), List.take_of_length_le (by rw [List.length_drop]; exact Nat.le_refl _)]

/-- A tree put in. -/
theorem put_mv {ts br : List Tk} {e : Nat} {par : Int} {M : List Tk} (he : e ≤ ts.length) (hM : M = segN (fun i t => if i = 0 then par else t.kind + (e : Int)) br 0 br.length) : ts.take e ++ M ++ mvL (e : Int) (br.length : Int) (ts.drop e) = putL ts e par br := by
  unfold putL
  rw [segN_same e he, hM, drop_seg he]

theorem graft_mv {br : List Tk} (hB : TreeP br) (e : Nat) (par : Int) : ∃ t0, (mvL 0 (e : Int) br)[0]? = some t0 ∧ (mvL 0 (e : Int) br).set 0 (shK par t0) = segN (fun i t => if i = 0 then par else t.kind + (e : Int)) br 0 br.length := by
  have h0 : 0 < br.length := hB.1
  have hd : mvL 0 (e : Int) br = mvL 0 (e : Int) (br.drop 0) := by rw [List.drop_zero]
  rw [hd, drop_seg (Nat.zero_le _), Nat.sub_zero]
  have h1 : 0 + br.length ≤ br.length := by omega
  have e0 := segN_get (f := fun _ t => if (0 : Int) ≤ t.kind then t.kind + (e : Int) else t.kind) br.length h1 0 h0 br[0] (by rw [Nat.zero_add]; exact List.getElem?_eq_getElem h0)
  refine ⟨_, e0, ?_⟩
  have hl := segN_len (f := fun _ t => if (0 : Int) ≤ t.kind then t.kind + (e : Int) else t.kind) (ts := br) (k := 0) br.length h1
  refine List.ext_getElem? fun j => ?_
  rw [getSet (by rw [hl]; exact h0)]
  by_cases hj : j < br.length
  · have ej : br[0 + j]? = some br[j] := by rw [Nat.zero_add]; exact List.getElem?_eq_getElem hj
    rw [segN_get (f := fun i t => if i = 0 then par else t.kind + (e : Int)) _ h1 j hj br[j] ej]
    split
    · rename_i e1
      subst e1
      rw [if_pos rfl]
      rfl
    · rename_i e1
      rw [segN_get _ h1 j hj br[j] ej]
      have h2 : 0 ≤ br[j].kind := by
        rcases hB.up j hj with h' | ⟨p, _, ep, _⟩
        · omega
        · rw [parI_at hj] at ep
          omega
      have hb : (if 0 + j = 0 then par else br[j].kind + (e : Int)) = br[j].kind + (e : Int) := if_neg (by omega)
      simp only [if_pos h2, hb]
  · rw [if_neg (by omega), List.getElem?_eq_none (by rw [hl]; omega), List.getElem?_eq_none (by rw [segN_len _ h1]; omega)]

/-- One wrapped. -/
theorem wrap_mv {ts : List Tk} {k : Nat} (hk : k < ts.length) (name : ByteArray) : ∃ t1, (ts.take k ++ [(⟨ts[k].kind, name, [], ⟨#[]⟩⟩ : Tk)] ++ mvL (k : Int) 1 (ts.drop k))[k + 1]? = some t1 ∧ (ts.take k ++ [(⟨ts[k].kind, name, [], ⟨#[]⟩⟩ : Tk)] ++ mvL (k : Int) 1 (ts.drop k)).set (k + 1) (shK (k : Int) t1) = wrapL ts k name := by
  have e : ts.take k ++ [(⟨ts[k].kind, name, [], ⟨#[]⟩⟩ : Tk)] ++ mvL (k : Int) 1 (ts.drop k) = putL ts k ts[k].kind [wrapN name] := put_mv (br := [wrapN name]) (par := ts[k].kind) (Nat.le_of_lt hk) rfl
  rw [e]
  have h1 := put_high (ts := ts) (e := k) (par := ts[k].kind) (br := [wrapN name]) (Nat.le_of_lt hk) (Nat.le_refl k) hk (List.getElem?_eq_getElem hk)
  refine ⟨_, h1, ?_⟩
  unfold wrapL
  rw [List.getElem?_eq_getElem hk]
  rfl

/-- Without some. -/
theorem out_mv {ts : List Tk} {a e : Nat} (hae : a ≤ e) (he : e ≤ ts.length) : ts.take a ++ mvL (e : Int) ((a : Int) - (e : Int)) (ts.drop e) = outC ts a e ts.length := by
  unfold outC
  rw [Nat.min_eq_right (by omega), drop_seg he]
  congr 2
  funext _ t
  unfold cutF
  split <;> omega

theorem outL_len {ts : List Tk} {a e : Nat} (hae : a ≤ e) (he : e ≤ ts.length) : (outC ts a e ts.length).length = a + (ts.length - e) := by
  rw [outC_len hae he (Nat.le_refl _)]
  omega

theorem out_low {ts : List Tk} {a e i : Nat} (hae : a ≤ e) (he : e ≤ ts.length) (hi : i < a) : (outC ts a e ts.length)[i]? = ts[i]? := by
  unfold outC
  rw [Nat.min_eq_right (by omega), List.getElem?_append_left (by rw [List.length_take]; omega), List.getElem?_take, if_pos hi]

theorem out_high {ts : List Tk} {a e i : Nat} (hae : a ≤ e) (he : e ≤ ts.length) (hi : e + i < ts.length) : (outC ts a e ts.length)[a + i]? = some (shK (cutF a e ts[e + i]) ts[e + i]) := by
  unfold outC
  have hl : (ts.take (min ts.length a)).length = a := by rw [List.length_take]; omega
  rw [List.getElem?_append_right (by rw [hl]; omega), hl, show a + i - a = i by omega]
  exact segN_get (f := fun _ t => cutF a e t) _ (by omega) i (by omega) ts[e + i] (List.getElem?_eq_getElem hi)

theorem out_small {ts : List Tk} {a e : Nat} (hae : a ≤ e) (he : e ≤ ts.length) (h50 : ts.length ≤ 50) (h : KSm ts) : KSm (outC ts a e ts.length) := by
  intro t ht
  obtain ⟨j, hj, rfl⟩ := List.getElem_of_mem ht
  rw [outL_len hae he] at hj
  by_cases hja : j < a
  · have e1 := out_low hae he hja
    rw [List.getElem?_eq_getElem (by rw [outL_len hae he]; exact hj), List.getElem?_eq_getElem (by omega)] at e1
    rw [Option.some.inj e1]
    exact h _ (List.getElem_mem _)
  · have e1 := out_high hae he (i := j - a) (by omega)
    rw [show a + (j - a) = j by omega, List.getElem?_eq_getElem (by rw [outL_len hae he]; exact hj)] at e1
    rw [Option.some.inj e1]
    have h2 := h ts[e + (j - a)] (List.getElem_mem _)
    show -1 ≤ cutF a e _ ∧ cutF a e _ ≤ 1000
    unfold cutF
    split <;> omega

/-- Two texts come to stand side by side. -/
theorem twin_side {ts : List Tk} {a e : Nat} (ha : 1 ≤ a) (hae : a ≤ e) (he : e < ts.length) : twinB (outC ts a e ts.length) a = sideB ts a e := by
  have hl := outL_len hae (Nat.le_of_lt he)
  have h1 := out_low (i := a - 1) hae (Nat.le_of_lt he) (by omega)
  have h2 := out_high (i := 0) hae (Nat.le_of_lt he) (by omega)
  have ha1 : a - 1 < ts.length := by omega
  rw [List.getElem?_eq_getElem (by omega), List.getElem?_eq_getElem ha1] at h1
  rw [Nat.add_zero, List.getElem?_eq_getElem (by omega)] at h2
  have g1 := Option.some.inj h1
  have g2 := Option.some.inj h2
  unfold twinB sideB
  rw [List.getElem?_eq_getElem ha1, List.getElem?_eq_getElem he]
  rw [Bool.eq_iff_iff]
  simp only [decide_eq_true_eq, Bool.and_eq_true]
  constructor
  · rintro ⟨h, h0, k1, k2, k3⟩
    rw [g2] at k1 k3
    rw [g1] at k2 k3
    exact ⟨k1, k2, k3⟩
  · rintro ⟨k1, k2, k3⟩
    refine ⟨by omega, by omega, ?_⟩
    rw [g2, g1]
    exact ⟨k1, k2, k3⟩

theorem side_none {ts : List Tk} {a e : Nat} (he : e = ts.length) : sideB ts a e = false := by
  unfold sideB
  rw [show ts[e]? = none from List.getElem?_eq_none (by omega)]
  cases ts[a - 1]? <;> rfl

/-- They are one. -/
theorem join_mv {ts : List Tk} (hT : TreeP ts) {a : Nat} (ha : 1 ≤ a) (hal : a < ts.length) (he : endN ts a < ts.length) (hs : sideB ts a (endN ts a) = true) :
    ∃ t u, (outC ts a (endN ts a) ts.length)[a]? = some u ∧ ((outC ts a (endN ts a) ts.length).take a ++ mvL ((a + 1 : Nat) : Int) ((a : Int) - ((a + 1 : Nat) : Int)) ((outC ts a (endN ts a) ts.length).drop (a + 1)))[a - 1]? = some t
      ∧ ((outC ts a (endN ts a) ts.length).take a ++ mvL ((a + 1 : Nat) : Int) ((a : Int) - ((a + 1 : Nat) : Int)) ((outC ts a (endN ts a) ts.length).drop (a + 1))).set (a - 1) ⟨t.kind, t.name, t.attrs, t.text ++ u.text⟩ = cutL ts a (endN ts a)
      ∧ t.text.size ≤ 60 ∧ u.text.size ≤ 60 := by
  have hle := endN_le hal
  obtain ⟨e, hE⟩ : ∃ e, endN ts a = e := ⟨_, rfl⟩
  have hout := fun i (h1 : endN ts a ≤ i) (h2 : i < ts.length) => out_kind hT hal (i := i) h1 h2
  rw [hE] at hle he hs hout ⊢
  have hae : a ≤ e := by omega
  have hel : e ≤ ts.length := by omega
  have ha1 : a - 1 < ts.length := by omega
  have et : ts[a - 1]? = some ts[a - 1] := List.getElem?_eq_getElem ha1
  have eu : ts[e]? = some ts[e] := List.getElem?_eq_getElem he
  have hout0 := out_high (i := 0) hae hel (by omega)
  rw [Nat.add_zero] at hout0
  have htake : (outC ts a e ts.length).take a = ts.take a := by
    unfold outC
    rw [Nat.min_eq_right (by omega), List.take_append_of_le_length (by rw [List.length_take]; omega), List.take_take, Nat.min_self]
  have hu0 : ts[e].name.size = 0 := by
    unfold sideB at hs
    rw [et, eu] at hs
    simp only [Bool.and_eq_true, decide_eq_true_eq] at hs
    exact hs.1
  have hdrop : mvL ((a + 1 : Nat) : Int) ((a : Int) - ((a + 1 : Nat) : Int)) ((outC ts a e ts.length).drop (a + 1)) = segN (fun _ r => if (e : Int) < r.kind then r.kind - ((e : Int) - (a : Int)) - 1 else r.kind) ts (e + 1) (ts.length - (e + 1)) := by
    refine List.ext_getElem? fun j => ?_
    unfold mvL
    rw [List.getElem?_map, List.getElem?_drop]
    by_cases hj : e + (1 + j) < ts.length
    · rw [show a + 1 + j = a + (1 + j) by omega, out_high hae hel hj, segN_get _ (by omega) j (by omega) ts[e + (1 + j)] (by rw [show e + 1 + j = e + (1 + j) by omega]; exact List.getElem?_eq_getElem hj)]
      simp only [Option.map_some]
      rw [mvT_shK]
      have k1 := hout (e + (1 + j)) (by omega) hj
      rw [parI_at hj] at k1
      have k2 : ¬ ts[e + (1 + j)].kind = (e : Int) := by
        intro h
        rcases hT.up (e + (1 + j)) hj with h' | ⟨p, _, ep, hel'⟩
        · omega
        · rw [parI_at hj, h] at ep
          have : p = e := by omega
          subst this
          obtain ⟨_, hne⟩ := hel'
          exact hne hu0
      congr 1
      show shK (if ((a + 1 : Nat) : Int) ≤ cutF a e ts[e + (1 + j)] then cutF a e ts[e + (1 + j)] + ((a : Int) - ((a + 1 : Nat) : Int)) else cutF a e ts[e + (1 + j)]) ts[e + (1 + j)] = _
      congr 1
      unfold cutF
      split <;> split <;> split <;> omega
    · rw [List.getElem?_eq_none (by rw [outL_len hae hel]; omega), List.getElem?_eq_none (by rw [segN_len _ (by omega)]; omega)]
      rfl
  have hz1 := text_of hT et
  have hz2 := text_of hT eu
  refine ⟨ts[a - 1], _, hout0, ?_, ?_, hz1, hz2⟩
  · rw [htake, List.getElem?_append_left (by rw [List.length_take]; omega), List.getElem?_take, if_pos (by omega)]
    exact et
  · rw [htake, hdrop, cutL_yes hs et eu]
    unfold joinC
    rw [List.set_append, if_pos (by rw [List.length_take]; omega)]
    rfl

end Go.Proofs.YtcjeodgfpnecgaaGreatDoor
