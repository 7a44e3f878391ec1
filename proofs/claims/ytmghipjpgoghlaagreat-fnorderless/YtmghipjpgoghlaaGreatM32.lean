/- A branch that means the same elsewhere is written the same there (mathematics alone). The one way to write it: contract of the specification's l11Canon. Contracts of the specification's Canon, CanonAll and SameCanon. -/
import Derived.Test.YtmghipjpgoghlaaGreatM30
import Derived.Test.YtmghipjpgoghlaaGreatM31
import Derived.Test.YtmghipjpgoghlaaGreatM22
import Derived.Test.YtmghipjpgoghlaaGreatM19
import Derived.Test.YtmghipjpgoghlaaGreatM16
import Derived.Deep.RegionHeld3
namespace Go.Proofs.YtmghipjpgoghlaaGreat
open Go.RowKit
set_option linter.unusedVariables false

section
variable {ts : List Tk} {k : Nat}

theorem kids_inner (hT : TreeP ts) (hk : k < ts.length) {j : Nat} (hj : k + j < endN ts k) : kidsN ts (k + j) = (kidsN (branchL ts k) j).map (fun x => k + x) := by
  have hle := endN_le hk
  have hlen := branchL_len hk
  have hkj : k + j < ts.length := by omega
  have hend : endN ts (k + j) ≤ endN ts k := by
    rcases Nat.eq_zero_or_pos j with h | h
    · subst h; exact Nat.le_refl _
    · exact (kid_end hk (show k < k + j by omega) hj).1
  rw [kidsN_from hkj, kidsN_from (ts := branchL ts k) (k := j) (by omega), kidsFrom_split (b := endN ts k) (by omega) hle.2, kidsFrom_none (fun i h1 h2 => no_kid hT hkj (by omega) h2), List.append_nil, hlen]
  unfold kidsFrom
  have e : List.range' (k + j + 1) (endN ts k - (k + j + 1)) = (List.range' (j + 1) (endN ts k - k - (j + 1))).map (fun x => k + x) := by
    rw [List.map_add_range', show endN ts k - k - (j + 1) = endN ts k - (k + j + 1) by omega]
    rfl
  rw [e, List.filter_map]
  congr 1
  refine List.filter_congr fun i hi => ?_
  rw [List.mem_range'_1] at hi
  show decide (parI ts (k + i) = ((k + j : Nat) : Int)) = decide (parI (branchL ts k) i = ((j : Nat) : Int))
  rw [branch_par hk (by omega), if_neg (by omega)]
  apply decide_eq_decide.2
  omega

theorem out_branch (hT : TreeP ts) (hk : k < ts.length) {j : Nat} (hj : k + j < endN ts k) : outAts ts (k + j) = outAts (branchL ts k) j ++ upAts ts (chainF ts (k + 1)).tail := by
  unfold outAts
  rw [chain_branch hT hk j hj]
  unfold upAts
  rw [List.flatMap_append, List.flatMap_map]
  congr 1
  have hlen := branchL_len hk
  have hmem : ∀ x ∈ chainF (branchL ts k) (j + 1), k + x < endN ts k := fun x hx => by
    have : x < j + 1 := chain_low (branchL ts k) j x hx
    omega
  refine flat_congr fun x hx => ?_
  obtain ⟨h1, h2, e⟩ := branch_get hk (hmem x hx)
  rw [List.getElem?_eq_getElem h1, List.getElem?_eq_getElem h2, e]
  rfl
where
  flat_congr {α β : Type} {f g : α → List β} : ∀ {l : List α}, (∀ x ∈ l, f x = g x) → l.flatMap f = l.flatMap g
    | [], _ => rfl
    | x :: l, h => by
      rw [List.flatMap_cons, List.flatMap_cons, h x (by simp), flat_congr (fun y hy => h y (by simp [hy]))]
  chain_low (ts : List Tk) : ∀ (i : Nat), ∀ p ∈ chainF ts (i + 1), p < i + 1
    | 0, p, hp => by have : p ∈ [0] := hp; simp at this; omega
    | i + 1, p, hp => by
      have e : chainF ts (i + 1 + 1) = (i + 1) :: (chainF ts (i + 1)).dropWhile (fun (x : Nat) => !decide ((x : Int) = parI ts (i + 1))) := rfl
      rw [e] at hp
      rcases List.mem_cons.1 hp with rfl | hp
      · omega
      · have := chain_low ts i p ((List.dropWhile_sublist _).subset hp)
        omega

end

theorem tw_congr {α : Type} {p q : α → Bool} : ∀ {l : List α}, (∀ x ∈ l, p x = q x) → l.takeWhile p = l.takeWhile q
  | [], _ => rfl
  | x :: l, h => by
    rw [List.takeWhile_cons, List.takeWhile_cons, h x (by simp), tw_congr (fun y hy => h y (by simp [hy]))]

theorem sort_congr {α : Type} {lt lt' : α → α → Bool} (l : List α) (h : ∀ x ∈ l, ∀ y ∈ l, lt x y = lt' x y) : sortG lt l = sortG lt' l := by
  unfold sortG
  have key : ∀ (l m : List α), (∀ x ∈ l, ∀ y, y ∈ m ∨ y ∈ l → lt x y = lt' x y) → l.foldl (insG lt) m = l.foldl (insG lt') m := by
    intro l
    induction l with
    | nil => intro m _; rfl
    | cons x l ih =>
      intro m hm
      rw [List.foldl_cons, List.foldl_cons]
      have e : insG lt m x = insG lt' m x := by
        unfold insG
        rw [tw_congr (p := fun y => !lt x y) (q := fun y => !lt' x y) (fun y hy => by show (!lt x y) = !lt' x y; rw [hm x (by simp) y (.inl hy)])]
      rw [e]
      refine ih _ fun z hz y hy => hm z (by simp [hz]) y ?_
      rcases hy with hy | hy
      · rcases ins_mem.1 hy with rfl | hy
        · exact .inr (by simp)
        · exact .inl hy
      · exact .inr (by simp [hy])
  exact key l [] fun x hx y hy => h x hx y (hy.resolve_left List.not_mem_nil)

theorem oth_congr {ts us : List Tk} {k m : Nat} {l : List At} (h : ∀ x ∈ l, cntB x = true → mnF ts k (preS x.name) = mnF us m (preS x.name)) : othL ts k l = othL us m l := by
  rw [oth_sort, oth_sort]
  have hm : ∀ x ∈ l.filter nodeclB, atMean ts k x = atMean us m x := fun x hx => by
    obtain ⟨h1, h2⟩ := List.mem_filter.1 hx
    unfold atMean
    by_cases h0 : (preS x.name).size = 0
    · rw [if_pos h0, if_pos h0]
    · rw [if_neg h0, if_neg h0]
      exact h x h1 (by unfold cntB; unfold nodeclB at h2; rw [h2, decide_eq_false h0]; rfl)
  refine sort_congr _ fun x hx y hy => ?_
  unfold aheadF
  rw [hm x hx, hm y hy]

theorem dcl_congr {ts us : List Tk} {k m : Nat} : ∀ (ps : List ByteArray) (sd : List At) (s : ByteArray), (∀ p ∈ ps, mnF ts k p = mnF us m p) → dclL ts k sd s ps = dclL us m sd s ps
  | [], sd, s, _ => rfl
  | p :: ps, sd, s, h => by
    have e1 : dclL ts k sd s (p :: ps) = dclL ts k (dclF ts k (sd, s) p).1 (dclF ts k (sd, s) p).2 ps := rfl
    have e2 : dclL us m sd s (p :: ps) = dclL us m (dclF us m (sd, s) p).1 (dclF us m (sd, s) p).2 ps := rfl
    have e3 : dclF ts k (sd, s) p = dclF us m (sd, s) p := by unfold dclF; rw [h p (by simp)]
    rw [e1, e2, e3]
    exact dcl_congr ps _ _ (fun q hq => h q (by simp [hq]))

/-- Two nodes that look alike, and whose prefixes mean the same. -/
structure AlikeN (ts us : List Tk) (i i' : Nat) : Prop where
  name : (nodeAt us i').name = (nodeAt ts i).name
  text : (nodeAt us i').text = (nodeAt ts i).text
  pre : ¬ (nodeAt ts i).name.size = 0 → preL7 (nodeAt us i').name (nodeAt us i').attrs = preL7 (nodeAt ts i).name (nodeAt ts i).attrs
  oth : ¬ (nodeAt ts i).name.size = 0 → othL us i' (nodeAt us i').attrs = othL ts i (nodeAt ts i).attrs
  mean : ¬ (nodeAt ts i).name.size = 0 → ∀ p ∈ preL7 (nodeAt ts i).name (nodeAt ts i).attrs, mnF ts i p = mnF us i' p

/-- What looks alike is written alike. -/
theorem canon_alike {ts us : List Tk} {but but' : Int} (φ : Nat → Nat) (D : Nat → Prop) (hA : ∀ i, D i → AlikeN ts us i (φ i)) (hb : ∀ i, D i → ¬ (i : Int) = but ∧ ¬ (φ i : Int) = but')
    (hK : ∀ i, D i → ∃ K, (kidsN ts i).filter (notB but) = K ∧ (∀ j ∈ K, D j) ∧ (kidsN us (φ i)).filter (notB but') = K.map φ) :
    ∀ f i sd, D i → canonN ts but f i sd = canonN us but' f (φ i) sd
  | 0, i, sd, _ => rfl
  | f + 1, i, sd, hi => by
    have a := hA i hi
    obtain ⟨b1, b2⟩ := hb i hi
    by_cases hn : (nodeAt ts i).name.size = 0
    · rw [canonN_text rfl b1 hn, canonN_text rfl b2 (by rw [a.name]; exact hn), a.text]
    · rw [canonN_el rfl b1 hn, canonN_el rfl b2 (by rw [a.name]; exact hn)]
      have ed := dcl_congr (ts := ts) (us := us) (k := i) (m := φ i) (preL7 (nodeAt ts i).name (nodeAt ts i).attrs) sd ((⟨#[60]⟩ : ByteArray) ++ (nodeAt ts i).name) (a.mean hn)
      have eh : headS us (φ i) sd (nodeAt us (φ i)) = headS ts i sd (nodeAt ts i) := by
        unfold headS
        rw [a.oth hn, a.pre hn, a.name, ← ed]
      have es : saidL us (φ i) sd (nodeAt us (φ i)) = saidL ts i sd (nodeAt ts i) := by
        unfold saidL
        rw [a.pre hn, a.name, ← ed]
      obtain ⟨K, k1, k2, k3⟩ := hK i hi
      have zero : ∀ (tt : List Tk) (b : Int) (sd : List At) (j : Nat), (j : Int) = b → canonN tt b f j sd = ⟨#[]⟩ := fun tt b sd j hj => by
        cases f with
        | zero => rfl
        | succ f => exact canonN_but hj
      rw [fold_cat _ but _ _ (zero ts but _), fold_cat _ but' _ _ (zero us but' _), eh, es, a.name, k1, k3, List.map_map]
      congr 5
      refine List.map_congr_left fun j hj => ?_
      exact canon_alike φ D hA hb hK f j _ (k2 j hj)

/-- More room changes nothing. -/
theorem canon_fuel {ts : List Tk} {but : Int} : ∀ (f f' k : Nat) (sd : List At), k < ts.length → ts.length ≤ f + k → ts.length ≤ f' + k → canonN ts but f k sd = canonN ts but f' k sd
  | 0, f', k, sd, h1, h2, _ => by omega
  | f + 1, 0, k, sd, h1, _, h3 => by omega
  | f + 1, f' + 1, k, sd, h1, h2, h3 => by
    by_cases hb : (k : Int) = but
    · rw [canonN_but hb, canonN_but hb]
    · by_cases hn : (nodeAt ts k).name.size = 0
      · rw [canonN_text rfl hb hn, canonN_text rfl hb hn]
      · rw [canonN_el rfl hb hn, canonN_el rfl hb hn]
        congr 3
        have key : ∀ (l : List Nat) (s : ByteArray), (∀ j ∈ l, j < ts.length ∧ k < j) → l.foldl (fun s j => s ++ canonN ts but f j (saidL ts k sd (nodeAt ts k))) s = l.foldl (fun s j => s ++ canonN ts but f' j (saidL ts k sd (nodeAt ts k))) s := by
          intro l
          induction l with
          | nil => intro s _; rfl
          | cons j l ih =>
            intro s hl
            have := hl j (by simp)
            rw [List.foldl_cons, List.foldl_cons, canon_fuel f f' j _ this.1 (by omega) (by omega), ih _ (fun i hi => hl i (by simp [hi]))]
        refine key _ _ fun j hj => ⟨kidsN_lt hj, ?_⟩
        have h2 := (List.mem_filter.1 hj).2
        simp only [Bool.and_eq_true, decide_eq_true_eq] at h2
        exact h2.1

theorem branch_node {ts : List Tk} {k : Nat} (hk : k < ts.length) {j : Nat} (hj : k + j < endN ts k) : (nodeAt ts (k + j)).name = (nodeAt (branchL ts k) j).name ∧ (nodeAt ts (k + j)).attrs = (nodeAt (branchL ts k) j).attrs ∧ (nodeAt ts (k + j)).text = (nodeAt (branchL ts k) j).text := by
  obtain ⟨h1, h2, e⟩ := branch_get hk hj
  rw [nodeAt_at h1, nodeAt_at h2, e]
  exact ⟨rfl, rfl, rfl⟩

/-- The same branch elsewhere. -/
theorem canon_moved {ts us : List Tk} {k m : Nat} (hT : TreeP ts) (hU : TreeP us) (hk : k < ts.length) (hm : m < us.length) (hbr : branchL us m = branchL ts k)
    (hM : ∀ j, j < (branchL ts k).length → ¬ (nodeAt (branchL ts k) j).name.size = 0 → ∀ p ∈ preL7 (nodeAt (branchL ts k) j).name (nodeAt (branchL ts k) j).attrs, mnF ts (k + j) p = mnF us (m + j) p) (f : Nat) (sd : List At) :
    canonN ts (-1) f k sd = canonN us (-1) f m sd := by
  have l1 := branchL_len hk
  have l2 := branchL_len hm
  have e1 := endN_le hk
  have e2 := endN_le hm
  rw [hbr, l1] at l2
  have key := canon_alike (ts := ts) (us := us) (but := -1) (but' := -1) (fun i => m + (i - k)) (fun i => k ≤ i ∧ i < endN ts k) ?_ ?_ ?_ f k sd ⟨Nat.le_refl _, e1.1⟩
  · rw [key, Nat.sub_self, Nat.add_zero]
  · intro i hi
    obtain ⟨j, rfl⟩ : ∃ j, i = k + j := ⟨i - k, by omega⟩
    have n1 := branch_node hk hi.2
    have n2 := branch_node hm (j := j) (by omega)
    rw [hbr] at n2
    have ej : m + (k + j - k) = m + j := by omega
    show AlikeN ts us (k + j) (m + (k + j - k))
    rw [ej]
    have hmean : ¬ (nodeAt ts (k + j)).name.size = 0 → ∀ p ∈ preL7 (nodeAt ts (k + j)).name (nodeAt ts (k + j)).attrs, mnF ts (k + j) p = mnF us (m + j) p := fun hn p hp => by
      rw [n1.1] at hn
      rw [n1.1, n1.2.1] at hp
      exact hM j (by omega) hn p hp
    refine ⟨by rw [n2.1, n1.1], by rw [n2.2.2, n1.2.2], fun _ => by rw [n2.1, n2.2.1, n1.1, n1.2.1], fun hn => ?_, hmean⟩
    rw [n2.2.1, ← n1.2.1]
    refine (oth_congr fun x hx hc => ?_).symm
    exact hmean hn _ ((pre_strict _ _).2 _ |>.2 (.inr ⟨x, hx, hc, rfl⟩))
  · intro i hi
    exact ⟨by omega, by show ¬ ((m + (i - k) : Nat) : Int) = -1; omega⟩
  · intro i hi
    obtain ⟨j, rfl⟩ : ∃ j, i = k + j := ⟨i - k, by omega⟩
    have nb : ∀ l : List Nat, l.filter (notB (-1)) = l := fun l => List.filter_eq_self.2 fun x _ => by unfold notB; rw [decide_eq_false (by omega)]; rfl
    refine ⟨_, rfl, fun q hq => ?_, ?_⟩
    · rw [nb, kids_inner hT hk hi.2] at hq
      obtain ⟨x, hx, rfl⟩ := List.mem_map.1 hq
      have := kidsN_lt hx
      exact ⟨by omega, by omega⟩
    · show (kidsN us (m + (k + j - k))).filter (notB (-1)) = _
      rw [nb, nb, show m + (k + j - k) = m + j by omega, kids_inner hU hm (by omega), kids_inner hT hk hi.2, hbr, List.map_map]
      refine List.map_congr_left fun x _ => ?_
      show m + x = m + (k + x - k)
      omega

end Go.Proofs.YtmghipjpgoghlaaGreat

namespace Go.Proofs.YtmghipjpgoghlaaGreat
open Go.RowKit
set_option linter.unusedVariables false
set_option linter.unusedSimpArgs false

/-- What is known in the first loop. -/
structure Lp2 (W0 wr : World) (ts : List Tk) (k : Nat) (nm : ByteArray) (l : List At) (i : Nat) (v12 v13 : Value) (np m : Nat) : Prop where
  bel : Below W0.heap.size W0 wr
  ps : Rd wr 1 v12 np (keyV (preL7 nm (l.take i)))
  oth : Rd wr 2 v13 m (atC (othL ts k (l.take i)))
  hi : i ≤ l.length
  hnp : (preL7 nm (l.take i)).length = np
  hm : (othL ts k (l.take i)).length = m

theorem Lp2.below {W0 wr w' : World} {ts : List Tk} {k : Nat} {nm : ByteArray} {l : List At} {i : Nat} {v12 v13 : Value} {np m : Nat} (h : Lp2 W0 wr ts k nm l i v12 v13 np m) (hb : Below wr.heap.size wr w') : Lp2 W0 w' ts k nm l i v12 v13 np m :=
  ⟨bb h.bel hb, h.ps.below hb, h.oth.below hb, h.hi, h.hnp, h.hm⟩

theorem Lp2.few {W0 wr : World} {ts : List Tk} {k : Nat} {nm : ByteArray} {l : List At} {i : Nat} {v12 v13 : Value} {np m : Nat} (h : Lp2 W0 wr ts k nm l i v12 v13 np m) (hz : AtSz 1048576 l) (hn : nm.size ≤ 1048576) : np ≤ i + 1 ∧ m ≤ i ∧ (∀ p ∈ preL7 nm (l.take i), p.size ≤ 1048576) ∧ ∀ y ∈ othL ts k (l.take i), y ∈ l := by
  obtain ⟨h1, _, h3⟩ := preL7_all (b := 1048576) (preS_sz hn) (l.take i) (fun x hx => preS_sz (hz x (List.mem_of_mem_take hx)).1)
  obtain ⟨g1, g2⟩ := othL_all (ts := ts) (k := k) (l.take i)
  have hti : (l.take i).length = i := by rw [List.length_take]; have := h.hi; omega
  rw [hti, h.hnp] at h1
  rw [hti, h.hm] at g1
  exact ⟨h1, g1, h3, fun y hy => List.mem_of_mem_take (g2 y hy)⟩

/-- A declaration is passed by. -/
theorem Lp2.skip {W0 wr : World} {ts : List Tk} {k : Nat} {nm : ByteArray} {l : List At} {i : Nat} {v12 v13 : Value} {np m : Nat} (h : Lp2 W0 wr ts k nm l i v12 v13 np m) (hi : i < l.length) (hd : (declF l[i]).isSome = true) : Lp2 W0 wr ts k nm l (i + 1) v12 v13 np m := by
  have e1 := preL7_next (nm := nm) hi
  have e2 := othL_next (ts := ts) (k := k) hi
  rw [accP_no hd] at e1
  rw [accB_no hd] at e2
  exact ⟨h.bel, by rw [e1]; exact h.ps, by rw [e2]; exact h.oth, hi, by rw [e1]; exact h.hnp, by rw [e2]; exact h.hm⟩

/-- Another one. -/
theorem Lp2.next {W0 wr w' : World} {ts : List Tk} {k : Nat} {nm : ByteArray} {l : List At} {i : Nat} {v12 v13 v12' v13' : Value} {np m j : Nat} {P' : List ByteArray} (h : Lp2 W0 wr ts k nm l i v12 v13 np m) (hi : i < l.length) (hd : (declF l[i]).isSome = false) (hb : Below W0.heap.size W0 w')
    (hP : accP (preL7 nm (l.take i)) l[i] = P') (hps : Rd w' 1 v12' P'.length (keyV P')) (hj : insN ts k (othL ts k (l.take i)) l[i] = j) (hoth : Rd w' 2 v13' (m + 1) (atC ((othL ts k (l.take i)).take j ++ l[i] :: (othL ts k (l.take i)).drop j))) : Lp2 W0 w' ts k nm l (i + 1) v12' v13' P'.length (m + 1) := by
  have e1 := preL7_next (nm := nm) hi
  have e2 := othL_next (ts := ts) (k := k) hi
  rw [hP] at e1
  rw [accB_put hd] at e2
  have e3 := insA_is hj
  refine ⟨hb, by rw [e1]; exact hps, by rw [e2, e3]; exact hoth, hi, by rw [e1], ?_⟩
  rw [e2, insA_len, h.hm]

/-- A node in a box. -/
theorem box4_at {W0 wr : World} {g : Nat} {x y z u : Value} {T : TypeId} (h : W0.heap[g]? = some (.cells #[x, y, z, u] T (0, 0))) (hb : Below W0.heap.size W0 wr) : wr.cell? ⟨g, 0, none⟩ = some x ∧ wr.cell? ⟨g, 1, none⟩ = some y ∧ wr.cell? ⟨g, 2, none⟩ = some z ∧ wr.cell? ⟨g, 3, none⟩ = some u := (box4 (blk_below h hb)).1

theorem at_cells {W0 wr : World} {a : Option Addr} {l : List At} (h : AtRow W0 a l) (hb : Below W0.heap.size W0 wr) {i : Nat} (hi : i < l.length) : ∃ b o, a = some ⟨b, o, none⟩ ∧ b < wr.heap.size ∧ wr.cell? ⟨b, o + i * 2, none⟩ = some (.string l[i].name) ∧ wr.cell? ⟨b, o + i * 2 + 1, none⟩ = some (.string l[i].value) := (h.below hb) i hi

/-- What is known while declarations are written. -/
structure Lp3 (W1 wr : World) (ts : List Tk) (k : Nat) (sd : List At) (S0 : ByteArray) (P : List ByteArray) (q : Nat) (sa : Option Addr) (ns : Nat) (S : ByteArray) : Prop where
  bel : Below W1.heap.size W1 wr
  said : AtRow wr sa (dclL ts k sd S0 (P.take q)).1
  len : (dclL ts k sd S0 (P.take q)).1.length = ns
  str : (dclL ts k sd S0 (P.take q)).2 = S

theorem Lp3.start {W1 wr : World} {ts : List Tk} {k : Nat} {sd : List At} {S0 : ByteArray} {P : List ByteArray} {sa : Option Addr} {ns : Nat} (h : AtRow wr sa sd) (hn : sd.length = ns) (hb : Below W1.heap.size W1 wr) : Lp3 W1 wr ts k sd S0 P 0 sa ns S0 := ⟨hb, h, hn, rfl⟩

theorem Lp3.below {W1 wr w' : World} {ts : List Tk} {k : Nat} {sd : List At} {S0 : ByteArray} {P : List ByteArray} {q : Nat} {sa : Option Addr} {ns : Nat} {S : ByteArray} (h : Lp3 W1 wr ts k sd S0 P q sa ns S) (hb : Below wr.heap.size wr w') : Lp3 W1 w' ts k sd S0 P q sa ns S := ⟨bb h.bel hb, h.said.below hb, h.len, h.str⟩

theorem Lp3.few {W1 wr : World} {ts : List Tk} {k : Nat} {sd : List At} {S0 : ByteArray} {P : List ByteArray} {q : Nat} {sa : Option Addr} {ns : Nat} {S : ByteArray} (h : Lp3 W1 wr ts k sd S0 P q sa ns S) (hz : TksSz 1048576 ts) (hp : ∀ p ∈ P, p.size ≤ 1048576) : ns ≤ sd.length + q ∧ S.size ≤ S0.size + 2100000 * q := by
  obtain ⟨h1, h2⟩ := dclL_all (k := k) hz sd S0 (P.take q) (fun p hp' => hp p (List.mem_of_mem_take hp'))
  rw [h.len] at h1
  rw [h.str] at h2
  have hl : (P.take q).length ≤ q := List.length_take_le _ _
  have h3 : 2100000 * (P.take q).length ≤ 2100000 * q := Nat.mul_le_mul_left _ hl
  exact ⟨by omega, by omega⟩

/-- It needs not be written. -/
theorem Lp3.skip {W1 wr : World} {ts : List Tk} {k : Nat} {sd : List At} {S0 : ByteArray} {P : List ByteArray} {q : Nat} {sa : Option Addr} {ns : Nat} {S : ByteArray} (h : Lp3 W1 wr ts k sd S0 P q sa ns S) (hq : q < P.length) (hs : skipB (dclL ts k sd S0 (P.take q)).1 P[q] (mnF ts k P[q]) = true) : Lp3 W1 wr ts k sd S0 P (q + 1) sa ns S := by
  have e : dclL ts k sd S0 (P.take (q + 1)) = dclL ts k sd S0 (P.take q) := by
    rw [dclL_next hq]
    unfold dclF
    rw [if_pos hs]
  exact ⟨h.bel, by rw [e]; exact h.said, by rw [e]; exact h.len, by rw [e]; exact h.str⟩

/-- It is. -/
theorem Lp3.next {W1 wr w' : World} {ts : List Tk} {k : Nat} {sd : List At} {S0 : ByteArray} {P : List ByteArray} {q : Nat} {sa sa' : Option Addr} {ns : Nat} {S : ByteArray} (h : Lp3 W1 wr ts k sd S0 P q sa ns S) (hq : q < P.length) (hs : skipB (dclL ts k sd S0 (P.take q)).1 P[q] (mnF ts k P[q]) = false) (hb : Below W1.heap.size W1 w')
    (hr : AtRow w' sa' ((dclL ts k sd S0 (P.take q)).1 ++ [⟨P[q], mnF ts k P[q]⟩])) : Lp3 W1 w' ts k sd S0 P (q + 1) sa' (ns + 1) (dclS S P[q] (mnF ts k P[q])) := by
  have e : dclL ts k sd S0 (P.take (q + 1)) = ((dclL ts k sd S0 (P.take q)).1 ++ [⟨P[q], mnF ts k P[q]⟩], dclS (dclL ts k sd S0 (P.take q)).2 P[q] (mnF ts k P[q])) := by
    rw [dclL_next hq]
    unfold dclF
    rw [if_neg (by rw [hs]; exact Bool.false_ne_true)]
  refine ⟨hb, by rw [e]; exact hr, ?_, ?_⟩
  · rw [e]
    show (_ ++ [_]).length = _
    rw [List.length_append, h.len]
    rfl
  · rw [e]
    show dclS _ _ _ = _
    rw [h.str]

/-- All that stands firm while a node is written. -/
structure CanX (b o cap : Nat) (ts : List Tk) (n k : Nat) (but : Int) (f : Nat) (sd : List At) (ns : Nat) (sa : Option Addr) (w W0 : World) (K : Int) (nm : ByteArray) (l : List At) (nA : Nat) (aa : Option Addr) (ca : Nat) (tx : ByteArray) : Prop where
  tree : TreeP ts
  sz : TksSz 1048576 ts
  len : ts.length = n
  kn : k < n
  nsl : sd.length = ns
  nsk : ns ≤ 10 * k
  na : l.length = nA
  na6 : nA ≤ 6
  tks : TkSz 1048576 ⟨K, nm, l, tx⟩
  node : nodeAt ts k = ⟨K, nm, l, tx⟩
  bel : Below w.heap.size w W0
  box : W0.heap[w.heap.size]? = some (.cells #[.int .i64 K, .string nm, .slice aa nA ca, .string tx] 33 (0, 0))
  row : TkRow W0 (some ⟨b, o, none⟩) ts
  ats : AtRow W0 aa l
  said : AtRow W0 sa sd
  ih : ∀ (j : Nat) (sd' : List At) (sa' : Option Addr) (sc' : Nat) (wx : World), TkRow wx (some ⟨b, o, none⟩) ts → j < n → k < j → AtRow wx sa' sd' → sd'.length ≤ 10 * j → Calls Tryz.prog 44 #[.slice (some ⟨b, o, none⟩) n cap, .int .i64 (j : Int), .int .i64 but, .slice sa' sd'.length sc'] wx fun e w' => e = .returned (.string (canonN ts but f j sd')) ∧ Below wx.heap.size wx w'

section
variable {b o cap : Nat} {ts : List Tk} {n k : Nat} {but : Int} {f : Nat} {sd : List At} {ns : Nat} {sa : Option Addr} {w W0 : World} {K : Int} {nm : ByteArray} {l : List At} {nA : Nat} {aa : Option Addr} {ca : Nat} {tx : ByteArray}

theorem CanX.nms (X : CanX b o cap ts n k but f sd ns sa w W0 K nm l nA aa ca tx) : nm.size ≤ 1048576 := X.tks.1

theorem CanX.asz (X : CanX b o cap ts n k but f sd ns sa w W0 K nm l nA aa ca tx) : AtSz 1048576 l := X.tks.2.2.1

theorem CanX.n50 (X : CanX b o cap ts n k but f sd ns sa w W0 K nm l nA aa ca tx) : n ≤ 50 := by rw [← X.len]; exact X.tree.2.1

theorem CanX.cm (X : CanX b o cap ts n k but f sd ns sa w W0 K nm l nA aa ca tx) (p : ByteArray) (wx : World) (hb : Below W0.heap.size W0 wx) (hp : p.size ≤ 1048576) :
    Calls Tryz.prog 47 #[.slice (some ⟨b, o, none⟩) n cap, .int .i64 (k : Int), .string p] wx fun e w' => e = .returned (.tuple #[.string ((meanF ts k p).getD ⟨#[]⟩), .bool (meanF ts k p).isSome]) ∧ Below wx.heap.size wx w' := by
  have h50 := X.n50
  have hk := X.kn
  have h := c_spec_l9Meaning (some ⟨b, o, none⟩) cap ts k p wx (X.row.below hb) X.tree (by rw [X.len]; exact hk) (by rw [X.len]; omega) X.sz hp
  rw [X.len] at h
  exact h

theorem CanX.ck (X : CanX b o cap ts n k but f sd ns sa w W0 K nm l nA aa ca tx) (wx : World) (hb : Below W0.heap.size W0 wx) :
    Calls Tryz.prog 82 #[.slice (some ⟨b, o, none⟩) n cap, .int .i64 (k : Int)] wx fun e w' => ∃ v, e = .returned v ∧ w'.ownsRow wx.heap.size 2 1 v (kidsN ts k).length (intC (kidsN ts k)) ∧ Below wx.heap.size wx w' := by
  have h50 := X.n50
  have hk := X.kn
  have h := cKidsS (some ⟨b, o, none⟩) cap ts k wx (X.row.below hb) (by rw [X.len]; exact hk) (by rw [X.len]; omega)
  rw [X.len] at h
  exact h

theorem CanX.ca' (X : CanX b o cap ts n k but f sd ns sa w W0 K nm l nA aa ca tx) (x y : At) (wx : World) (hb : Below W0.heap.size W0 wx) (hx : x.name.size ≤ 1048576) (hy : y.name.size ≤ 1048576) :
    Calls Tryz.prog 79 #[.slice (some ⟨b, o, none⟩) n cap, .int .i64 (k : Int), .agg #[.string x.name, .string x.value], .agg #[.string y.name, .string y.value]] wx fun e w' => e = .returned (.bool (aheadF ts k x y)) ∧ Below wx.heap.size wx w' := by
  have h50 := X.n50
  have hk := X.kn
  have h := c_spec_l11Ahead (some ⟨b, o, none⟩) cap ts k x y wx (X.row.below hb) X.tree (by rw [X.len]; exact hk) (by rw [X.len]; omega) X.sz hx hy
  rw [X.len] at h
  exact h

theorem CanX.cells (X : CanX b o cap ts n k but f sd ns sa w W0 K nm l nA aa ca tx) {wx : World} (hb : Below W0.heap.size W0 wx) : wx.cell? ⟨w.heap.size, 1, none⟩ = some (.string nm) ∧ wx.cell? ⟨w.heap.size, 2, none⟩ = some (.slice aa nA ca) := ⟨(box4_at X.box hb).2.1, (box4_at X.box hb).2.2.1⟩

end

theorem infoSd : (Tryz.prog.info? 116).map (fun i => (i.zero, i.size, i.bytes)) = some (some (.agg #[.string ⟨#[]⟩, .string ⟨#[]⟩]), 2, 32) := by kernel_rfl

/-- As the program asks it. -/
theorem skip_is (sd : List At) (p m : ByteArray) : skipB sd p m = (((lastF sd p).isSome && (((lastF sd p).getD ⟨#[]⟩).toList == m.toList)) || ((!(lastF sd p).isSome && p.toList.isEmpty) && m.toList.isEmpty)) := by
  unfold skipB
  rw [empty_is, empty_is, str_beq]
  cases lastF sd p with
  | none => simp
  | some x => simp

theorem sl_fromA (b o L cap k : Nat) (h : k ≤ L) (hL : L ≤ cap) (W : World) : (Instr.slice 31 (.slice (some ⟨b, o, none⟩) L cap) (some (.int .i64 k)) none none).run Tryz.prog W = .ok (.slice (some (if cap = k then ⟨b, o, none⟩ else ⟨b, o + k * 2, none⟩)) (L - k) (cap - k)) W := by
  have h' : (k : Int) ≤ L := by omega
  have h2 : (L : Int) ≤ cap := by omega
  go_simp
  by_cases e : cap = k <;> simp [e, Addr.add]

theorem sl_uptoA (b o L cap k : Nat) (h : k ≤ L) (hL : L ≤ cap) (W : World) : (Instr.slice 31 (.slice (some ⟨b, o, none⟩) L cap) none (some (.int .i64 k)) none).run Tryz.prog W = .ok (.slice (some ⟨b, o, none⟩) k cap) W := by
  have h' : (k : Int) ≤ L := by omega
  have h2 : (k : Int) ≤ cap := by omega
  have h3 : ¬ cap < k := by omega
  go_simp

/-- Ahead of the first loop. -/
theorem start_lp {W0 w1 : World} {ts : List Tk} {k : Nat} {nm : ByteArray} {l : List At} (hb : Below W0.heap.size W0 w1) : Lp2 W0 ((w1.alloc (.cells #[.string (preS nm)] 9)).alloc (.cells #[] 42)) ts k nm l 0 (.slice (some ⟨w1.heap.size, 0, none⟩) 1 1) (.slice (some ⟨w1.heap.size + 1, 0, none⟩) 0 0) 1 0 := by
  have HL1 := (Below.refl w1.heap.size w1).alloc (Nat.le_refl _) (.cells #[.string (preS nm)] 9)
  have HL2 := HL1.alloc HL1.size (.cells #[] 42)
  have HP2 := (Rd.new w1 9 1 [.string (preS nm)] 1 rfl).below ((Below.refl _ _).alloc (Nat.le_refl _) (.cells #[] 42))
  have HO2 := Rd.own (own_new (w1.alloc (.cells #[.string (preS nm)] 9)) 42 2)
  have eh : (w1.alloc (.cells #[.string (preS nm)] 9)).heap.size = w1.heap.size + 1 := by simp
  rw [eh] at HO2
  exact ⟨bb hb HL2, HP2, HO2, Nat.zero_le _, rfl, rfl⟩

set_option maxRecDepth 8000 in
set_option maxHeartbeats 16000000 in
theorem canon_el {b o cap : Nat} {ts : List Tk} {n k : Nat} {but : Int} {f : Nat} {sd : List At} {ns : Nat} {sa : Option Addr} {sc : Nat} {w W0 : World} {K : Int} {nm : ByteArray} {l : List At} {nA : Nat} {aa : Option Addr} {ca : Nat} {tx : ByteArray}
    (X : CanX b o cap ts n k but f sd ns sa w W0 K nm l nA aa ca tx) (hW0 : w.alloc (.cells #[.int .i64 K, .string nm, .slice aa nA ca, .string tx] 33) = W0) (q0 : w.cell? ⟨b, o + k * 4, none⟩ = some (.int .i64 K)) (q1 : w.cell? ⟨b, o + k * 4 + 1, none⟩ = some (.string nm)) (q2 : w.cell? ⟨b, o + k * 4 + 2, none⟩ = some (.slice aa nA ca)) (q3 : w.cell? ⟨b, o + k * 4 + 3, none⟩ = some (.string tx))
    (hbb : ((k : Int) == but) = false) (hne : nm.toList.isEmpty = false) (R : ByteArray) (HF : Hid (R = (((kidsN ts k).foldl (fun s j => s ++ canonN ts but f j (saidL ts k sd ⟨K, nm, l, tx⟩)) (headS ts k sd ⟨K, nm, l, tx⟩) ++ ⟨#[60, 47]⟩) ++ nm) ++ ⟨#[62]⟩)) :
    Calls Tryz.prog 44 #[.slice (some ⟨b, o, none⟩) n cap, .int .i64 (k : Int), .int .i64 but, .slice sa ns sc] w fun e w' => e = .returned (.string R) ∧ Below w.heap.size w w' := by
  have hkn : (k : Int) < (n : Int) := by have := X.kn; omega
  obtain ⟨c1, c2⟩ := X.cells (Below.refl _ W0)
  have CP := hid (cPartsX nm W0 X.nms)
  have hna6 := X.na6
  have XX := hid X
  clear X
  go_enter Tryz.func44, Tryz.ntmps44
  go_wp2_with fail
  refine CP.out.mono ?_
  rintro e w1 ⟨rfl, hb1⟩
  have HX := hid (start_lp (ts := ts) (k := k) (nm := nm) (l := l) hb1)
  clear hb1 CP c1 c2 q0 q1 q2 q3 hW0 hbb hne
  go_wp2_with fail
  go_loopw [12, 13, 14] (fun v12 v13 x wr => ∃ i np m pb po pc ob oo oc : Nat, x = .int .i64 (i : Int) ∧ v12 = .slice (some ⟨pb, po, none⟩) np pc ∧ v13 = .slice (some ⟨ob, oo, none⟩) m oc ∧ Hid (Lp2 W0 wr ts k nm l i (.slice (some ⟨pb, po, none⟩) np pc) (.slice (some ⟨ob, oo, none⟩) m oc) np m)) (fun _ _ x _ => nA - (intOf x).toNat)
  case atStart => exact ⟨0, 1, 0, _, _, _, _, _, _, rfl, rfl, rfl, HX.out⟩
  case round =>
    clear HX
    obtain ⟨i, np, m, pb, po, pc, ob, oo, oc, rfl, rfl, rfl, ST⟩ := hrel
    obtain ⟨d1, d2⟩ := XX.out.cells ST.out.bel
    have hi : i ≤ nA := by rw [← XX.out.na]; exact ST.out.hi
    by_cases hlt : i < nA
    case neg =>
      have hie : i = nA := by omega
      obtain ⟨W1, hW1⟩ : ∃ W, W = wr := ⟨_, rfl⟩
      subst hW1
      have hall : l.take i = l := List.take_of_length_le (by rw [XX.out.na]; omega)
      have hfew := ST.out.few XX.out.asz XX.out.nms
      have HP := hid ST.out.ps
      have HO := hid ST.out.oth
      have HNP := hid ST.out.hnp
      have HNM := hid ST.out.hm
      have HB1 := hid ST.out.bel
      rw [hall] at HP HO HNP HNM hfew
      have HFW := hid hfew.2.2
      obtain ⟨hnp6, hm6, -, -⟩ := hfew
      have hS0 : nm.size ≤ 1048576 := XX.out.nms
      obtain ⟨S0, hS0e⟩ : ∃ S0, (⟨#[60]⟩ : ByteArray) ++ nm = S0 := ⟨_, rfl⟩
      have HS0 := hid hS0e
      have hs0 : S0.size = 1 + nm.size := by rw [← hS0e, ByteArray.size_append]; rfl
      have HX := hid (Lp3.start (ts := ts) (k := k) (S0 := S0) (P := preL7 nm l) (XX.out.said.below HB1.out) XX.out.nsl (Below.refl W1.heap.size W1))
      have hinn : ¬ (i : Int) < (nA : Int) := by omega
      have hnp7 : np ≤ 7 := by omega
      have hm7 : m ≤ 6 := by omega
      clear hall ST hie hlt hi hnp6 hm6
      go_wp2_with fail
      clear d1 d2 hS0e hinn
      go_loopw [3, 21, 22] (fun v3 s x wr => ∃ (q ns' sc' : Nat) (sa' : Option Addr) (S : ByteArray), x = .int .i64 (q : Int) ∧ v3 = .slice sa' ns' sc' ∧ s = .string S ∧ q ≤ np ∧ Hid (Lp3 W1 wr ts k sd S0 (preL7 nm l) q sa' ns' S)) (fun _ _ x _ => np - (intOf x).toNat)
      case atStart => exact ⟨0, ns, sc, sa, S0, rfl, rfl, rfl, Nat.zero_le _, HX.out⟩
      case round =>
        clear HX
        obtain ⟨q, ns', sc', sa', S, rfl, rfl, rfl, hq, T3⟩ := hrel
        by_cases hqn : q < np
        case neg =>
          have hall : (preL7 nm l).take q = preL7 nm l := List.take_of_length_le (by rw [HNP.out]; omega)
          obtain ⟨hns6, hS6⟩ := T3.out.few XX.out.sz HFW.out.1
          have HSA := hid (And.intro T3.out.said T3.out.len)
          have HST := hid T3.out.str
          rw [hall, ← HS0.out] at HSA HST
          have HSA := hid (show AtRow wr sa' (saidL ts k sd ⟨K, nm, l, tx⟩) ∧ (saidL ts k sd ⟨K, nm, l, tx⟩).length = ns' from HSA.out)
          have HSD := hid (show headS ts k sd ⟨K, nm, l, tx⟩ = atsS (othL ts k l) S ++ ⟨#[62]⟩ by rw [← HST.out]; rfl)
          have HB3 := hid (bb HB1.out T3.out.bel)
          have HOW := hid (HO.out.below T3.out.bel)
          obtain ⟨W3, hW3⟩ : ∃ W, W = wr := ⟨_, rfl⟩
          subst hW3
          have hqq : ¬ (q : Int) < (np : Int) := by omega
          have hSz : S.size ≤ 16000000 := by omega
          have hnsk : ns' ≤ 10 * k + 7 := by have := XX.out.nsk; have := XX.out.nsl; omega
          clear hall T3 HST HP HO HNP HB1 hqn hq hS6 hns6 hs0 hS0
          go_wp2_with fail
          clear hqq
          go_loopw [21, 28] (fun s x wr => ∃ (r : Nat) (S' : ByteArray), x = .int .i64 (r : Int) ∧ s = .string S' ∧ r ≤ m ∧ S'.size ≤ 16000000 + 8000000 * r ∧ Hid (S' = atsS ((othL ts k l).take r) S ∧ Below W3.heap.size W3 wr)) (fun _ x _ => m - (intOf x).toNat)
          case atStart => exact ⟨0, S, rfl, rfl, Nat.zero_le _, by omega, by rw [List.take_zero]; rfl, Below.refl _ _⟩
          case round =>
            obtain ⟨r, S', rfl, rfl, hr, hS', T4⟩ := hrel
            by_cases hrm : r < m
            · have hrl : r < (othL ts k l).length := by rw [HNM.out]; exact hrm
              have hri : (r : Int) < (m : Int) := by omega
              have HOR := hid (HOW.out.below T4.out.2)
              obtain ⟨ob2, oo2, oc2, eo2, hob2, _, x1, x2⟩ := HOR.out.pair hrl
              obtain ⟨rfl, rfl⟩ : ob = ob2 ∧ oo = oo2 := by cases eo2; exact ⟨rfl, rfl⟩
              obtain ⟨z1, z2⟩ := XX.out.asz _ (HFW.out.2 _ (List.getElem_mem hrl))
              have CL := hid (cL7Attr (othL ts k l)[r] wr z1 z2)
              have hat := atS_size (othL ts k l)[r]
              have hat2 : (atS (othL ts k l)[r]).size ≤ 8000000 := by omega
              have HSN := hid (show S' ++ atS (othL ts k l)[r] = atsS ((othL ts k l).take (r + 1)) S by rw [take_snocN hrl, atsS_snoc, ← T4.out.1])
              generalize atS (othL ts k l)[r] = AS at *
              generalize (othL ts k l)[r].name = xn at *
              generalize (othL ts k l)[r].value = xv at *
              clear eo2 hob2 HOR hat z1 z2
              go_wp2_with fail
              refine CL.out.mono ?_
              rintro e w2 ⟨rfl, hb2⟩
              have HBN := hid (bb T4.out.2 hb2)
              have hsz : (S' ++ AS).size ≤ 16000000 + 8000000 * (r + 1) := by rw [ByteArray.size_append]; omega
              have HSZ := hid hsz
              clear hb2 CL x1 x2 hsz
              go_wp2_with fail
              go_roundw
              case rel => exact ⟨r + 1, S' ++ AS, by go_num, rfl, by omega, HSZ.out, HSN.out, HBN.out⟩
              case measure => simp [intOf]; omega
            · have hre : r = m := by omega
              have HHD := hid (show S' ++ ⟨#[62]⟩ = headS ts k sd ⟨K, nm, l, tx⟩ by
                rw [HSD.out, T4.out.1, List.take_of_length_le (by rw [HNM.out, hre]; exact Nat.le_refl _)])
              have hrr : ¬ (r : Int) < (m : Int) := by omega
              have hS7 : S'.size ≤ 64000000 := by omega
              have CK := hid (XX.out.ck wr (bb HB3.out T4.out.2))
              have HB4 := hid (bb HB3.out T4.out.2)
              have HA4 := hid (And.intro (HSA.out.1.below T4.out.2) HSA.out.2)
              clear hre hrm hr hS' T4 HSD HSA HB3 HOW HFW HNM HS0
              go_wp2_with fail
              refine CK.out.mono ?_
              rintro e w5 ⟨v5, rfl, hk5, hb5⟩
              obtain ⟨⟨ka, kc, hv5⟩, _⟩ := row64 hk5
              have HK5 := hid hk5
              have HB5 := hid (bb HB4.out hb5)
              have HA5 := hid (And.intro (HA4.out.1.below hb5) HA4.out.2)
              have HKL := hid (show ∀ j ∈ kidsN ts k, j < n from fun j hj => by rw [← XX.out.len]; exact kidsN_lt hj)
              have HKG := hid (show ∀ j ∈ kidsN ts k, k < j from fun j hj => by
                have := (List.mem_filter.1 hj).2
                simp only [Bool.and_eq_true, decide_eq_true_eq] at this
                exact this.1)
              have hkl : (kidsN ts k).length ≤ 50 := by
                have := kidsTo_len ts k ts.length
                have h2 : ts.length ≤ 50 := by rw [XX.out.len]; exact XX.out.n50
                unfold kidsN
                omega
              obtain ⟨H0, hH0⟩ : ∃ H, S' ++ (⟨#[62]⟩ : ByteArray) = H := ⟨_, rfl⟩
              have hH0s : H0.size ≤ 65000000 := by
                rw [← hH0, ByteArray.size_append]
                have : (⟨#[62]⟩ : ByteArray).size = 1 := rfl
                omega
              have HH0 := hid (show H0 = headS ts k sd ⟨K, nm, l, tx⟩ by rw [← hH0]; exact HHD.out)
              rw [← HH0.out] at HF
              subst hv5
              simp only [hH0]
              obtain ⟨SDF, hSDF⟩ : ∃ SDF, saidL ts k sd ⟨K, nm, l, tx⟩ = SDF := ⟨_, rfl⟩
              rw [hSDF] at HF HA5
              have CIH := hid (fun (j : Nat) (wx : World) (hb : Below w5.heap.size w5 wx) (hj : j ∈ kidsN ts k) => XX.out.ih j SDF sa' sc' wx (XX.out.row.below (bb HB5.out hb)) (HKL.out j hj) (HKG.out j hj) (HA5.out.1.below hb) (by rw [HA5.out.2]; have := HKG.out j hj; omega))
              rw [HA5.out.2] at CIH
              have HCS := hid (fun (j : Nat) (hj : j ∈ kidsN ts k) => canon_size XX.out.tree XX.out.sz but f j SDF (by rw [XX.out.len]; exact HKL.out j hj))
              have HFS := hid (fun (r : Nat) => kids_size XX.out.tree XX.out.sz but f SDF ((kidsN ts k).take r) (fun j hj => by rw [XX.out.len]; exact HKL.out j (List.mem_of_mem_take hj)) (Nat.le_trans (List.length_take_le' _ _) hkl) H0)
              obtain ⟨nk, hnk⟩ : ∃ nk, (kidsN ts k).length = nk := ⟨_, rfl⟩
              have HNK := hid hnk
              rw [hnk] at hkl HK5 ⊢
              clear hb5 hk5 CK HB4 HA4 HHD hrr hS7 hnk hH0 HKG hSDF
              go_wp2_with fail
              go_loopw [21, 30] (fun s x wr => ∃ (r : Nat) (S' : ByteArray), x = .int .i64 (r : Int) ∧ s = .string S' ∧ r ≤ nk ∧ Hid (S' = ((kidsN ts k).take r).foldl (fun s j => s ++ canonN ts but f j SDF) H0 ∧ Below w5.heap.size w5 wr)) (fun _ x _ => nk - (intOf x).toNat)
              case atStart => exact ⟨0, H0, rfl, rfl, Nat.zero_le _, by rw [List.take_zero]; rfl, Below.refl _ _⟩
              case round =>
                obtain ⟨r, S', rfl, rfl, hr, T5⟩ := hrel
                have hS' : S'.size ≤ 65000000 + 3500000000 * r := by
                  have h := HFS.out r
                  rw [← T5.out.1] at h
                  have hl : ((kidsN ts k).take r).length ≤ r := List.length_take_le _ _
                  have h3 : 3500000000 * ((kidsN ts k).take r).length ≤ 3500000000 * r := Nat.mul_le_mul_left _ hl
                  omega
                by_cases hrk : r < nk
                · have hrl : r < (kidsN ts k).length := by rw [HNK.out]; exact hrk
                  have hri : (r : Int) < (nk : Int) := by omega
                  obtain ⟨g5, c5, eg, hg5, x1⟩ := (row64 (show w5.ownsRow _ 2 1 (.slice ka nk kc) (kidsN ts k).length (intC (kidsN ts k)) by rw [HNK.out]; exact HK5.out)).2 r hrl
                  rw [HNK.out] at eg
                  obtain ⟨rfl, rfl⟩ : ka = some ⟨g5, 0, none⟩ ∧ kc = c5 := by cases eg; exact ⟨rfl, rfl⟩
                  have y1 := (T5.out.2.cell (p := ⟨g5, r, none⟩) hg5).trans x1
                  have hmem := List.getElem_mem hrl
                  have CI := hid (CIH.out (kidsN ts k)[r] wr T5.out.2 hmem)
                  have hcs : (canonN ts but f (kidsN ts k)[r] SDF).size ≤ 3500000000 := by
                    have h1 := HCS.out _ hmem
                    have h2 := endN_le (ts := ts) (k := (kidsN ts k)[r]) (by rw [XX.out.len]; exact HKL.out _ hmem)
                    have h3 : ts.length ≤ 50 := by rw [XX.out.len]; exact XX.out.n50
                    have h4 : 70000000 * (endN ts (kidsN ts k)[r] - (kidsN ts k)[r]) ≤ 70000000 * 50 := Nat.mul_le_mul_left _ (by omega)
                    omega
                  have HSN := hid (show S' ++ canonN ts but f (kidsN ts k)[r] SDF = ((kidsN ts k).take (r + 1)).foldl (fun s j => s ++ canonN ts but f j SDF) H0 by rw [take_snocN hrl, List.foldl_append, ← T5.out.1]; rfl)
                  generalize canonN ts but f (kidsN ts k)[r] SDF = CN at *
                  generalize (kidsN ts k)[r] = jj at *
                  clear eg x1 hg5 hmem
                  go_wp2_with fail
                  refine CI.out.mono ?_
                  rintro e w2 ⟨rfl, hb2⟩
                  have HBN := hid (bb T5.out.2 hb2)
                  clear hb2 CI y1
                  go_wp2_with fail
                  go_roundw
                  case rel => exact ⟨r + 1, S' ++ CN, by go_num, rfl, by omega, HSN.out, HBN.out⟩
                  case measure => simp [intOf]; omega
                · have hre : r = nk := by omega
                  have hrr : ¬ (r : Int) < (nk : Int) := by omega
                  have HFIN := hid (show R = ((S' ++ ⟨#[60, 47]⟩) ++ nm) ++ ⟨#[62]⟩ by rw [HF.out, T5.out.1, List.take_of_length_le (by rw [HNK.out, hre]; exact Nat.le_refl _)])
                  obtain ⟨d1, d2⟩ := XX.out.cells (bb HB5.out T5.out.2)
                  have HBF := hid (bb XX.out.bel (bb HB5.out T5.out.2))
                  have hnm8 : nm.size ≤ 1048576 := XX.out.nms
                  clear hre hrk T5 HF HCS HFS CIH HK5 HA5
                  go_wp2_with fail
                  go_ret
                  exact ⟨by rw [HFIN.out]; rfl, HBF.out⟩
        have hqP : q < (preL7 nm l).length := by rw [HNP.out]; exact hqn
        have hqi : (q : Int) < (np : Int) := by omega
        have HPQ := hid (HP.out.below T3.out.bel)
        obtain ⟨pb2, po2, pc2, ep2, hpb2, _, x1⟩ := HPQ.out.key hqP
        obtain ⟨rfl, rfl⟩ : pb = pb2 ∧ po = po2 := by cases ep2; exact ⟨rfl, rfl⟩
        have hpz : (preL7 nm l)[q].size ≤ 1048576 := HFW.out.1 _ (List.getElem_mem hqP)
        have CMN := hid (XX.out.cm (preL7 nm l)[q] wr (bb HB1.out T3.out.bel) hpz)
        obtain ⟨hns6, hS6⟩ := T3.out.few XX.out.sz HFW.out.1
        have CLL := hid (fun wx (hb : Below wr.heap.size wr wx) => c_spec_l11Last sa' sc' (dclL ts k sd S0 ((preL7 nm l).take q)).1 (preL7 nm l)[q] wx (T3.out.said.below hb) (by rw [T3.out.len]; have := XX.out.nsk; have := XX.out.nsl; have := XX.out.kn; have := XX.out.n50; omega))
        rw [T3.out.len] at CLL
        have hmz : ((meanF ts k (preL7 nm l)[q]).getD ⟨#[]⟩).size ≤ 1048576 := meanF_sz XX.out.sz _
        have HSK := hid (show skipB (dclL ts k sd S0 ((preL7 nm l).take q)).1 (preL7 nm l)[q] (mnF ts k (preL7 nm l)[q]) = _ from skip_is _ _ _)
        have HMN := hid (show mnF ts k (preL7 nm l)[q] = (meanF ts k (preL7 nm l)[q]).getD ⟨#[]⟩ from rfl)
        have HT3S := hid (fun wx (hb : Below wr.heap.size wr wx) h => (T3.out.below hb).skip hqP h)
        have HT3N := hid (fun wx sax h (hb : Below W1.heap.size W1 wx) hr => T3.out.next (w' := wx) (sa' := sax) hqP h hb hr)
        rw [HMN.out] at HSK HT3S HT3N
        have HSA := hid (And.intro T3.out.said T3.out.len)
        generalize (dclL ts k sd S0 ((preL7 nm l).take q)).1 = SD at *
        generalize (preL7 nm l)[q] = p at *
        generalize (meanF ts k p).getD ⟨#[]⟩ = M at *
        generalize (meanF ts k p).isSome = MI at *
        generalize (lastF SD p).isSome = LI at *
        generalize (lastF SD p).getD ⟨#[]⟩ = LV at *
        have HEP := hid (empty_is p)
        obtain ⟨BE, hBE⟩ : ∃ B, (LV.toList == M.toList) = B := ⟨_, rfl⟩
        obtain ⟨BP, hBP⟩ : ∃ B, p.toList.isEmpty = B := ⟨_, rfl⟩
        obtain ⟨BM, hBM⟩ : ∃ B, M.toList.isEmpty = B := ⟨_, rfl⟩
        rw [hBE, hBP, hBM] at HSK
        rw [hBP] at HEP
        obtain ⟨SK, hSK⟩ : ∃ B, skipB SD p M = B := ⟨_, rfl⟩
        rw [hSK] at HSK HT3S HT3N
        have HSD := hid T3.out
        have HLN := hid (show ns' ≤ 600 by have := XX.out.nsk; have := XX.out.nsl; have := XX.out.kn; have := XX.out.n50; omega)
        have hns7 := HLN.out
        have HPZ := hid hpz
        clear hSK ep2 hpz hns6 HMN HPQ
        go_wp2_with fail
        refine CMN.out.mono ?_
        rintro e w2 ⟨rfl, hb2⟩
        have HB2 := hid hb2
        have y1 := (hb2.cell (p := ⟨pb, po + q, none⟩) hpb2).trans x1
        have CL2 := hid (CLL.out _ hb2)
        have hpb3 := Nat.lt_of_lt_of_le hpb2 hb2.size
        clear hb2 CMN x1 CLL hpb2
        go_wp2_with fail
        refine CL2.out.mono ?_
        rintro e w3 ⟨rfl, hb3⟩
        have HB3 := hid (bb HB2.out hb3)
        have z1 := (hb3.cell (p := ⟨pb, po + q, none⟩) hpb3).trans y1
        have HPB := hid (Nat.lt_of_lt_of_le hpb3 hb3.size)
        clear hb3 CL2 y1 HB2 hpb3
        go_upto_region 28 with fail
        go_cut [173] from 128 to 202 (fun c wv => c = .bool SK ∧ wv = w3)
        case first =>
          cases LI with
          | true =>
            cases BE with
            | true =>
              go_wp2_with fail
              go_meet
              exact ⟨by rw [HSK.out]; rfl, rfl⟩
            | false =>
              go_wp2_with fail
              go_meet
              exact ⟨by rw [HSK.out]; rfl, rfl⟩
          | false =>
            cases BP with
            | false =>
              go_wp2_with fail
              go_meet
              exact ⟨by rw [HSK.out]; rfl, rfl⟩
            | true =>
              cases BM with
              | true =>
                go_wp2_with fail
                go_meet
                exact ⟨by rw [HSK.out]; rfl, rfl⟩
              | false =>
                go_wp2_with fail
                go_meet
                exact ⟨by rw [HSK.out]; rfl, rfl⟩
        case rest =>
          obtain ⟨rfl, rfl⟩ := hcut
          clear hBE hBM HSK
          cases SK with
          | true =>
            have TN := hid (HT3S.out _ HB3.out (by trivial))
            clear HT3S HT3N HSD
            go_wp2_with fail
            go_roundw
            case rel => exact ⟨q + 1, ns', sc', sa', S, by go_num, rfl, rfl, by omega, TN.out⟩
            case measure => simp [intOf]; omega
          | false =>
            obtain ⟨i0, iI, hz0, hz1, hz2⟩ := info_parts infoSd
            obtain ⟨w5, hw5e⟩ : ∃ W, W = wc := ⟨_, rfl⟩
            subst hw5e
            have HU7 := hid (AtRow.sr (c := sc') (HSA.out.1.below HB3.out) HSA.out.2)
            have hw5 : (w5.alloc (.cells #[] 116)).heap.size = w5.heap.size + 1 := by simp
            have hw6 : (w5.alloc (.cells #[.string p, .string M] 116)).heap.size = w5.heap.size + 1 := by simp
            have KP := hid (show ∀ wx, Below w5.heap.size w5 wx → wx.cell? ⟨pb, po + q, none⟩ = some (.string p) from fun wx hb => (hb.cell (p := ⟨pb, po + q, none⟩) HPB.out).trans z1)
            have B0 := hid ((Below.refl w5.heap.size w5).drew)
            have B1 := hid (((Below.refl w5.heap.size w5).alloc (Nat.le_refl _) (.cells #[] 116)).drew)
            have B2 := hid ((((Below.refl w5.heap.size w5).alloc (Nat.le_refl _) (.cells #[] 116)).alloc (by simp) (.cells #[.string p, .string M] 116)).drew)
            have B3 := hid (((Below.refl w5.heap.size w5).alloc (Nat.le_refl _) (.cells #[.string p, .string M] 116)).drew)
            have B4 := hid ((((Below.refl w5.heap.size w5).alloc (Nat.le_refl _) (.cells #[.string p, .string M] 116)).alloc (by simp) (.cells #[] 116)).drew)
            have F1 := hid (show ((w5.alloc (.cells #[] 116)).drew).ownsRow w5.heap.size 116 2 (.slice (some ⟨w5.heap.size, 0, none⟩) 0 0) 0 [] from own_new w5 116 2)
            have F2 := hid (show (((w5.alloc (.cells #[] 116)).alloc (.cells #[.string p, .string M] 116)).drew).ownsRow w5.heap.size 116 2 (.slice (some ⟨w5.heap.size, 0, none⟩) 0 0) 0 [] from (own_new w5 116 2).alloc (.cells #[.string p, .string M] 116))
            have F3 := hid (show (((w5.alloc (.cells #[.string p, .string M] 116)).alloc (.cells #[] 116)).drew).ownsRow w5.heap.size 116 2 (.slice (some ⟨w5.heap.size + 1, 0, none⟩) 0 0) 0 [] from by have h := own_base (own_new (w5.alloc (.cells #[.string p, .string M] 116)) 116 2) (show w5.heap.size ≤ (w5.alloc (.cells #[.string p, .string M] 116)).heap.size by simp); rw [hw6] at h; exact h)
            have X2 := hid (show Rd (((w5.alloc (.cells #[] 116)).alloc (.cells #[.string p, .string M] 116)).drew) 2 (.slice (some ⟨w5.heap.size + 1, 0, none⟩) 1 1) 1 (atC [⟨p, M⟩]) from by have h := Rd.new (w5.alloc (.cells #[] 116)) 116 2 (atC [⟨p, M⟩]) 1 rfl; rw [hw5] at h; exact ⟨h.at_, h.len⟩)
            have X3 := hid (show Rd (((w5.alloc (.cells #[.string p, .string M] 116)).alloc (.cells #[] 116)).drew) 2 (.slice (some ⟨w5.heap.size, 0, none⟩) 1 1) 1 (atC [⟨p, M⟩]) from by have h := (Rd.new w5 116 2 (atC [⟨p, M⟩]) 1 rfl).below ((Below.refl _ _).alloc (Nat.le_refl _) (.cells #[] 116)); exact ⟨h.at_, h.len⟩)
            have K0 := hid (KP.out _ B0.out)
            have K1 := hid (KP.out _ B1.out)
            have K2 := hid (KP.out _ B2.out)
            have K3 := hid (KP.out _ B3.out)
            have K4 := hid (KP.out _ B4.out)
            have HBc := B0
            clear hw5 hw6 z1 HT3S
            go_wp2_with fail
            go_region_held3 (fun w' => w'.cell? ⟨pb, po + q, none⟩ = some (.string p)) (first | with_reducible exact K0.out | with_reducible exact K1.out | with_reducible exact K2.out | with_reducible exact K3.out | with_reducible exact K4.out | with_reducible exact KP.out _ HBc.out | with_reducible exact KP.out _ (HBc.out.alloc HBc.out.size _))
              (first
                | (refine step_src rfl (.tmp 174) (.tmp 175) 111 rfl 116 i0 _ 2 32 Tryz.underlying111 iI hz0 hz1 hz2 rfl (by decide) w5.heap.size w5.heap.size 0 0 ns' [] (atC SD) _ (by simp [Act.eval, Act.put]) (by simp [Act.eval, Act.put]) F1.out (HU7.out.below B1.out) (atC_cell _) (by omega) (by omega) B1.out.size ns' (by omega) (atC SD) rfl ?_; intro g6 c6 w6 ho6 hb6 hg6; have HO6 := hid ho6; replace HBc := hid (B1.out.trans hb6); clear ho6 hb6 hg6)
                | (refine step_src rfl (.tmp 174) (.tmp 175) 111 rfl 116 i0 _ 2 32 Tryz.underlying111 iI hz0 hz1 hz2 rfl (by decide) w5.heap.size w5.heap.size 0 0 ns' [] (atC SD) _ (by simp [Act.eval, Act.put]) (by simp [Act.eval, Act.put]) F2.out (HU7.out.below B2.out) (atC_cell _) (by omega) (by omega) B2.out.size ns' (by omega) (atC SD) rfl ?_; intro g6 c6 w6 ho6 hb6 hg6; have HO6 := hid ho6; have HX6 := hid (X2.out.grown hg6 (by omega)); replace HBc := hid (B2.out.trans hb6); clear ho6 hb6 hg6)
                | (refine step_src rfl (.tmp 174) (.tmp 175) 111 rfl 116 i0 _ 2 32 Tryz.underlying111 iI hz0 hz1 hz2 rfl (by decide) w5.heap.size (w5.heap.size + 1) 0 0 ns' [] (atC SD) _ (by simp [Act.eval, Act.put]) (by simp [Act.eval, Act.put]) F3.out (HU7.out.below B4.out) (atC_cell _) (by omega) (by omega) B4.out.size ns' (by omega) (atC SD) rfl ?_; intro g6 c6 w6 ho6 hb6 hg6; have HO6 := hid ho6; have HX6 := hid (X3.out.grown hg6 (by omega)); replace HBc := hid (B4.out.trans hb6); clear ho6 hb6 hg6)
                | (refine step_own rfl (.tmp 176) (.tmp 183) 111 rfl 116 i0 _ 2 32 Tryz.underlying111 iI hz0 hz1 hz2 rfl (by decide) w5.heap.size g6 c6 ns' 1 (atC SD) (atC [⟨p, M⟩]) _ (by simp [Act.eval, Act.put]) (by simp [Act.eval, Act.put]) HO6.out HX6.out (atC_cell _) (by omega) (by omega) HBc.out.size (ns' + 1) (by omega) (atC (SD ++ [⟨p, M⟩])) (by rw [atC_app]) ?_; intro g8 c8 w8 ho8 hb8 hg8; have HO8 := hid ho8; replace HBc := hid (HBc.out.trans hb8); clear ho8 hb8 hg8)
                | (refine step_own rfl (.tmp 176) (.tmp 183) 111 rfl 116 i0 _ 2 32 Tryz.underlying111 iI hz0 hz1 hz2 rfl (by decide) w5.heap.size g6 c6 ns' 1 (atC SD) (atC [⟨p, M⟩]) _ (by simp [Act.eval, Act.put]) (by simp [Act.eval, Act.put]) (HO6.out.alloc _) (Rd.new w6 116 2 (atC [⟨p, M⟩]) 1 rfl) (atC_cell _) (by omega) (by omega) (HBc.out.alloc HBc.out.size _).size (ns' + 1) (by omega) (atC (SD ++ [⟨p, M⟩])) (by rw [atC_app]) ?_; intro g8 c8 w8 ho8 hb8 hg8; have HO8 := hid ho8; replace HBc := hid ((HBc.out.alloc HBc.out.size (.cells #[.string p, .string M] 116)).trans hb8); clear ho8 hb8 hg8))
            all_goals (
              rename_i hHeld
              have HKK := hid hHeld
              have TN := hid (HT3N.out w8 (some ⟨g8, 0, none⟩) (by trivial) (bb (bb HSD.out.bel HB3.out) HBc.out) (Rd.own HO8.out).ats)
              have HND := hid (show nmD p = if BP = true then ⟨#[110, 115]⟩ else (⟨#[110, 115, 58]⟩ : ByteArray) ++ p by unfold nmD; rw [HEP.out]; by_cases h : p.size = 0 <;> simp [h])
              have HDS := hid (show dclS S p M = ((((S ++ (⟨#[32]⟩ : ByteArray)) ++ nmD p) ++ ⟨#[61, 34]⟩) ++ M) ++ ⟨#[34]⟩ from rfl)
              have hpz2 : p.size ≤ 1048576 := HPZ.out
              clear HO8 HO6 HBc B0 B1 B2 B3 B4 F1 F2 F3 X2 X3 K0 K1 K2 K3 K4 KP HU7 HB3 HT3N HSD HEP
              cases BP with
              | true =>
                have HNE := hid (show nmD p = ⟨#[110, 115]⟩ from HND.out)
                rw [HNE.out] at HDS
                go_wp2_with fail
                go_roundw
                case rel => exact ⟨q + 1, ns' + 1, c8, _, _, by go_num, rfl, by rw [← HDS.out], by omega, TN.out⟩
                case measure => (simp [intOf]; omega)
              | false =>
                have HNE := hid (show nmD p = (⟨#[110, 115, 58]⟩ : ByteArray) ++ p from HND.out)
                rw [HNE.out] at HDS
                go_wp2_with fail
                go_roundw
                case rel => exact ⟨q + 1, ns' + 1, c8, _, _, by go_num, rfl, by rw [← HDS.out], by omega, TN.out⟩
                case measure => (simp [intOf]; omega))
    have his : i < l.length := by rw [XX.out.na]; exact hlt
    have hin : (i : Int) < (nA : Int) := by omega
    clear HF
    obtain ⟨ab, ao, ea, hab, x1, x2⟩ := at_cells XX.out.ats ST.out.bel his
    have CD := hid (fun wx => c_spec_l9Declares l[i] wx (XX.out.asz _ (List.getElem_mem his)).1)
    subst ea
    cases hdc : (declF l[i]).isSome with
    | true =>
      have HSK := hid (fun wx (hb : Below wr.heap.size wr wx) => (ST.out.below hb).skip his hdc)
      rw [hdc] at CD
      clear hdc ST XX
      generalize (declF l[i]).getD ⟨#[]⟩ = DD at *
      generalize l[i].name = xn at *
      generalize l[i].value = xv at *
      go_wp2_with fail
      refine (CD.out _).mono ?_
      rintro e w2 ⟨rfl, hb2⟩
      have HX2 := hid (HSK.out _ hb2)
      clear hb2 CD HSK x1 x2 d1 d2
      go_wp2_with fail
      go_roundw
      case rel => exact ⟨i + 1, np, m, pb, po, pc, ob, oo, oc, by go_num, rfl, rfl, HX2.out⟩
      case measure => simp [intOf]; omega
    | false =>
      have CPX := hid (fun wx => cPartsX l[i].name wx (XX.out.asz _ (List.getElem_mem his)).1)
      have HDC := hid hdc
      have EP := empty_is (preS l[i].name)
      obtain ⟨P', hP'⟩ : ∃ P', accP (preL7 nm (l.take i)) l[i] = P' := ⟨_, rfl⟩
      have HPP := hid hP'
      obtain ⟨PX, hPX⟩ : ∃ PX, preS l[i].name = PX := ⟨_, rfl⟩
      have HPX := hid hPX
      rw [hPX] at CPX EP
      obtain ⟨T0, hT0⟩ : ∃ T0, decide (PX.size = 0) = T0 := ⟨_, rfl⟩
      have HT0 := hid hT0
      rw [hT0] at EP
      rw [hdc] at CD
      clear hdc hP' hPX hT0
      go_wp2_with fail
      refine (CD.out _).mono ?_
      rintro e w2 ⟨rfl, hb2⟩
      have ST2 := hid (ST.out.below hb2)
      obtain ⟨e1, e2⟩ := XX.out.cells ST2.out.bel
      have y1 := (hb2.cell (p := ⟨ab, ao + i * 2, none⟩) hab).trans x1
      clear hb2 CD x1 x2 d1 d2 ST hab
      go_wp2_with fail
      refine (CPX.out _).mono ?_
      rintro e w3 ⟨rfl, hb3⟩
      have ST3 := hid (ST2.out.below hb3)
      clear hb3 CPX y1 e1 e2 ST2
      go_upto_if 81 with fail
      go_cut [12] from 53 to 124 (fun v wv => ∃ pb' po' pc' : Nat, v = .slice (some ⟨pb', po', none⟩) P'.length pc' ∧ Hid (Rd wv 1 v P'.length (keyV P') ∧ Below w3.heap.size w3 wv))
      case first =>
        cases T0 with
        | true =>
          have HE := hid (show P' = preL7 nm (l.take i) by rw [← HPP.out]; exact accP_none HDC.out (by rw [HPX.out]; simpa using HT0.out))
          have HRP := hid (show Rd w3 1 (.slice (some ⟨pb, po, none⟩) np pc) np (keyV P') by rw [HE.out]; exact ST3.out.ps)
          have HLP := hid (show P'.length = np by rw [HE.out]; exact ST3.out.hnp)
          go_wp2_with fail
          go_meet
          exact ⟨pb, po, pc, by rw [HLP.out], by rw [HLP.out]; exact HRP.out, Below.refl _ _⟩
        | false =>
          have CPT := hid (c_spec_l11Put (preL7 nm (l.take i)) (.slice (some ⟨pb, po, none⟩) np pc) PX w3 (by rw [ST3.out.hnp]; exact ST3.out.ps) (by rw [ST3.out.hnp]; have := (ST3.out.few XX.out.asz XX.out.nms).1; omega))
          have HE := hid (show putS (preL7 nm (l.take i)) PX = P' by rw [← HPP.out, ← HPX.out]; exact (accP_put HDC.out (by rw [HPX.out]; simpa using HT0.out)).symm)
          rw [HE.out] at CPT
          go_wp2_with fail
          refine CPT.out.mono ?_
          rintro e w4 ⟨v4, rfl, hr4, hb4⟩
          obtain ⟨b4, o4, c4, ev, _⟩ := hr4.at_
          have HR4 := hid hr4
          have HB4 := hid hb4
          subst ev
          clear hr4 hb4
          go_wp2_with fail
          go_meet
          exact ⟨b4, o4, c4, rfl, HR4.out, HB4.out⟩
      case rest =>
        obtain ⟨pb', po', pc', rfl, HC⟩ := hcut
        obtain ⟨Wc, hWc⟩ : ∃ W, W = wc := ⟨_, rfl⟩
        subst hWc
        have ST4 := hid (ST3.out.below HC.out.2)
        have HPW := hid HC.out.1
        have hm6 := (ST4.out.few XX.out.asz XX.out.nms).2.1
        obtain ⟨J, hJ⟩ : ∃ J, insN ts k (othL ts k (l.take i)) l[i] = J := ⟨_, rfl⟩
        have HJ := hid hJ
        have hJm : J ≤ m := by
          rw [← hJ, ← ST4.out.hm]
          exact insN_le _ _ _ _
        clear HC hJ ST3 EP HT0 HPX T0
        go_wp2_with fail
        go_loopw [19] (fun y wr => ∃ j : Nat, y = .int .i64 (j : Int) ∧ j ≤ J ∧ Hid (Below Wc.heap.size Wc wr)) (fun y _ => J - (intOf y).toNat)
        case atStart => exact ⟨0, rfl, Nat.zero_le _, Below.refl _ _⟩
        case round =>
          obtain ⟨j, rfl, hj, HB2⟩ := hrel
          have ST5 := hid (ST4.out.below HB2.out)
          go_upto_region 18 with fail
          go_cut [103] from 85 to 105 (fun c wv => c = .bool (decide (j < J)) ∧ Hid (Below wr.heap.size wr wv))
          case first =>
            obtain ⟨d1, d2⟩ := XX.out.cells ST5.out.bel
            have HNB := hid (bw_any wr)
            by_cases hjm : j < m
            · have hjl : j < (othL ts k (l.take i)).length := by rw [ST5.out.hm]; exact hjm
              have hjn : decide ((j : Int) < (m : Int)) = true := by simp; omega
              have hjn2 : (j : Int) < (m : Int) := by omega
              obtain ⟨ab2, ao2, ea2, hab2, x1, x2⟩ := at_cells XX.out.ats ST5.out.bel his
              obtain ⟨rfl, rfl⟩ : ab = ab2 ∧ ao = ao2 := by cases ea2; exact ⟨rfl, rfl⟩
              obtain ⟨ob2, oo2, oc2, eo2, hob2, _, y1, y2⟩ := ST5.out.oth.pair hjl
              obtain ⟨rfl, rfl, rfl⟩ : ob = ob2 ∧ oo = oo2 ∧ oc = oc2 := by cases eo2; exact ⟨rfl, rfl, rfl⟩
              obtain ⟨f1, f2⟩ := pair_bw hab2 x1 x2
              obtain ⟨g1, g2⟩ := pair_bw hob2 y1 y2
              have hlw := lt_of_heap (blk_below XX.out.box ST5.out.bel)
              have k2 : ∀ p : BW wr, p.w.cell? ⟨w.heap.size, 2, none⟩ = some (.slice (some ⟨ab, ao, none⟩) nA ca) := fun p => (p.h.cell (p := ⟨w.heap.size, 2, none⟩) hlw).trans d2
              have hsz := (XX.out.asz _ (List.getElem_mem his)).1
              have hsy := (XX.out.asz _ ((ST5.out.few XX.out.asz XX.out.nms).2.2.2 _ (List.getElem_mem hjl))).1
              have CAA := hid (fun p : BW wr => XX.out.ca' l[i] (othL ts k (l.take i))[j] p.w (bb ST5.out.bel p.h) hsz hsy)
              have HAH := hid (show (!aheadF ts k l[i] (othL ts k (l.take i))[j]) = decide (j < J) by
                rcases Nat.lt_or_eq_of_le hj with h' | h'
                · rw [insN_low (by rw [HJ.out]; exact h') hjl, decide_eq_true h']; rfl
                · rw [insN_at (by rw [HJ.out]; exact h'.symm) hjl, decide_eq_false (by omega)]; rfl)
              generalize aheadF ts k l[i] (othL ts k (l.take i))[j] = AH at *
              generalize l[i].name = xn at *
              generalize l[i].value = xv at *
              generalize (othL ts k (l.take i))[j].name = yn at *
              generalize (othL ts k (l.take i))[j].value = yv at *
              clear x1 x2 y1 y2 ea2 eo2 hsz hsy d1 d2 hab2 hob2 hlw
              haveI := HNB.out
              refine wp_region_below (by kernel_rfl) (by kernel_rfl) (Below.refl wr.heap.size wr) ?_
              repeat (go_big_quiet_step ((go_at_call 79; exact calls_bw _ (CAA.out _))))
              refine wpQuiet_nil ?_
              intro _ hw'
              obtain ⟨⟨wq, hwq⟩, hw''⟩ := hw'
              subst hw''
              have HWQ := hid hwq
              clear hwq f1 f2 g1 g2 k2
              go_wp2_with fail
              go_meet
              exact ⟨by rw [← HAH.out], HWQ.out⟩
            · have hjn : decide ((j : Int) < (m : Int)) = false := by simp; omega
              have HJJ := hid (show decide (j < J) = false by simp; omega)
              clear d1 d2
              haveI := HNB.out
              refine wp_region_below (by kernel_rfl) (by kernel_rfl) (Below.refl wr.heap.size wr) ?_
              repeat (go_big_quiet_step (fail))
              refine wpQuiet_nil ?_
              intro _ hw'
              obtain ⟨⟨wq, hwq⟩, hw''⟩ := hw'
              subst hw''
              have HWQ := hid hwq
              clear hwq
              go_wp2_with fail
              go_meet
              exact ⟨by rw [HJJ.out], HWQ.out⟩
          case rest =>
            obtain ⟨rfl, HD⟩ := hcut
            by_cases hjJ : j < J
            · have HBN := hid (bb HB2.out HD.out)
              rw [decide_eq_true hjJ]
              clear HD HB2 ST5
              go_wp2_with fail
              go_roundw
              case rel => exact ⟨j + 1, by go_num, by omega, HBN.out⟩
              case measure => simp [intOf]; omega
            · rw [decide_eq_false hjJ]
              obtain rfl : J = j := by omega
              have ST6 := hid (ST5.out.below HD.out)
              have HP6 := hid ((HPW.out.below HB2.out).below HD.out)
              clear ST5 HD HB2 HPW ST4 hj hjJ
              obtain ⟨L, hL⟩ : ∃ L, othL ts k (l.take i) = L := ⟨_, rfl⟩
              have HL := hid hL
              have HOT := hid ST6.out.oth
              have hoc : m ≤ oc := by
                obtain ⟨_, _, _, eo, _, h, _⟩ := HOT.out.at_
                cases eo
                exact h
              rw [hL] at HOT
              have HML := hid (show L.length = m by rw [← hL]; exact ST6.out.hm)
              have HRF := hid (HOT.out.from hJm)
              have HRU := hid (HOT.out.upto hJm)
              rw [atC_drop] at HRF
              rw [atC_take] at HRU
              have hfr := sl_fromA ob oo m oc J hJm hoc
              have hup := sl_uptoA ob oo m oc J hJm hoc
              generalize (if oc = J then (⟨ob, oo, none⟩ : Addr) else ⟨ob, oo + J * 2, none⟩) = A1 at *
              obtain ⟨i0, iI, hz0, hz1, hz2⟩ := info_parts infoAtW
              have HB1 := hid ((Below.refl wc.heap.size wc).alloc (Nat.le_refl _) (.cells #[] 42))
              have HO1 := hid (own_new wc 42 2)
              have HF1 := hid (HRF.out.below HB1.out)
              clear hL HOT
              go_wp2_with (at_builtin; refine wpL_own _ rfl _ _ _ rfl 42 i0 _ 2 32 Tryz.underlying31 iI hz0 hz1 hz2 rfl (by decide) wc.heap.size wc.heap.size 0 0 (m - J) [] (atC (L.drop J)) _ rfl rfl HO1.out HF1.out (atC_cell _) (by omega) (by omega) HB1.out.size (m - J) (by omega) (atC (L.drop J)) rfl ?_)
              intro g5 c5 w5 ho5 hb5
              have HB5 := hid (HB1.out.trans hb5)
              have HRS := hid (Rd.own ho5)
              have ST7 := hid (ST6.out.below HB5.out)
              have HP7 := hid (HP6.out.below HB5.out)
              have HU7 := hid (HRU.out.below HB5.out)
              clear ho5 hb5 hfr HO1 HF1 HB1 HRF HRU ST6 HP6 HB5
              obtain ⟨xn, hxn⟩ : ∃ xn, l[i].name = xn := ⟨_, rfl⟩
              obtain ⟨xv, hxv⟩ : ∃ xv, l[i].value = xv := ⟨_, rfl⟩
              have HXN := hid (And.intro hxn hxv)
              have KP := hid (show ∀ wx, Below w5.heap.size w5 wx → wx.cell? ⟨w.heap.size, 2, none⟩ = some (.slice (some ⟨ab, ao, none⟩) nA ca) ∧ wx.cell? ⟨ab, ao + i * 2, none⟩ = some (.string xn) ∧ wx.cell? ⟨ab, ao + i * 2 + 1, none⟩ = some (.string xv) from fun wx hb => by
                have hB := bb ST7.out.bel hb
                obtain ⟨ab2, ao2, ea2, _, x1, x2⟩ := at_cells XX.out.ats hB his
                cases ea2
                rw [hxn] at x1
                rw [hxv] at x2
                exact ⟨(XX.out.cells hB).2, x1, x2⟩)
              have hw5 : (w5.alloc (.cells #[] 42)).heap.size = w5.heap.size + 1 := by simp
              have hw6 : (w5.alloc (.cells #[.string xn, .string xv] 42)).heap.size = w5.heap.size + 1 := by simp
              have B0 := hid ((Below.refl w5.heap.size w5).drew)
              have B1 := hid (((Below.refl w5.heap.size w5).alloc (Nat.le_refl _) (.cells #[] 42)).drew)
              have B2 := hid ((((Below.refl w5.heap.size w5).alloc (Nat.le_refl _) (.cells #[] 42)).alloc (by simp) (.cells #[.string xn, .string xv] 42)).drew)
              have B3 := hid (((Below.refl w5.heap.size w5).alloc (Nat.le_refl _) (.cells #[.string xn, .string xv] 42)).drew)
              have B4 := hid ((((Below.refl w5.heap.size w5).alloc (Nat.le_refl _) (.cells #[.string xn, .string xv] 42)).alloc (by simp) (.cells #[] 42)).drew)
              have F1 := hid (show ((w5.alloc (.cells #[] 42)).drew).ownsRow w5.heap.size 42 2 (.slice (some ⟨w5.heap.size, 0, none⟩) 0 0) 0 [] from own_new w5 42 2)
              have F2 := hid (show (((w5.alloc (.cells #[] 42)).alloc (.cells #[.string xn, .string xv] 42)).drew).ownsRow w5.heap.size 42 2 (.slice (some ⟨w5.heap.size, 0, none⟩) 0 0) 0 [] from (own_new w5 42 2).alloc (.cells #[.string xn, .string xv] 42))
              have F3 := hid (show (((w5.alloc (.cells #[.string xn, .string xv] 42)).alloc (.cells #[] 42)).drew).ownsRow w5.heap.size 42 2 (.slice (some ⟨w5.heap.size + 1, 0, none⟩) 0 0) 0 [] from by have h := own_base (own_new (w5.alloc (.cells #[.string xn, .string xv] 42)) 42 2) (show w5.heap.size ≤ (w5.alloc (.cells #[.string xn, .string xv] 42)).heap.size by simp); rw [hw6] at h; exact h)
              have X2 := hid (show Rd (((w5.alloc (.cells #[] 42)).alloc (.cells #[.string xn, .string xv] 42)).drew) 2 (.slice (some ⟨w5.heap.size + 1, 0, none⟩) 1 1) 1 (atC [⟨xn, xv⟩]) from by have h := Rd.new (w5.alloc (.cells #[] 42)) 42 2 (atC [⟨xn, xv⟩]) 1 rfl; rw [hw5] at h; exact ⟨h.at_, h.len⟩)
              have X3 := hid (show Rd (((w5.alloc (.cells #[.string xn, .string xv] 42)).alloc (.cells #[] 42)).drew) 2 (.slice (some ⟨w5.heap.size, 0, none⟩) 1 1) 1 (atC [⟨xn, xv⟩]) from by have h := (Rd.new w5 42 2 (atC [⟨xn, xv⟩]) 1 rfl).below ((Below.refl _ _).alloc (Nat.le_refl _) (.cells #[] 42)); exact ⟨h.at_, h.len⟩)
              have K0 := hid (KP.out _ B0.out)
              have K1 := hid (KP.out _ B1.out)
              have K2 := hid (KP.out _ B2.out)
              have K3 := hid (KP.out _ B3.out)
              have K4 := hid (KP.out _ B4.out)
              have HBc := B0
              clear hxn hxv hw5 hw6
              go_wp2_with fail
              go_region_held3 (fun w' => w'.cell? ⟨w.heap.size, 2, none⟩ = some (.slice (some ⟨ab, ao, none⟩) nA ca) ∧ w'.cell? ⟨ab, ao + i * 2, none⟩ = some (.string xn) ∧ w'.cell? ⟨ab, ao + i * 2 + 1, none⟩ = some (.string xv)) (first | with_reducible exact K0.out | with_reducible exact K1.out | with_reducible exact K2.out | with_reducible exact K3.out | with_reducible exact K4.out | with_reducible exact KP.out _ HBc.out | with_reducible exact KP.out _ (HBc.out.alloc HBc.out.size _))
                (first
                  | (refine step_own rfl (.tmp 111) (.tmp 114) 31 rfl 42 i0 _ 2 32 Tryz.underlying31 iI hz0 hz1 hz2 rfl (by decide) w5.heap.size w5.heap.size 0 0 J [] (atC (L.take J)) _ (by simp [Act.eval, Act.put]) (by simp [Act.eval, Act.put]) F1.out (HU7.out.below B1.out) (atC_cell _) (by omega) (by omega) B1.out.size J (by omega) (atC (L.take J)) rfl ?_; intro g6 c6 w6 ho6 hb6 hg6; have HO6 := hid ho6; replace HBc := hid (B1.out.trans hb6); clear ho6 hb6 hg6)
                  | (refine step_own rfl (.tmp 111) (.tmp 114) 31 rfl 42 i0 _ 2 32 Tryz.underlying31 iI hz0 hz1 hz2 rfl (by decide) w5.heap.size w5.heap.size 0 0 J [] (atC (L.take J)) _ (by simp [Act.eval, Act.put]) (by simp [Act.eval, Act.put]) F2.out (HU7.out.below B2.out) (atC_cell _) (by omega) (by omega) B2.out.size J (by omega) (atC (L.take J)) rfl ?_; intro g6 c6 w6 ho6 hb6 hg6; have HO6 := hid ho6; have HX6 := hid (X2.out.grown hg6 (by omega)); replace HBc := hid (B2.out.trans hb6); clear ho6 hb6 hg6)
                  | (refine step_own rfl (.tmp 111) (.tmp 114) 31 rfl 42 i0 _ 2 32 Tryz.underlying31 iI hz0 hz1 hz2 rfl (by decide) w5.heap.size (w5.heap.size + 1) 0 0 J [] (atC (L.take J)) _ (by simp [Act.eval, Act.put]) (by simp [Act.eval, Act.put]) F3.out (HU7.out.below B4.out) (atC_cell _) (by omega) (by omega) B4.out.size J (by omega) (atC (L.take J)) rfl ?_; intro g6 c6 w6 ho6 hb6 hg6; have HO6 := hid ho6; have HX6 := hid (X3.out.grown hg6 (by omega)); replace HBc := hid (B4.out.trans hb6); clear ho6 hb6 hg6)
                  | (refine step_own rfl (.tmp 115) (.tmp 121) 31 rfl 42 i0 _ 2 32 Tryz.underlying31 iI hz0 hz1 hz2 rfl (by decide) w5.heap.size g6 c6 J 1 (atC (L.take J)) (atC [⟨xn, xv⟩]) _ (by simp [Act.eval, Act.put]) (by simp [Act.eval, Act.put]) HO6.out HX6.out (atC_cell _) (by omega) (by omega) HBc.out.size (J + 1) (by omega) (atC (L.take J ++ [⟨xn, xv⟩])) (by rw [atC_app]) ?_; intro g8 c8 w8 ho8 hb8 hg8; have HO8 := hid ho8; replace HBc := hid (HBc.out.trans hb8); clear ho8 hb8 hg8)
                  | (refine step_own rfl (.tmp 115) (.tmp 121) 31 rfl 42 i0 _ 2 32 Tryz.underlying31 iI hz0 hz1 hz2 rfl (by decide) w5.heap.size g6 c6 J 1 (atC (L.take J)) (atC [⟨xn, xv⟩]) _ (by simp [Act.eval, Act.put]) (by simp [Act.eval, Act.put]) (HO6.out.alloc _) (Rd.new w6 42 2 (atC [⟨xn, xv⟩]) 1 rfl) (atC_cell _) (by omega) (by omega) (HBc.out.alloc HBc.out.size _).size (J + 1) (by omega) (atC (L.take J ++ [⟨xn, xv⟩])) (by rw [atC_app]) ?_; intro g8 c8 w8 ho8 hb8 hg8; have HO8 := hid ho8; replace HBc := hid ((HBc.out.alloc HBc.out.size (.cells #[.string xn, .string xv] 42)).trans hb8); clear ho8 hb8 hg8)
                  | (refine step_own rfl (.tmp 122) (.tmp 123) 31 rfl 42 i0 _ 2 32 Tryz.underlying31 iI hz0 hz1 hz2 rfl (by decide) w5.heap.size g8 c8 (J + 1) (m - J) (atC (L.take J ++ [⟨xn, xv⟩])) (atC (L.drop J)) _ (by simp [Act.eval, Act.put]) (by simp [Act.eval, Act.put]) HO8.out (HRS.out.below HBc.out) (atC_cell _) (by omega) (by omega) HBc.out.size (m + 1) (by omega) (atC (L.take J ++ ⟨xn, xv⟩ :: L.drop J)) (by rw [← atC_app, List.append_assoc]; rfl) ?_; intro g9 c9 w9 ho9 hb9 hg9; have HO9 := hid ho9; replace HBc := hid (HBc.out.trans hb9); clear ho9 hb9 hg9))
              all_goals (
                rename_i hHeld
                clear hHeld
                have HXE := hid (show l[i] = ⟨xn, xv⟩ by rw [← HXN.out.1, ← HXN.out.2])
                have STN := hid (ST7.out.next his HDC.out (bb ST7.out.bel HBc.out) HPP.out (HP7.out.below HBc.out) (show insN ts k (othL ts k (l.take i)) l[i] = J from HJ.out) (show Rd w9 2 (.slice (some ⟨g9, 0, none⟩) (m + 1) c9) (m + 1) (atC ((othL ts k (l.take i)).take J ++ l[i] :: (othL ts k (l.take i)).drop J)) by rw [HL.out, HXE.out]; exact Rd.own HO9.out))
                clear HO9 HO8 HO6 HXE HBc B0 B1 B2 B3 B4 F1 F2 F3 X2 X3 K0 K1 K2 K3 K4 KP ST7 HP7 HRS HU7
                go_wp2_with fail
                go_roundw
                case rel => exact ⟨i + 1, P'.length, m + 1, pb', po', pc', g9, 0, c9, by go_num, rfl, rfl, STN.out⟩
                case measure => (simp [intOf]; omega))

set_option maxRecDepth 8000 in
set_option maxHeartbeats 16000000 in
theorem c_spec_l11Canon (a : Option Addr) (cap : Nat) (ts : List Tk) (but : Int) (hT : TreeP ts) (hz : TksSz 1048576 ts) : ∀ (f k : Nat) (sd : List At) (sa : Option Addr) (sc : Nat) (w : World), TkRow w a ts → k < ts.length → ts.length - k ≤ f → AtRow w sa sd → sd.length ≤ 10 * k →
    Calls Tryz.prog 44 #[.slice a ts.length cap, .int .i64 (k : Int), .int .i64 but, .slice sa sd.length sc] w fun e w' => e = .returned (.string (canonN ts but f k sd)) ∧ Below w.heap.size w w'
  | 0, k, _, _, _, _, _, hk, hf, _, _ => by omega
  | f + 1, k, sd, sa, sc, w, hR, hk, hf, hS, hsd => by
    obtain ⟨b, o, aa, ca, rfl, hbl, q0, q1, q2, q3, hA⟩ := hR k hk
    obtain ⟨t, ht⟩ : ∃ t, ts[k] = t := ⟨_, rfl⟩
    have htn : nodeAt ts k = t := by rw [nodeAt_at hk, ht]
    have hts := nodeAt_sz hz k
    rw [htn] at hts
    rw [ht] at q0 q1 q2 q3 hA
    obtain ⟨K, nm, l, tx⟩ := t
    simp only at q0 q1 q2 q3 hA
    have hLA := (Below.refl w.heap.size w).alloc (Nat.le_refl _) (.cells #[.int .i64 K, .string nm, .slice aa l.length ca, .string tx] 33)
    have hM0 := heap_alloc_new w (.cells #[.int .i64 K, .string nm, .slice aa l.length ca, .string tx] 33)
    obtain ⟨W0, hW0⟩ : ∃ W0, w.alloc (.cells #[.int .i64 K, .string nm, .slice aa l.length ca, .string tx] 33) = W0 := ⟨_, rfl⟩
    rw [hW0] at hLA hM0
    have hkn : (k : Int) < (ts.length : Int) := by omega
    by_cases hbut : (k : Int) = but
    · rw [canonN_but hbut]
      subst hbut
      have hbb : ((k : Int) == (k : Int)) = true := by simp
      have HLA := hid hLA
      clear hR hS hA hts htn ht hT hz hf hsd hLA hM0
      generalize ts.length = n at *
      generalize sd.length = ns at *
      generalize l.length = nA at *
      go_enter Tryz.func44, Tryz.ntmps44
      go_wp2_with fail
      go_ret
      exact ⟨rfl, HLA.out⟩
    have hbb : ((k : Int) == but) = false := by simpa using hbut
    by_cases hnm : nm.size = 0
    · rw [canonN_text htn hbut hnm]
      have E1 := empty_is nm
      rw [decide_eq_true hnm] at E1
      obtain ⟨⟨c0, c1, c2, c3⟩, _⟩ := box4 hM0
      have CX := hid (show Calls Tryz.prog 77 #[.string tx, .bool false] W0 fun e w' => e = .returned (.string (escS false tx)) ∧ Below W0.heap.size W0 w' from c_spec_Escaped tx false W0 hts.2.2.2)
      have HLA := hid hLA
      clear hR hS hA hts htn ht hT hz hf hsd hLA hM0 hbut hnm
      generalize escS false tx = ES at *
      generalize ts.length = n at *
      generalize sd.length = ns at *
      generalize l.length = nA at *
      go_enter Tryz.func44, Tryz.ntmps44
      go_wp2_with fail
      refine CX.out.mono ?_
      rintro e w1 ⟨rfl, hb1⟩
      have HB1 := hid (bb HLA.out hb1)
      clear hb1 CX
      go_wp2_with fail
      go_ret
      exact ⟨rfl, HB1.out⟩
    · have h6 : l.length ≤ 6 := by
        have h := six_at hT k (by rw [htn]; exact hnm)
        rw [htn] at h
        exact h
      exact canon_el ⟨hT, hz, rfl, hk, rfl, hsd, rfl, h6, hts, htn, hLA, hM0, hR.below hLA, hA.below hLA, hS.below hLA, fun j sd' sa' sc' wx h1 h2 h3 h4 h5 => c_spec_l11Canon (some ⟨b, o, none⟩) cap ts but hT hz f j sd' sa' sc' wx h1 h2 (by omega) h4 h5⟩ hW0 q0 q1 q2 q3 hbb (by rw [empty_is, decide_eq_false hnm]) _ (canonN_el htn hbut hnm)

end Go.Proofs.YtmghipjpgoghlaaGreat

namespace Go.Proofs.YtmghipjpgoghlaaGreat
open Go.RowKit
set_option linter.unusedVariables false
set_option linter.unusedSimpArgs false

/-- All is as it should be. -/
noncomputable def canB (ts : List Tk) (x y : Int) : Bool := namesB ts && (elemB ts x && (decide (-1 ≤ y ∧ y ≤ (ts.length : Int) - 1) && !decide (y = x)))

/-- The one way to write it. -/
noncomputable def canonI (ts : List Tk) (x y : Int) : ByteArray := if canB ts x y then canonN ts y ts.length x.toNat [] else ⟨#[]⟩

theorem canonI_no {ts : List Tk} {x y : Int} (h : canB ts x y = false) : canonI ts x y = ⟨#[]⟩ := by unfold canonI; rw [h]; rfl

theorem canonI_yes {ts : List Tk} {x y : Int} (h : canB ts x y = true) : canonI ts x y = canonN ts y ts.length x.toNat [] := by unfold canonI; rw [h]; rfl

set_option maxHeartbeats 2000000 in
theorem c_spec_l1InC (x lo hi : Int) (w : World) : Calls Tryz.prog 43 #[.int .i64 x, .int .i64 lo, .int .i64 hi] w fun e w' => e = .returned (.bool (decide (lo ≤ x ∧ x ≤ hi))) ∧ w' = w := by
  by_cases h1 : lo ≤ x
  · by_cases h2 : x ≤ hi
    · rw [decide_eq_true ⟨h1, h2⟩]
      go_enter Tryz.func43, Tryz.ntmps43
      go_wp2
      go_ret
      exact ⟨rfl, rfl⟩
    · rw [decide_eq_false (fun h => h2 h.2)]
      go_enter Tryz.func43, Tryz.ntmps43
      go_wp2
      go_ret
      exact ⟨rfl, rfl⟩
  · rw [decide_eq_false (fun h => h1 h.1)]
    go_enter Tryz.func43, Tryz.ntmps43
    go_wp2
    go_ret
    exact ⟨rfl, rfl⟩

set_option maxRecDepth 4000 in
set_option maxHeartbeats 4000000 in
theorem cCanonS (a : Option Addr) (cap : Nat) (ts : List Tk) (x y : Int) (w : World) (hR : TkRow w a ts) (hn : ts.length ≤ 1048576) (hz : TksSz 1048576 ts) :
    Calls Tryz.prog 13 #[.slice a ts.length cap, .int .i64 x, .int .i64 y] w fun e w' => e = .returned (.string (canonI ts x y)) ∧ Below w.heap.size w w' := by
  have CN := hid (cNamesOkS a cap ts w hR hn hz)
  have CE := hid (fun wx (hb : Below w.heap.size w wx) => c_spec_l9Element a cap ts x wx (hR.below hb) hn hz)
  have CI := hid (fun wx => c_spec_l1InC y (-1) ((ts.length : Int) - 1) wx)
  have hlen : (0 : Int) ≤ (ts.length : Int) ∧ (ts.length : Int) ≤ 1048576 := by omega
  cases h1 : namesB ts with
  | false =>
    rw [canonI_no (by unfold canB; rw [h1]; rfl)]
    rw [h1] at CN
    clear hR hz h1 CE CI
    generalize ts.length = n at *
    go_enter Tryz.func13, Tryz.ntmps13
    go_wp2_with fail
    refine CN.out.mono ?_
    rintro e w1 ⟨rfl, hb1⟩
    have HB1 := hid hb1
    clear hb1 CN
    go_wp2_with fail
    go_ret
    exact ⟨rfl, HB1.out⟩
  | true =>
    rw [h1] at CN
    cases h2 : elemB ts x with
    | false =>
      rw [canonI_no (by unfold canB; rw [h1, h2]; rfl)]
      rw [h2] at CE
      clear hR hz h1 h2 CI
      generalize ts.length = n at *
      go_enter Tryz.func13, Tryz.ntmps13
      go_wp2_with fail
      refine CN.out.mono ?_
      rintro e w1 ⟨rfl, hb1⟩
      have HB1 := hid hb1
      clear hb1 CN
      go_wp2_with fail
      refine (CE.out _ HB1.out).mono ?_
      rintro e w2 ⟨rfl, hb2⟩
      have HB2 := hid (bb HB1.out hb2)
      clear hb2 CE
      go_wp2_with fail
      go_ret
      exact ⟨rfl, HB2.out⟩
    | true =>
      rw [h2] at CE
      cases h3 : decide (-1 ≤ y ∧ y ≤ (ts.length : Int) - 1) with
      | false =>
        rw [canonI_no (by unfold canB; rw [h1, h2, h3]; rfl)]
        rw [h3] at CI
        clear hR hz h1 h2 h3
        generalize ts.length = n at *
        go_enter Tryz.func13, Tryz.ntmps13
        go_wp2_with fail
        refine CN.out.mono ?_
        rintro e w1 ⟨rfl, hb1⟩
        have HB1 := hid hb1
        clear hb1 CN
        go_wp2_with fail
        refine (CE.out _ HB1.out).mono ?_
        rintro e w2 ⟨rfl, hb2⟩
        have HB2 := hid (bb HB1.out hb2)
        clear hb2 CE
        go_wp2_with fail
        refine (CI.out _).mono ?_
        rintro e w3 ⟨rfl, rfl⟩
        go_wp2_with fail
        go_ret
        exact ⟨rfl, HB2.out⟩
      | true =>
        rw [h3] at CI
        by_cases h4 : y = x
        · rw [canonI_no (by unfold canB; rw [h1, h2, h3, decide_eq_true h4]; rfl)]
          subst h4
          have hyy : (y == y) = true := by simp
          clear hR hz h1 h2 h3
          generalize ts.length = n at *
          go_enter Tryz.func13, Tryz.ntmps13
          go_wp2_with fail
          refine CN.out.mono ?_
          rintro e w1 ⟨rfl, hb1⟩
          have HB1 := hid hb1
          clear hb1 CN
          go_wp2_with fail
          refine (CE.out _ HB1.out).mono ?_
          rintro e w2 ⟨rfl, hb2⟩
          have HB2 := hid (bb HB1.out hb2)
          clear hb2 CE
          go_wp2_with fail
          refine (CI.out _).mono ?_
          rintro e w3 ⟨rfl, rfl⟩
          go_wp2_with fail
          go_ret
          exact ⟨rfl, HB2.out⟩
        · rw [canonI_yes (by unfold canB; rw [h1, h2, h3, decide_eq_false h4]; rfl)]
          obtain ⟨hT, k, rfl, hk⟩ := elemB_t h2
          have hyy : (y == (k : Int)) = false := by simpa using h4
          have CC := hid (fun wx (hb : Below w.heap.size w wx) => c_spec_l11Canon a cap ts y hT hz ts.length k [] none 0 wx (hR.below hb) hk (by omega) (fun i hi => absurd hi (Nat.not_lt_zero _)) (Nat.zero_le _))
          rw [show ((k : Int).toNat) = k from rfl]
          clear hR hz h1 h2 h3 h4 hT hk
          generalize canonN ts y ts.length k [] = R at *
          generalize ts.length = n at *
          go_enter Tryz.func13, Tryz.ntmps13
          go_wp2_with fail
          refine CN.out.mono ?_
          rintro e w1 ⟨rfl, hb1⟩
          have HB1 := hid hb1
          clear hb1 CN
          go_wp2_with fail
          refine (CE.out _ HB1.out).mono ?_
          rintro e w2 ⟨rfl, hb2⟩
          have HB2 := hid (bb HB1.out hb2)
          clear hb2 CE
          go_wp2_with fail
          refine (CI.out _).mono ?_
          rintro e w3 ⟨rfl, rfl⟩
          go_wp2_with fail
          refine (CC.out _ HB2.out).mono ?_
          rintro e w4 ⟨rfl, hb4⟩
          have HB4 := hid (bb HB2.out hb4)
          clear hb4 CC
          go_wp2_with fail
          go_ret
          exact ⟨rfl, HB4.out⟩

set_option maxHeartbeats 2000000 in
theorem cCanonAllS (a : Option Addr) (cap : Nat) (ts : List Tk) (w : World) (hR : TkRow w a ts) (hn : ts.length ≤ 1048576) (hz : TksSz 1048576 ts) :
    Calls Tryz.prog 15 #[.slice a ts.length cap] w fun e w' => e = .returned (.string (canonI ts 0 (-1))) ∧ Below w.heap.size w w' := by
  have C := hid (cCanonS a cap ts 0 (-1) w hR hn hz)
  clear hR hz
  generalize canonI ts 0 (-1) = R at *
  generalize ts.length = n at *
  go_enter Tryz.func15, Tryz.ntmps15
  go_wp2_with fail
  refine C.out.mono ?_
  rintro e w1 ⟨rfl, hb1⟩
  have HB1 := hid hb1
  clear hb1 C
  go_wp2_with fail
  go_ret
  exact ⟨rfl, HB1.out⟩

/-- Both are written alike. -/
noncomputable def sameC (ts us : List Tk) : Bool := open Classical in namesB ts && (namesB us && decide (canonI ts 0 (-1) = canonI us 0 (-1)))

set_option maxRecDepth 4000 in
set_option maxHeartbeats 4000000 in
theorem cSameCanonS (a a2 : Option Addr) (cap cap2 : Nat) (ts us : List Tk) (w : World) (hR : TkRow w a ts) (hR2 : TkRow w a2 us) (hn : ts.length ≤ 1048576) (hn2 : us.length ≤ 1048576) (hz : TksSz 1048576 ts) (hz2 : TksSz 1048576 us) :
    Calls Tryz.prog 22 #[.slice a ts.length cap, .slice a2 us.length cap2] w fun e w' => e = .returned (.bool (sameC ts us)) ∧ Below w.heap.size w w' := by
  have CN := hid (cNamesOkS a cap ts w hR hn hz)
  have CN2 := hid (fun wx (hb : Below w.heap.size w wx) => cNamesOkS a2 cap2 us wx (hR2.below hb) hn2 hz2)
  have CA := hid (fun wx (hb : Below w.heap.size w wx) => cCanonAllS a cap ts wx (hR.below hb) hn hz)
  have CA2 := hid (fun wx (hb : Below w.heap.size w wx) => cCanonAllS a2 cap2 us wx (hR2.below hb) hn2 hz2)
  have HSM := hid (show sameC ts us = (namesB ts && (namesB us && ((canonI ts 0 (-1)).toList == (canonI us 0 (-1)).toList))) by unfold sameC; rw [str_beq])
  rw [HSM.out]
  clear hR hR2 hz hz2 HSM
  generalize canonI ts 0 (-1) = R1 at *
  generalize canonI us 0 (-1) = R2 at *
  generalize namesB ts = N1 at *
  generalize namesB us = N2 at *
  generalize ts.length = n at *
  generalize us.length = n2 at *
  cases N1 with
  | false =>
    clear CN2 CA CA2
    go_enter Tryz.func22, Tryz.ntmps22
    go_wp2_with fail
    refine CN.out.mono ?_
    rintro e w1 ⟨rfl, hb1⟩
    have HB1 := hid hb1
    clear hb1 CN
    go_wp2_with fail
    go_ret
    exact ⟨rfl, HB1.out⟩
  | true =>
    cases N2 with
    | false =>
      clear CA CA2
      go_enter Tryz.func22, Tryz.ntmps22
      go_wp2_with fail
      refine CN.out.mono ?_
      rintro e w1 ⟨rfl, hb1⟩
      have HB1 := hid hb1
      clear hb1 CN
      go_wp2_with fail
      refine (CN2.out _ HB1.out).mono ?_
      rintro e w2 ⟨rfl, hb2⟩
      have HB2 := hid (bb HB1.out hb2)
      clear hb2 CN2
      go_wp2_with fail
      go_ret
      exact ⟨rfl, HB2.out⟩
    | true =>
      go_enter Tryz.func22, Tryz.ntmps22
      go_wp2_with fail
      refine CN.out.mono ?_
      rintro e w1 ⟨rfl, hb1⟩
      have HB1 := hid hb1
      clear hb1 CN
      go_wp2_with fail
      refine (CN2.out _ HB1.out).mono ?_
      rintro e w2 ⟨rfl, hb2⟩
      have HB2 := hid (bb HB1.out hb2)
      clear hb2 CN2
      go_wp2_with fail
      refine (CA.out _ HB2.out).mono ?_
      rintro e w3 ⟨rfl, hb3⟩
      have HB3 := hid (bb HB2.out hb3)
      clear hb3 CA
      go_wp2_with fail
      refine (CA2.out _ HB3.out).mono ?_
      rintro e w4 ⟨rfl, hb4⟩
      have HB4 := hid (bb HB3.out hb4)
      clear hb4 CA2
      go_wp2_with fail
      go_ret
      exact ⟨rfl, HB4.out⟩

end Go.Proofs.YtmghipjpgoghlaaGreat
