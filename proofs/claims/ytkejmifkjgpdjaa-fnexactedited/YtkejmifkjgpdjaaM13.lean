/- Contracts of l8Kids, KidsOf, l8Text and TextIn of the specification. The tokens of a tree (plain mathematics). Families (plain mathematics of promise 8): a kid ends where the next one begins, the first stands right behind, the last ends where its parent ends. -/
import Derived.Test.YtkejmifkjgpdjaaM9
import Derived.Test.YtkejmifkjgpdjaaM8
import Derived.OwnWalk
namespace Go.Proofs.Ytkejmifkjgpdjaa
open Go.RowKit
set_option linter.unusedVariables false
set_option linter.unusedSimpArgs false

/-- Nodes up to e whose parent it is. -/
def kidsTo (ts : List Tk) (k e : Nat) : List Nat := (List.range e).filter fun i => decide (k < i) && decide (parI ts i = (k : Int))

/-- Nodes whose parent it is. -/
def kidsN (ts : List Tk) (k : Nat) : List Nat := kidsTo ts k ts.length

theorem kidsTo_first (ts : List Tk) (k : Nat) : kidsTo ts k (k + 1) = [] := by
  unfold kidsTo
  rw [List.filter_eq_nil_iff]
  intro i hi
  have := List.mem_range.1 hi
  simp
  omega

theorem kidsTo_next {ts : List Tk} {k e : Nat} (h : k < e) : kidsTo ts k (e + 1) = kidsTo ts k e ++ (if parI ts e = (k : Int) then [e] else []) := by
  unfold kidsTo
  rw [List.range_succ, List.filter_append]
  congr 1
  by_cases q : parI ts e = (k : Int)
  · simp [h, q]
  · simp [q]

theorem kidsTo_len (ts : List Tk) (k e : Nat) : (kidsTo ts k e).length ≤ e := by
  have := List.length_filter_le (fun i => decide (k < i) && decide (parI ts i = (k : Int))) (List.range e)
  rw [List.length_range] at this
  exact this

theorem kidsN_lt {ts : List Tk} {k i : Nat} (h : i ∈ kidsN ts k) : i < ts.length := List.mem_range.1 (List.mem_filter.1 h).1

/-- Numbers as cells. -/
def intC (l : List Nat) : List Value := l.map fun (i : Nat) => .int .i64 (i : Int)

theorem intC_len (l : List Nat) : (intC l).length = l.length := by simp [intC]

theorem intC_app (l m : List Nat) : intC (l ++ m) = intC l ++ intC m := by simp [intC]

theorem info64 : (Try.prog.info? 2).map (fun i => (i.zero, i.size, i.bytes)) = some (some (.int .i64 0), 1, 8) := by kernel_rfl

theorem one_cell64 (w : World) (v : Value) : ∀ j u, [v][j]? = some u → (w.alloc (.cells #[v] 2)).cell? ((⟨w.heap.size, 0, none⟩ : Addr).add j) = some u := by
  intro j u hj
  match j, hj with
  | 0, hj => simp at hj; subst hj; simp [Addr.add]

theorem one_one64 (n : Int) : ∀ u ∈ [Value.int .i64 n], u.oneCell' = true := by
  intro u hu; simp at hu; subst hu; rfl

/-- A cell of a row of numbers of our own. -/
theorem row64 {w : World} {B : Nat} {v : Value} {l : List Nat} (h : w.ownsRow B 2 1 v l.length (intC l)) : (∃ a cap, v = .slice a l.length cap) ∧ ∀ i (hi : i < l.length), ∃ g cap, v = .slice (some ⟨g, 0, none⟩) l.length cap ∧ g < w.heap.size ∧ w.cell? ⟨g, i, none⟩ = some (.int .i64 (l[i] : Int)) := by
  rcases h.2 with ⟨rfl, h0⟩ | ⟨g, cap, cur, rfl, hg, hh, hn, hc, hs, ht⟩
  · have : l = [] := List.eq_nil_of_length_eq_zero h0
    subst this
    exact ⟨⟨none, 0, rfl⟩, fun i hi => absurd hi (Nat.not_lt_zero _)⟩
  · refine ⟨⟨_, _, rfl⟩, fun i hi => ⟨g, cap, rfl, lt_of_heap hh, ?_⟩⟩
    rw [Lib.cell_of_heap hh, ← Array.getElem?_toList]
    have hk : (intC l)[i]? = some (.int .i64 (l[i] : Int)) := by
      unfold intC
      rw [List.getElem?_map, List.getElem?_eq_getElem hi]
      rfl
    rw [← ht, List.getElem?_take] at hk
    split at hk
    · exact hk
    · cases hk

theorem row64_mono {w : World} {B B' n : Nat} {v : Value} {xs : List Value} {e : TypeId} (h : w.ownsRow B' e 1 v n xs) (hB : B ≤ B') : w.ownsRow B e 1 v n xs := by
  refine ⟨h.1, ?_⟩
  rcases h.2 with h' | ⟨g, cap, cur, h1, h2, h3⟩
  · exact .inl h'
  · exact .inr ⟨g, cap, cur, h1, Nat.le_trans hB h2, h3⟩

noncomputable def kidsI (ts : List Tk) (x : Int) : List Nat := if hasB ts x = true then kidsN ts x.toNat else []

def textAt (ts : List Tk) (k : Nat) : ByteArray := match ts[k]? with | some t => t.text | none => ⟨#[]⟩

theorem textAt_at {ts : List Tk} {k : Nat} (h : k < ts.length) : textAt ts k = ts[k].text := by unfold textAt; rw [List.getElem?_eq_getElem h]

/-- The texts of these, one behind the other. -/
def joinT (ts : List Tk) (ks : List Nat) : ByteArray := ks.foldl (fun s k => s ++ textAt ts k) ⟨#[]⟩

theorem joinT_snoc (ts : List Tk) (ks : List Nat) (k : Nat) : joinT ts (ks ++ [k]) = joinT ts ks ++ textAt ts k := by simp [joinT]

theorem tree_text {ts : List Tk} (h : TreeP ts) (k : Nat) : (textAt ts k).size ≤ 60 := by
  by_cases hk : k < ts.length
  · rw [textAt_at hk]
    obtain ⟨⟨_, hb⟩, _⟩ := h.2.2.2.2 k hk
    by_cases e : ts[k].name.size = 0
    · rw [nodeB_tx e] at hb
      simp only [Bool.and_eq_true, textB, decide_eq_true_eq] at hb
      exact hb.2.2.2
    · rw [nodeB_el e] at hb
      simp only [Bool.and_eq_true, decide_eq_true_eq] at hb
      omega
  · unfold textAt
    rw [List.getElem?_eq_none (by omega)]
    exact Nat.zero_le _

theorem joinT_size {ts : List Tk} (h : ∀ k, (textAt ts k).size ≤ 60) (ks : List Nat) : (joinT ts ks).size ≤ 60 * ks.length := by
  have H : ∀ (ks : List Nat) (s : ByteArray), (ks.foldl (fun s k => s ++ textAt ts k) s).size ≤ s.size + 60 * ks.length := by
    intro ks
    induction ks with
    | nil => intro s; simp
    | cons k ks ih =>
      intro s
      have := ih (s ++ textAt ts k)
      have h2 := h k
      rw [ByteArray.size_append] at this
      simp only [List.foldl_cons, List.length_cons]
      omega
  have := H ks ⟨#[]⟩
  rw [show (⟨#[]⟩ : ByteArray).size = 0 from rfl] at this
  unfold joinT
  omega

noncomputable def textI (ts : List Tk) (x : Int) : ByteArray := if hasB ts x = true then joinT ts (kidsN ts x.toNat) else ⟨#[]⟩

end Go.Proofs.Ytkejmifkjgpdjaa

namespace Go.Proofs.Ytkejmifkjgpdjaa
set_option linter.unusedVariables false

def nodeAt (ts : List Tk) (k : Nat) : Tk := match ts[k]? with | some t => t | none => ⟨0, ⟨#[]⟩, [], ⟨#[]⟩⟩

theorem nodeAt_at {ts : List Tk} {k : Nat} (h : k < ts.length) : nodeAt ts k = ts[k] := by unfold nodeAt; rw [List.getElem?_eq_getElem h]

/-- TkOpen, TkClose and TkText of a node. -/
def opT (t : Tk) : Tk := ⟨1, t.name, t.attrs, ⟨#[]⟩⟩
def clT (t : Tk) : Tk := ⟨2, t.name, [], ⟨#[]⟩⟩
def txT (t : Tk) : Tk := ⟨3, ⟨#[]⟩, [], t.text⟩

/-- The tokens of the node there and of all that it has. -/
def tokN (ts : List Tk) : Nat → Nat → List Tk
  | 0, _ => []
  | f + 1, k => if (nodeAt ts k).name.size = 0 then [txT (nodeAt ts k)] else opT (nodeAt ts k) :: ((kidsTo ts k (endN ts k)).flatMap (tokN ts f) ++ [clT (nodeAt ts k)])

theorem endN_stop {ts : List Tk} {k : Nat} (h : k < ts.length) : endN ts k = ts.length ∨ parI ts (endN ts k) < (k : Int) := by
  rcases Nat.lt_or_ge (endN ts k) ts.length with h' | h'
  · right
    by_cases q : parI ts (endN ts k) < (k : Int)
    · exact q
    · exfalso
      have hle := endN_le h
      have key : ∀ m, k + 1 + m ≤ ts.length → ((ts.drop (k + 1)).takeWhile fun t => decide ((k : Int) ≤ t.kind)).length = m → k + 1 + m < ts.length → parI ts (k + 1 + m) < (k : Int) := by
        intro m hm hl hlt
        have hsub := List.takeWhile_append_dropWhile (p := fun t : Tk => decide ((k : Int) ≤ t.kind)) (l := ts.drop (k + 1))
        have hd : m < (ts.drop (k + 1)).length := by rw [List.length_drop]; omega
        have e1 : (ts.drop (k + 1))[m] = ts[k + 1 + m] := List.getElem_drop ..
        have hne : ((ts.drop (k + 1)).dropWhile fun t => decide ((k : Int) ≤ t.kind)) ≠ [] := by
          intro e0
          have := congrArg List.length hsub
          rw [List.length_append, e0, hl, List.length_nil] at this
          omega
        have hhd := List.head_dropWhile_not (fun t : Tk => decide ((k : Int) ≤ t.kind)) hne
        have e2 : ((ts.drop (k + 1)).dropWhile fun t => decide ((k : Int) ≤ t.kind)).head hne = ts[k + 1 + m] := by
          rw [← e1, List.head_eq_getElem]
          have : (ts.drop (k + 1))[m]? = some (((ts.drop (k + 1)).dropWhile fun t => decide ((k : Int) ≤ t.kind))[0]'(List.length_pos_iff.2 hne)) := by
            conv => lhs; rw [← hsub]
            rw [List.getElem?_append_right (by omega), hl, Nat.sub_self, List.getElem?_eq_getElem (List.length_pos_iff.2 hne)]
          rw [List.getElem?_eq_getElem hd] at this
          exact (Option.some.inj this).symm
        rw [e2] at hhd
        rw [parI_at hlt]
        simpa using hhd
      exact q (key _ hle.2 rfl h')
  · left
    have := endN_le h
    omega

theorem endN_min {ts : List Tk} {k e : Nat} (hk : k < ts.length) (he : k < e) (hp : e < ts.length → parI ts e < (k : Int)) (hle : e ≤ ts.length) : endN ts k ≤ e := by
  rcases Nat.lt_or_ge e (endN ts k) with h | h
  · exfalso
    have h2 := endN_le hk
    have h3 := hp (by omega)
    have h4 : (k : Int) ≤ parI ts e := by
      have hm : e - (k + 1) < ((ts.drop (k + 1)).takeWhile fun t => decide ((k : Int) ≤ t.kind)).length := by unfold endN at h; omega
      have h5 := List.all_eq_true.1 (List.all_takeWhile (p := fun t : Tk => decide ((k : Int) ≤ t.kind)) (l := ts.drop (k + 1))) _ (List.getElem_mem hm)
      have e1 : ((ts.drop (k + 1)).takeWhile fun t => decide ((k : Int) ≤ t.kind))[e - (k + 1)] = (ts.drop (k + 1))[e - (k + 1)]'(by rw [List.length_drop]; omega) :=
        (List.takeWhile_prefix _).getElem hm
      rw [e1, List.getElem_drop] at h5
      have e2 : k + 1 + (e - (k + 1)) = e := by omega
      simp only [e2] at h5
      rw [parI_at (by omega)]
      simpa using h5
    omega
  · exact h

/-- Of a kid: it ends ahead of the next one, and within. -/
theorem kid_end {ts : List Tk} {k i : Nat} (hk : k < ts.length) (hi : k < i) (hie : i < endN ts k) : endN ts i ≤ endN ts k ∧ ∀ j, i < j → j < ts.length → parI ts j = (k : Int) → endN ts i ≤ j := by
  have hle := endN_le hk
  refine ⟨?_, fun j hj hjn hp => ?_⟩
  · rcases endN_stop hk with h | h
    · rw [h]
      exact (endN_le (by omega)).2
    · exact endN_min (by omega) hie (fun _ => by omega) hle.2
  · exact endN_min (by omega) hj (fun _ => by omega) (by omega)

theorem kids_len {ts : List Tk} {k : Nat} (L : Nat → Nat) (hk : k < ts.length) (hL : ∀ i, k < i → i < endN ts k → L i ≤ 2 * (endN ts i - i)) :
    ∀ e, k < e → e ≤ endN ts k → ∃ m, k + 1 ≤ m ∧ m ≤ endN ts k ∧ ((kidsTo ts k e).map L).sum ≤ 2 * (m - (k + 1)) ∧ ∀ j, e ≤ j → j < endN ts k → parI ts j = (k : Int) → m ≤ j := by
  have hle := endN_le hk
  intro e
  induction e with
  | zero => intro h; omega
  | succ e ih =>
    intro h1 h2
    by_cases he : e = k
    · subst he
      refine ⟨e + 1, Nat.le_refl _, h2, ?_, fun j hj _ _ => by omega⟩
      rw [kidsTo_first]
      simp
    · obtain ⟨m, m1, m2, m3, m4⟩ := ih (by omega) (by omega)
      rw [kidsTo_next (by omega)]
      by_cases q : parI ts e = (k : Int)
      · rw [if_pos q, List.map_append, List.sum_append]
        obtain ⟨q1, q2⟩ := kid_end hk (show k < e by omega) (by omega)
        have hm := m4 e (Nat.le_refl _) (by omega) q
        have hl := hL e (by omega) (by omega)
        have he2 := endN_le (ts := ts) (k := e) (by omega)
        refine ⟨endN ts e, by omega, q1, ?_, fun j hj hjn hp => q2 j (by omega) (by omega) hp⟩
        simp only [List.map_cons, List.map_nil, List.sum_cons, List.sum_nil]
        omega
      · rw [if_neg q, List.append_nil]
        exact ⟨m, m1, m2, m3, fun j hj hjn hp => m4 j (by omega) hjn hp⟩

theorem flatMap_len {α β : Type} (f : α → List β) (l : List α) : (l.flatMap f).length = (l.map fun x => (f x).length).sum := by
  rw [List.length_flatMap]

theorem tokN_len {ts : List Tk} : ∀ f k, k < ts.length → (tokN ts f k).length ≤ 2 * (endN ts k - k)
  | 0, k, h => by simp [tokN]
  | f + 1, k, h => by
    have hle := endN_le h
    unfold tokN
    split
    · simp; omega
    · obtain ⟨m, m1, m2, m3, _⟩ := kids_len (fun i => (tokN ts f i).length) h (fun i h1 h2 => tokN_len f i (by omega)) (endN ts k) hle.1 (Nat.le_refl _)
      simp only [List.length_cons, List.length_append, List.length_nil, flatMap_len]
      omega

theorem tokKids_len {ts : List Tk} (f : Nat) {k e : Nat} (h : k < ts.length) (h1 : k < e) (h2 : e ≤ endN ts k) : ((kidsTo ts k e).flatMap (tokN ts f)).length ≤ 2 * (endN ts k - (k + 1)) := by
  obtain ⟨m, m1, m2, m3, _⟩ := kids_len (fun i => (tokN ts f i).length) h (fun i h1 h2 => tokN_len f i (by have := endN_le h; omega)) e h1 h2
  rw [flatMap_len]
  omega

theorem tokN_sz {ts : List Tk} (hz : TksSz 1048576 ts) : ∀ f k, TksSz 1048576 (tokN ts f k)
  | 0, k => fun t ht => by simp [tokN] at ht
  | f + 1, k => by
    have hk : TkSz 1048576 (nodeAt ts k) := by
      by_cases h : k < ts.length
      · rw [nodeAt_at h]; exact hz _ (List.getElem_mem h)
      · unfold nodeAt
        rw [List.getElem?_eq_none (by omega)]
        exact ⟨Nat.zero_le _, Nat.zero_le _, fun x hx => absurd hx List.not_mem_nil, Nat.zero_le _⟩
    obtain ⟨z1, z2, z3, z4⟩ := hk
    intro t ht
    unfold tokN at ht
    split at ht
    · rw [List.mem_singleton] at ht
      subst ht
      exact ⟨Nat.zero_le _, Nat.zero_le _, fun x hx => absurd hx List.not_mem_nil, z4⟩
    · rcases List.mem_cons.1 ht with rfl | ht
      · exact ⟨z1, z2, z3, Nat.zero_le _⟩
      · rcases List.mem_append.1 ht with ht | ht
        · obtain ⟨i, _, hi⟩ := List.mem_flatMap.1 ht
          exact tokN_sz hz f i t hi
        · rw [List.mem_singleton] at ht
          subst ht
          exact ⟨z1, Nat.zero_le _, fun x hx => absurd hx List.not_mem_nil, Nat.zero_le _⟩

end Go.Proofs.Ytkejmifkjgpdjaa

namespace Go.Proofs.Ytkejmifkjgpdjaa
set_option linter.unusedVariables false

theorem TreeP.up {ts : List Tk} (h : TreeP ts) (j : Nat) (hj : j < ts.length) : UpOk ts j := (h.2.2.2.2 j hj).2.1

theorem TreeP.linked {ts : List Tk} (h : TreeP ts) (m : Nat) (hm : m < ts.length) : Linked ts (chainF ts (m + 1)) ∧ ∀ p ∈ chainF ts (m + 1), p < m + 1 := linked_all m (fun j hj => h.up j (by omega))

theorem endN_in {ts : List Tk} {k e : Nat} (hk : k < ts.length) (he : k < e) (h : e < endN ts k) : (k : Int) ≤ parI ts e := by
  by_cases q : (k : Int) ≤ parI ts e
  · exact q
  · have h2 := endN_le hk
    have := endN_min hk he (fun _ => by omega) (by omega)
    omega

theorem mem_drop {ts : List Tk} : ∀ {c : List Nat}, Linked ts c → ∀ p q, p ∈ c → q ∈ c → q ≤ p → q ∈ c.dropWhile (fun (j : Nat) => !decide ((j : Int) = (p : Int)))
  | [], h, p, q, hp, _, _ => absurd hp (by simp)
  | [x], h, p, q, hp, hq, _ => by
    rw [List.mem_singleton] at hp hq
    subst hp hq
    simp
  | x :: y :: r, h, p, q, hp, hq, hle => by
    by_cases e : x = p
    · subst e
      simpa using hq
    · have hp' : p ∈ y :: r := by
        rcases List.mem_cons.1 hp with h' | h'
        · exact absurd h'.symm e
        · exact h'
      have h1 := Linked.le h.tail p hp'
      have h2 := h.2.1
      have hq' : q ∈ y :: r := by
        rcases List.mem_cons.1 hq with h' | h'
        · omega
        · exact h'
      rw [List.dropWhile_cons, if_pos (by simp; omega)]
      exact mem_drop h.tail p q hp' hq' hle

theorem below_par {ts : List Tk} : ∀ {l : List Nat}, Linked ts l → ∀ c q, c ∈ l → q ∈ l → q < c → (q : Int) ≤ parI ts c
  | [], h, c, q, hc, _, _ => absurd hc (by simp)
  | [x], h, c, q, hc, hq, hlt => by
    rw [List.mem_singleton] at hc hq
    omega
  | x :: y :: r, h, c, q, hc, hq, hlt => by
    by_cases e : c = x
    · subst e
      have hq' : q ∈ y :: r := by
        rcases List.mem_cons.1 hq with h' | h'
        · omega
        · exact h'
      have h1 := Linked.le h.tail q hq'
      rw [h.1]
      omega
    · have hc' : c ∈ y :: r := by
        rcases List.mem_cons.1 hc with h' | h'
        · exact absurd h' e
        · exact h'
      have h1 := Linked.le h.tail c hc'
      have h2 := h.2.1
      have hq' : q ∈ y :: r := by
        rcases List.mem_cons.1 hq with h' | h'
        · omega
        · exact h'
      exact below_par h.tail c q hc' hq' hlt

/-- All that a node has lies in it. -/
theorem in_chain {ts : List Tk} (h : TreeP ts) {c : Nat} (hc : c < ts.length) : ∀ d, c + d < endN ts c → c ∈ chainF ts (c + d + 1)
  | 0, _ => by
    obtain ⟨r, e⟩ := chain_head ts c
    rw [Nat.add_zero, e]
    exact List.mem_cons_self ..
  | d + 1, hd => by
    have hle := endN_le hc
    have ih := in_chain h hc d (by omega)
    have hpar := endN_in hc (show c < c + (d + 1) by omega) hd
    obtain ⟨hL, _⟩ := h.linked (c + d) (by omega)
    rcases h.up (c + (d + 1)) (by omega) with h0 | ⟨p, hp, e, _⟩
    · omega
    · rw [← e] at hpar
      have hm := mem_drop hL p c hp ih (by omega)
      show c ∈ (c + (d + 1)) :: (chainF ts (c + (d + 1))).dropWhile (fun (j : Nat) => !decide ((j : Int) = parI ts (c + (d + 1))))
      rw [← e]
      exact List.mem_cons_of_mem _ hm

/-- Where a kid ends and more is to come, the next one begins. -/
theorem next_kid {ts : List Tk} (h : TreeP ts) {k c : Nat} (hk : k < ts.length) (hc : k < c) (hce : c < endN ts k) (hp : parI ts c = (k : Int)) (hj : endN ts c < endN ts k) : parI ts (endN ts c) = (k : Int) := by
  have hle := endN_le hk
  have hcl := endN_le (ts := ts) (k := c) (by omega)
  have hlow := endN_in hk (show k < endN ts c by omega) hj
  have hup : parI ts (endN ts c) < (c : Int) := by
    rcases endN_stop (ts := ts) (k := c) (by omega) with h' | h'
    · omega
    · exact h'
  have hin := in_chain h (show c < ts.length by omega) (endN ts c - c - 1) (by omega)
  rw [show c + (endN ts c - c - 1) + 1 = endN ts c by omega] at hin
  have hL := (h.linked (endN ts c - 1) (by omega)).1
  rw [show endN ts c - 1 + 1 = endN ts c by omega] at hL
  rcases h.up (endN ts c) (by omega) with h0 | ⟨p, hpm, e, _⟩
  · omega
  · rw [← e] at hlow hup ⊢
    have := below_par hL c p hin hpm (by omega)
    rw [hp] at this
    omega

theorem first_kid {ts : List Tk} (h : TreeP ts) {k : Nat} (hk : k < ts.length) (he : k + 1 < endN ts k) : parI ts (k + 1) = (k : Int) := by
  have hle := endN_le hk
  have hlow := endN_in hk (show k < k + 1 by omega) he
  rcases h.up (k + 1) (by omega) with h0 | ⟨p, hpm, e, _⟩
  · omega
  · have := (h.linked k hk).2 p hpm
    rw [← e] at hlow ⊢
    omega

/-- Behind its end nothing is its kid. -/
theorem out_chain {ts : List Tk} (h : TreeP ts) {k : Nat} (hk : k < ts.length) : ∀ d, endN ts k + d < ts.length → ¬ k ∈ chainF ts (endN ts k + d + 1)
  | 0, hd => by
    have hle := endN_le hk
    intro hm
    have hup : parI ts (endN ts k) < (k : Int) := by
      rcases endN_stop hk with h' | h'
      · omega
      · exact h'
    have hL := h.linked (endN ts k - 1) (by omega)
    rw [show endN ts k - 1 + 1 = endN ts k by omega] at hL
    obtain ⟨hl2, p, r, e, ep, _⟩ := linked_next hL.1 (h.up (endN ts k) (by omega)) (by omega) hL.2
    rw [Nat.add_zero, e] at hm
    rw [e] at hl2
    rcases List.mem_cons.1 hm with h' | h'
    · omega
    · have := Linked.le hl2.tail k h'
      omega
  | d + 1, hd => by
    have hle := endN_le hk
    have ih := out_chain h hk d (by omega)
    intro hm
    have hm : k ∈ (endN ts k + (d + 1)) :: (chainF ts (endN ts k + d + 1)).dropWhile (fun (j : Nat) => !decide ((j : Int) = parI ts (endN ts k + (d + 1)))) := hm
    rcases List.mem_cons.1 hm with h' | h'
    · omega
    · exact ih ((List.dropWhile_sublist _).mem h')

theorem no_kid {ts : List Tk} (h : TreeP ts) {k i : Nat} (hk : k < ts.length) (hi : endN ts k ≤ i) (hn : i < ts.length) : ¬ parI ts i = (k : Int) := by
  have hle := endN_le hk
  intro e
  rcases Nat.lt_or_eq_of_le hi with h' | h'
  · rcases h.up i hn with h0 | ⟨p, hpm, ep, _⟩
    · omega
    · have : p = k := by omega
      subst this
      have := out_chain h hk (i - endN ts p - 1) (by omega)
      rw [show endN ts p + (i - endN ts p - 1) + 1 = i by omega] at this
      exact this hpm
  · subst h'
    rcases endN_stop hk with h' | h'
    · omega
    · omega

/-- Kids from e on. -/
def kidsFrom (ts : List Tk) (k e E : Nat) : List Nat := (List.range' e (E - e)).filter fun i => decide (parI ts i = (k : Int))

theorem kidsFrom_split {ts : List Tk} {k a b c : Nat} (h1 : a ≤ b) (h2 : b ≤ c) : kidsFrom ts k a c = kidsFrom ts k a b ++ kidsFrom ts k b c := by
  unfold kidsFrom
  rw [← List.filter_append]
  congr 1
  have := List.range'_append_1 (s := a) (m := b - a) (n := c - b)
  rw [show a + (b - a) = b by omega, show b - a + (c - b) = c - a by omega] at this
  exact this.symm

theorem kidsFrom_none {ts : List Tk} {k a b : Nat} (h : ∀ i, a ≤ i → i < b → ¬ parI ts i = (k : Int)) : kidsFrom ts k a b = [] := by
  unfold kidsFrom
  rw [List.filter_eq_nil_iff]
  intro i hi
  rw [List.mem_range'_1] at hi
  simpa using h i hi.1 (by omega)

theorem kidsN_from {ts : List Tk} {k : Nat} (hk : k < ts.length) : kidsN ts k = kidsFrom ts k (k + 1) ts.length := by
  unfold kidsN kidsTo kidsFrom
  have e : List.range ts.length = List.range' 0 (k + 1) ++ List.range' (k + 1) (ts.length - (k + 1)) := by
    have := List.range'_append_1 (s := 0) (m := k + 1) (n := ts.length - (k + 1))
    rw [Nat.zero_add, show k + 1 + (ts.length - (k + 1)) = ts.length by omega] at this
    rw [this, List.range_eq_range']
  rw [e, List.filter_append]
  have e1 : (List.range' 0 (k + 1)).filter (fun i => decide (k < i) && decide (parI ts i = (k : Int))) = [] := by
    rw [List.filter_eq_nil_iff]
    intro i hi
    rw [List.mem_range'_1] at hi
    simp
    omega
  rw [e1, List.nil_append]
  refine List.filter_congr fun i hi => ?_
  rw [List.mem_range'_1] at hi
  have : decide (k < i) = true := decide_eq_true (by omega)
  rw [this, Bool.true_and]

/-- Where the i-th kid begins, or all ends. -/
structure FamAt (ts : List Tk) (k i e : Nat) : Prop where
  lo : k < e
  hi : e ≤ endN ts k
  kid : e < endN ts k → parI ts e = (k : Int)
  rest : kidsFrom ts k e (endN ts k) = (kidsN ts k).drop i

theorem fam_start {ts : List Tk} (h : TreeP ts) {k : Nat} (hk : k < ts.length) : FamAt ts k 0 (k + 1) := by
  have hle := endN_le hk
  refine ⟨by omega, by omega, fun he => first_kid h hk he, ?_⟩
  rw [List.drop_zero, kidsN_from hk, kidsFrom_split (show k + 1 ≤ endN ts k by omega) hle.2, kidsFrom_none (a := endN ts k) (fun i h1 h2 => no_kid h hk h1 h2), List.append_nil]

theorem fam_one {ts : List Tk} (h : TreeP ts) {k e : Nat} (hk : k < ts.length) (h1 : k < e) (h2 : e < endN ts k) (h3 : parI ts e = (k : Int)) : kidsFrom ts k e (endN ts k) = e :: kidsFrom ts k (endN ts e) (endN ts k) := by
  have hle := endN_le hk
  have hel := endN_le (ts := ts) (k := e) (by omega)
  have hke := (kid_end hk h1 h2).1
  rw [kidsFrom_split (show e ≤ e + 1 by omega) (show e + 1 ≤ endN ts k by omega), kidsFrom_split (show e + 1 ≤ endN ts e by omega) hke]
  have e1 : kidsFrom ts k e (e + 1) = [e] := by
    unfold kidsFrom
    rw [show e + 1 - e = 1 by omega]
    simp [h3]
  have e2 : kidsFrom ts k (e + 1) (endN ts e) = [] := kidsFrom_none (fun i g1 g2 => by
    have := endN_in (ts := ts) (k := e) (by omega) (show e < i by omega) g2
    omega)
  rw [e1, e2, List.nil_append]
  rfl

theorem FamAt.step {ts : List Tk} (h : TreeP ts) {k i e : Nat} (hk : k < ts.length) (f : FamAt ts k i e) (hi : i < (kidsN ts k).length) :
    (kidsN ts k)[i] = e ∧ e < endN ts k ∧ parI ts e = (k : Int) ∧ FamAt ts k (i + 1) (endN ts e) := by
  have hle := endN_le hk
  have hr := f.rest
  rw [List.drop_eq_getElem_cons hi] at hr
  have hlt : e < endN ts k := by
    rcases Nat.lt_or_eq_of_le f.hi with h' | h'
    · exact h'
    · rw [h', kidsFrom_none (fun i g1 g2 => by omega)] at hr
      cases hr
  have hp := f.kid hlt
  rw [fam_one h hk f.lo hlt hp] at hr
  injection hr with e1 e2
  have hel := endN_le (ts := ts) (k := e) (by omega)
  exact ⟨e1.symm, hlt, hp, ⟨by have := f.lo; omega, (kid_end hk f.lo hlt).1, fun hj => next_kid h hk f.lo hlt hp hj, e2⟩⟩

theorem FamAt.fin {ts : List Tk} (h : TreeP ts) {k i e : Nat} (hk : k < ts.length) (f : FamAt ts k i e) (hi : i = (kidsN ts k).length) : e = endN ts k := by
  rcases Nat.lt_or_eq_of_le f.hi with h' | h'
  · have hr := f.rest
    rw [fam_one h hk f.lo h' (f.kid h'), hi, List.drop_length] at hr
    cases hr
  · exact h'

end Go.Proofs.Ytkejmifkjgpdjaa
