/- Rows of the call's own: append within a region that draws, what stays where another row grows. Steps of reading attrs; a row of attrs that a call has made itself. Where signs stand, and what a tag's attrs are: plain mathematics. The reader of a letter in the program: what opening knows, and what it answers. -/
import Derived.Test.YteninofjeidljaaGreatM7
import Derived.Test.YteninofjeidljaaGreatM12
import Derived.Test.YteninofjeidljaaGreatM11
import Derived.Maps.AppendAt
import Derived.Deep.Upon
import Derived.OwnWalk
import Derived.Deep.RegionLaw
namespace Go.Proofs.YteninofjeidljaaGreat

open Go.RowKit

set_option linter.unusedVariables false

set_option linter.unusedSimpArgs false

/-- append onto a row of the call's own, as one step of a region that draws its order. -/
theorem step_app_at {P : Program} {ops : Array Oper} {o : Oper} {a : Act} {w : World} {K : Act → World → Prop} {Q : Exit → Act → World → Prop} {E : Prop}
    (hg : o.guard = none) (s x : Operand) (t : TypeId) (hop : o.op = Op.call { callee := Callee.builtin Builtin.append, args := #[s, x], argTypes := #[t, t] })
    (base : Nat) (e : TypeId) (i : TypeInfo) (z : Value) (size bytes : Nat) (h1 : P.underlying t = some (.slice e)) (h2 : P.info? e = some i) (h3 : i.zero = some z) (h4 : i.size = size) (h5 : i.bytes = bytes) (h6 : z.cells.size = size) (h7 : 0 < size)
    (v : Value) (n : Nat) (xs : List Value) (hs : a.eval s = v) (hown : w.ownsRow base e size v n xs)
    (ad : Addr) (m c : Nat) (news : List Value) (hx : a.eval x = .slice (some ad) m c) (hn : news.length = m * size) (hc : ∀ j u, news[j]? = some u → w.cell? (ad.add j) = some u) (h1c : ∀ u ∈ news, u.oneCell' = true)
    (b1 : n + m ≤ maxLen) (b2 : (n + m) * bytes ≤ 140737488355328) (b3 : base ≤ w.heap.size)
    (hK : ∀ v' w', w'.ownsRow base e size v' (n + m) (xs ++ news) → w.grownBy w' v.ownBlock → (v'.ownBlock = v.ownBlock ∨ v'.ownBlock = some w.heap.size) → K (a.put o.dst v') w') :
    if Region.wanted o (yielded ops a.tmps) = true then Oper.wp P o a w K Q else E := by
  have hw : Region.wanted o (yielded ops a.tmps) = true := by simp [Region.wanted, hg]
  rw [if_pos hw]
  obtain ⟨v', w', hrun, r1, r2, _, r3⟩ := run_append_own_at (P := P) w base t o.type e i z size bytes h1 h2 h3 h4 h5 h6 h7 v n xs hown ad m c news hn hc h1c b1 b2 b3
  unfold Oper.wp
  simp [execOp, hop, resolve, invoke, builtin, hs, hx, hrun, Result.andThen]
  exact hK v' w' r1 r2 r3

theorem two_cells (w : World) (x y : Value) (T : TypeId) : ∀ j u, [x, y][j]? = some u → (w.alloc (.cells #[x, y] T)).cell? ((⟨w.heap.size, 0, none⟩ : Addr).add j) = some u := by
  intro j u hj
  match j, hj with
  | 0, hj => simp at hj; subst hj; simp [Addr.add]
  | 1, hj => simp at hj; subst hj; simp [Addr.add]

theorem box2e {w : World} {g : Nat} {x y : Value} {T : TypeId} (h : w.heap[g]? = some (.cells #[x, y] T (0, 0))) : (w.cell? ⟨g, 0, none⟩ = some x ∧ w.cell? ⟨g, 1, none⟩ = some y) ∧ (w.frozen? ⟨g, 0, none⟩ = false ∧ w.frozen? ⟨g, 1, none⟩ = false) :=
  ⟨⟨by rw [Lib.cell_of_heap h]; rfl, by rw [Lib.cell_of_heap h]; rfl⟩, Lib.frozen_of_heap h 0, Lib.frozen_of_heap h 1⟩

theorem box_set2 {w1 : World} {b : Nat} {x y u v : Value} {T : TypeId} (h : w1.heap[b]? = some (.cells #[x, y] T (0, 0))) : ((w1.setCell ⟨b, 0, none⟩ u).setCell ⟨b, 1, none⟩ v).heap[b]? = some (.cells #[u, v] T (0, 0)) :=
  heap_setCell_same _ _ _ _ _ _ (heap_setCell_same w1 b 0 _ _ u h)

theorem atC_app (l m : List At) : atC (l ++ m) = atC l ++ atC m := by simp [atC]

theorem cell_grownR {w w' : World} {row : Option Nat} (h : w.grownBy w' row) {b o : Nat} {v : Value} (hc : w.cell? ⟨b, o, none⟩ = some v) (hb : b < w.heap.size) (hr : row ≠ some b) : w'.cell? ⟨b, o, none⟩ = some v :=
  (World.cell?_of_block (a := ⟨b, o, none⟩) (h.block b hb (fun e => hr e.symm))).trans hc

theorem blk_grownR {w w' : World} {row : Option Nat} {e T : TypeId} {b : Nat} {c : Array Value} (h : w.heap[b]? = some (.cells c T (0, 0))) (hg : w.grownBy w' row) (hr : ∀ k, row = some k → ∃ c fz, w.heap[k]? = some (.cells c e fz)) (hT : T ≠ e) : w'.heap[b]? = some (.cells c T (0, 0)) :=
  (hg.block b (lt_of_heap h) (fun e1 => by
    obtain ⟨c2, fz2, h3⟩ := hr b e1.symm
    rw [h] at h3
    injection h3 with h3
    injection h3 with _ h4 _
    exact hT h4)).trans h

theorem Nd.Row.keepB {w w' : World} {B : Nat} {v : Value} {es : List Nd.E} {p : Nat → Prop} (h : Nd.Row w B v es) (hk : KeepB p w w') (hp : ∀ k, p k → ∀ c e fz, w.heap[k]? = some (.cells c e fz) → e ≠ 42 ∧ e ≠ 114) : Nd.Row w' B v es := by
  refine ⟨⟨h.own.1, ?_⟩, fun e he => ⟨fun hl => ?_, (h.ats e he).2⟩, h.apart⟩
  · rcases h.own.2 with h' | ⟨g, cap, cur, h1, h2, h3, h4⟩
    · exact .inl h'
    · exact .inr ⟨g, cap, cur, h1, h2, (hk.block g (lt_of_heap h3) (fun hpg => (hp g hpg _ _ _ h3).1 rfl)).trans h3, h4⟩
  · obtain ⟨g, o, cu, e1, e2, e3, e4⟩ := (h.ats e he).1 hl
    exact ⟨g, o, cu, e1, e2, (hk.block g (lt_of_heap e3) (fun hpg => (hp g hpg _ _ _ e3).2 rfl)).trans e3, e4⟩

theorem Nd.Row.kind {w : World} {B : Nat} {v : Value} {es : List Nd.E} (h : Nd.Row w B v es) : ∀ k, v.ownBlock = some k → ∃ c fz, w.heap[k]? = some (.cells c 42 fz) := by
  intro k hk
  rcases h.own.2 with ⟨rfl, _⟩ | ⟨g, cap, cur, rfl, _, hh, _⟩
  · cases hk
  · have : g = k := Option.some.inj hk
    subst this
    exact ⟨_, _, hh⟩

end Go.Proofs.YteninofjeidljaaGreat

namespace Go.Proofs.YteninofjeidljaaGreat

open Go.RowKit

set_option linter.unusedVariables false

set_option linter.unusedSimpArgs false

theorem runU_le : ∀ (f : Nat) (l acc r : List UInt8), runU f l acc = some r → r.length ≤ acc.length + l.length := by
  intro f
  induction f with
  | zero => intro l acc r h; simp [runU] at h; subst h; omega
  | succ f ih =>
    intro l acc r h
    match l with
    | [] => simp [runU] at h; subst h; simp
    | c :: q =>
      rw [runU] at h
      match hr : readL (c :: q) with
      | none => rw [hr] at h; cases h
      | some (x, k) =>
        rw [hr] at h
        have := ih _ _ _ h
        have hk := readL_le _ _ _ hr
        rw [List.length_append, List.length_drop] at this
        simp at this hk ⊢
        omega

theorem unesc_le {l u : List UInt8} (h : unescL l = some u) : u.length ≤ l.length := by
  unfold unescL at h
  split at h
  · simpa using runU_le _ _ _ _ h
  · cases h

theorem bytesOf_size (l : List UInt8) : (bytesOf l).size = l.length := by unfold bytesOf; simp [ByteArray.size]

theorem atL_end {f : Nat} {l : List UInt8} {acc : List At} (h : ¬ l.head? = some 32) : atL (f + 1) l acc = some (acc, l) := by rw [atL, if_neg h]

theorem atL_bad1 {f : Nat} {l : List UInt8} {acc : List At} (h : l.head? = some 32) (h1 : ¬ (restL [61] l).take 2 = [61, 34]) : atL (f + 1) l acc = none := by rw [atL, if_pos h, if_neg h1]

theorem atL_bad2 {f : Nat} {l : List UInt8} {acc : List At} (h : l.head? = some 32) (h1 : (restL [61] l).take 2 = [61, 34]) (h2 : ¬ (restL [34, 60] ((restL [61] l).drop 2)).head? = some 34) : atL (f + 1) l acc = none := by rw [atL, if_pos h, if_pos h1, if_neg h2]

theorem atL_bad3 {f : Nat} {l : List UInt8} {acc : List At} (h : l.head? = some 32) (h1 : (restL [61] l).take 2 = [61, 34]) (h2 : (restL [34, 60] ((restL [61] l).drop 2)).head? = some 34) (h3 : unescL (tillL [34, 60] ((restL [61] l).drop 2)) = none) : atL (f + 1) l acc = none := by rw [atL, if_pos h, if_pos h1, if_pos h2, h3]

theorem atL_step {f : Nat} {l u : List UInt8} {acc : List At} (h : l.head? = some 32) (h1 : (restL [61] l).take 2 = [61, 34]) (h2 : (restL [34, 60] ((restL [61] l).drop 2)).head? = some 34) (h3 : unescL (tillL [34, 60] ((restL [61] l).drop 2)) = some u) :
    atL (f + 1) l acc = atL f ((restL [34, 60] ((restL [61] l).drop 2)).drop 1) (acc ++ [⟨bytesOf ((tillL [61] l).drop 1), bytesOf u⟩]) := by rw [atL, if_pos h, if_pos h1, if_pos h2, h3]

theorem take2_iff (s : ByteArray) (E : Nat) (a b : UInt8) : (s.data.toList.drop E).take 2 = [a, b] ↔ ∃ h : E + 1 < s.size, s[E] = a ∧ s[E + 1] = b := by
  rcases Nat.lt_or_ge E s.size with h | h
  · rw [drop_at s E h]
    rcases Nat.lt_or_ge (E + 1) s.size with h' | h'
    · rw [drop_at s (E + 1) h']
      simp only [List.take_succ_cons, List.take_zero, List.cons.injEq, and_true]
      exact ⟨fun e => ⟨h', e⟩, fun ⟨_, e⟩ => e⟩
    · rw [drop_end s (E + 1) h']
      constructor
      · intro e
        have := congrArg List.length e
        simp at this
      · rintro ⟨x, _⟩
        omega
  · rw [drop_end s E h]
    constructor
    · intro e
      cases e
    · rintro ⟨x, _⟩
      omega

theorem atC_snoc (l : List At) (x : At) : atC (l ++ [x]) = atC l ++ [.string x.name, .string x.value] := by
  unfold atC
  rw [List.flatMap_append]
  simp

theorem own_atRow {w : World} {B : Nat} {v : Value} {l : List At} (h : w.ownsRow B 114 2 v l.length (atC l)) : ∃ a cap, v = .slice a l.length cap ∧ AtRow w a l ∧ (∀ g o, a = some ⟨g, o, none⟩ → B ≤ g) := by
  rcases h.2 with ⟨rfl, h0⟩ | ⟨g, cap, cur, rfl, hg, hh, hn, hc, hs, ht⟩
  · exact ⟨none, 0, by rw [h0], fun j hj => by omega, fun g o e => by cases e⟩
  · refine ⟨some ⟨g, 0, none⟩, cap, rfl, fun j hj => ⟨g, 0, rfl, lt_of_heap hh, ?_, ?_⟩, fun g' o' e => by cases e; exact hg⟩
    · obtain ⟨c1, _⟩ := atC_get l j hj
      rw [Lib.cell_of_heap hh, Nat.zero_add, ← Array.getElem?_toList]
      rw [← ht, List.getElem?_take] at c1
      split at c1
      · exact c1
      · cases c1
    · obtain ⟨_, c2⟩ := atC_get l j hj
      rw [Lib.cell_of_heap hh, Nat.zero_add, ← Array.getElem?_toList]
      rw [← ht, List.getElem?_take] at c2
      split at c2
      · exact c2
      · cases c2

theorem add_plain7 (b o j : Nat) : (⟨b, o, none⟩ : Addr).add j = ⟨b, o + j, none⟩ := by unfold Addr.add; split <;> simp_all

theorem two_one (x y : ByteArray) : ∀ u ∈ [Value.string x, .string y], u.oneCell' = true := by
  intro u hu
  simp at hu
  rcases hu with rfl | rfl <;> rfl

end Go.Proofs.YteninofjeidljaaGreat

namespace Go.Proofs.YteninofjeidljaaGreat

open Go.RowKit

set_option linter.unusedVariables false

set_option linter.unusedSimpArgs false

/-- What ends a name in a tag; what ends the name of an attr. -/
def nameT (c : Nat) : Bool := c == 32 || c == 47 || c == 62

def eqT (c : Nat) : Bool := c == 61

/-- A list of signs is of that kind. -/
def Same (G : List UInt8) (T : Nat → Bool) : Prop := ∀ c : UInt8, G.contains c = T c.toNat

theorem u8_eq (c d : UInt8) : (c == d) = (c.toNat == d.toNat) := by
  rw [Bool.eq_iff_iff]
  simp [UInt8.toNat_inj]

theorem same_name : Same [32, 47, 62] nameT := fun c => by
  simp only [List.contains_cons, List.contains_nil, Bool.or_false, u8_eq]
  show (c.toNat == 32 || (c.toNat == 47 || c.toNat == 62)) = (c.toNat == 32 || c.toNat == 47 || c.toNat == 62)
  rw [Bool.or_assoc]

theorem same_eq : Same [61] eqT := fun c => by
  simp only [List.contains_cons, List.contains_nil, Bool.or_false, u8_eq]
  rfl

theorem same_val : Same [34, 60] valT := fun c => by
  simp only [List.contains_cons, List.contains_nil, Bool.or_false, u8_eq]
  rfl

theorem stop_rest {G : List UInt8} {T : Nat → Bool} (hG : Same G T) (s : ByteArray) : ∀ (d b q : Nat), q - b = d → StopsAt T s b q → restL G (s.data.toList.drop b) = s.data.toList.drop q ∧ tillL G (s.data.toList.drop b) = (s.data.toList.drop b).take (q - b) := by
  intro d
  induction d with
  | zero =>
    intro b q hd h
    obtain ⟨hge, ⟨hq, ht⟩, hno⟩ := h
    have : b = q := by omega
    subst this
    rw [drop_at s b hq]
    have hc : G.contains s[b] = true := by rw [hG]; exact ht
    refine ⟨by rw [restL, if_pos hc], by rw [till_cons_in hc]; simp⟩
  | succ d ih =>
    intro b q hd h
    obtain ⟨hge, ⟨hq, ht⟩, hno⟩ := h
    have hb : b < s.size := by omega
    have hc : G.contains s[b] = false := by rw [hG]; exact hno b hb (Nat.le_refl _) (by omega)
    obtain ⟨i1, i2⟩ := ih (b + 1) q (by omega) ⟨by omega, ⟨hq, ht⟩, fun i hi h1 h2 => hno i hi (by omega) h2⟩
    rw [drop_at s b hb, rest_cons_out hc, till_cons_out hc]
    refine ⟨i1, ?_⟩
    rw [i2]
    have : q - b = (q - (b + 1)) + 1 := by omega
    rw [this, List.take_succ_cons]

theorem stop_none {G : List UInt8} {T : Nat → Bool} (hG : Same G T) (s : ByteArray) : ∀ (d b : Nat), s.size - b = d → (∀ i (hi : i < s.size), b ≤ i → T s[i].toNat = false) → restL G (s.data.toList.drop b) = [] := by
  intro d
  induction d with
  | zero =>
    intro b hd h
    rw [drop_end s b (by omega)]
    rfl
  | succ d ih =>
    intro b hd h
    have hb : b < s.size := by omega
    have hc : G.contains s[b] = false := by rw [hG]; exact h b hb (Nat.le_refl _)
    rw [drop_at s b hb, rest_cons_out hc]
    exact ih (b + 1) (by omega) (fun i hi h1 => h i hi (by omega))

/-- What stands there, by its number. -/
theorem sgn_lt {s : ByteArray} {e c : Nat} (h : sgnAt s e = c) (hc : ¬ c = 0) : ∃ he : e < s.size, s[e].toNat = c := by
  unfold sgnAt at h
  split at h
  · rename_i he
    exact ⟨he, h⟩
  · omega

theorem sgn_head (s : ByteArray) (e : Nat) (c : UInt8) (hc : ¬ c.toNat = 0) : (s.data.toList.drop e).head? = some c ↔ sgnAt s e = c.toNat := by
  rw [head_iff]
  constructor
  · rintro ⟨he, h⟩
    unfold sgnAt
    rw [dif_pos he, h]
  · intro h
    obtain ⟨he, h'⟩ := sgn_lt h hc
    exact ⟨he, UInt8.toNat_inj.mp h'⟩

theorem atL_stop {s : ByteArray} {e f : Nat} {acc : List At} (h : ¬ sgnAt s e = 32) : atL (f + 1) (s.data.toList.drop e) acc = some (acc, s.data.toList.drop e) := atL_end (fun h' => h ((sgn_head s e 32 (by decide)).mp h'))

theorem rest_blank {s : ByteArray} {e : Nat} (h : sgnAt s e = 32) : restL [61] (s.data.toList.drop e) = restL [61] (s.data.toList.drop (e + 1)) ∧ (tillL [61] (s.data.toList.drop e)).drop 1 = tillL [61] (s.data.toList.drop (e + 1)) := by
  obtain ⟨he, h'⟩ := sgn_lt h (by decide)
  have hc : [61].contains s[e] = false := by rw [same_eq]; unfold eqT; rw [h']; rfl
  rw [drop_at s e he, rest_cons_out hc, till_cons_out hc]
  exact ⟨rfl, rfl⟩

/-- No = follows. -/
theorem atL_noEq {s : ByteArray} {e f : Nat} {acc : List At} (h : sgnAt s e = 32) (hno : ∀ i (hi : i < s.size), e + 1 ≤ i → eqT s[i].toNat = false) : atL (f + 1) (s.data.toList.drop e) acc = none := by
  refine atL_bad1 ((sgn_head s e 32 (by decide)).mpr h) ?_
  rw [(rest_blank h).1, stop_none same_eq s _ (e + 1) rfl hno]
  intro h'
  cases h'

/-- No value follows. -/
theorem atL_noVal {s : ByteArray} {e f q : Nat} {acc : List At} (h : sgnAt s e = 32) (hq : StopsAt eqT s (e + 1) q) (hv : ValBad s (q + 1)) : atL (f + 1) (s.data.toList.drop e) acc = none := by
  have hh := (sgn_head s e 32 (by decide)).mpr h
  have hr : restL [61] (s.data.toList.drop e) = s.data.toList.drop q := by rw [(rest_blank h).1, (stop_rest same_eq s _ (e + 1) q rfl hq).1]
  by_cases h1 : (restL [61] (s.data.toList.drop e)).take 2 = [61, 34]
  · refine atL_bad2 hh h1 ?_
    rw [hr] at h1 ⊢
    obtain ⟨hlt, e1, e2⟩ := (take2_iff s q 61 34).mp h1
    have h34 : ∃ h : q + 1 < s.size, s[q + 1].toNat = 34 := ⟨hlt, by rw [e2]; rfl⟩
    rcases hv with hv | ⟨-, hv⟩
    · exact absurd h34 hv
    · rw [List.drop_drop]
      intro hx
      by_cases hn : ∃ i, ∃ hi : i < s.size, q + 2 ≤ i ∧ valT s[i].toNat = true
      · obtain ⟨q3, h3⟩ : ∃ q3, StopsAt valT s (q + 2) q3 := by
          obtain ⟨i, hi, hi1, hi2⟩ := hn
          have : ∀ (d : Nat) (b : Nat), i - b = d → b ≤ i → ∃ q3, StopsAt valT s b q3 := by
            intro d
            induction d with
            | zero => intro b hd hb; exact ⟨i, hb, ⟨hi, hi2⟩, fun j hj h1 h2 => by omega⟩
            | succ d ih =>
              intro b hd hb
              have hbs : b < s.size := by omega
              by_cases hT : valT s[b].toNat = true
              · exact ⟨b, Nat.le_refl _, ⟨hbs, hT⟩, fun j hj h1 h2 => by omega⟩
              · obtain ⟨q3, a1, a2, a3⟩ := ih (b + 1) (by omega) (by omega)
                refine ⟨q3, by omega, a2, fun j hj h1 h2 => ?_⟩
                rcases Nat.lt_or_eq_of_le h1 with h' | h'
                · exact a3 j hj h' h2
                · subst h'; simpa using hT
          exact this _ (q + 2) rfl hi1
        rw [(stop_rest same_val s _ (q + 2) q3 rfl h3).1] at hx
        obtain ⟨hl, hx⟩ := (head_iff s q3 34).mp hx
        exact hv q3 h3 ⟨hl, by rw [hx]; rfl⟩
      · rw [stop_none same_val s _ (q + 2) rfl (fun i hi h1 => by
          cases hb : valT s[i].toNat with
          | true => exact absurd ⟨i, hi, h1, hb⟩ hn
          | false => rfl)] at hx
        cases hx
  · exact atL_bad1 hh h1

theorem val_at {s : ByteArray} {e q q3 : Nat} (h : sgnAt s e = 32) (hq : StopsAt eqT s (e + 1) q) (hv : ∃ h : q + 1 < s.size, s[q + 1].toNat = 34) (h3 : StopsAt valT s (q + 2) q3) (h4 : ∃ h : q3 < s.size, s[q3].toNat = 34) :
    (restL [61] (s.data.toList.drop e)).take 2 = [61, 34] ∧ (restL [34, 60] ((restL [61] (s.data.toList.drop e)).drop 2)) = s.data.toList.drop q3 ∧ tillL [34, 60] ((restL [61] (s.data.toList.drop e)).drop 2) = (s.extract (q + 2) q3).data.toList ∧ bytesOf ((tillL [61] (s.data.toList.drop e)).drop 1) = s.extract (e + 1) q := by
  have hr : restL [61] (s.data.toList.drop e) = s.data.toList.drop q := by rw [(rest_blank h).1, (stop_rest same_eq s _ (e + 1) q rfl hq).1]
  rw [hr, List.drop_drop]
  obtain ⟨hlt, hv⟩ := hv
  obtain ⟨hql, ht⟩ := hq.2.1
  refine ⟨(take2_iff s q 61 34).mpr ⟨hlt, ?_, UInt8.toNat_inj.mp hv⟩, (stop_rest same_val s _ (q + 2) q3 rfl h3).1, ?_, ?_⟩
  · unfold eqT at ht
    exact UInt8.toNat_inj.mp (by simpa using ht)
  · rw [(stop_rest same_val s _ (q + 2) q3 rfl h3).2, ext_list7]
  · rw [(rest_blank h).2, (stop_rest same_eq s _ (e + 1) q rfl hq).2]
    exact (ext_bytes s (e + 1) q _ rfl).symm

/-- A value that is no value. -/
theorem atL_badVal {s : ByteArray} {e f q q3 : Nat} {acc : List At} (h : sgnAt s e = 32) (hq : StopsAt eqT s (e + 1) q) (hv : ∃ h : q + 1 < s.size, s[q + 1].toNat = 34) (h3 : StopsAt valT s (q + 2) q3) (h4 : ∃ h : q3 < s.size, s[q3].toNat = 34) (hu : unescL (s.extract (q + 2) q3).data.toList = none) : atL (f + 1) (s.data.toList.drop e) acc = none := by
  obtain ⟨a1, a2, a3, a4⟩ := val_at h hq hv h3 h4
  refine atL_bad3 ((sgn_head s e 32 (by decide)).mpr h) a1 ?_ (by rw [a3]; exact hu)
  rw [a2, head_iff]
  obtain ⟨hl, hx⟩ := h4
  exact ⟨hl, UInt8.toNat_inj.mp hx⟩

/-- An attr more. -/
theorem atL_val {s : ByteArray} {e f q q3 : Nat} {acc : List At} {u : List UInt8} (h : sgnAt s e = 32) (hq : StopsAt eqT s (e + 1) q) (hv : ∃ h : q + 1 < s.size, s[q + 1].toNat = 34) (h3 : StopsAt valT s (q + 2) q3) (h4 : ∃ h : q3 < s.size, s[q3].toNat = 34) (hu : unescL (s.extract (q + 2) q3).data.toList = some u) :
    atL (f + 1) (s.data.toList.drop e) acc = atL f (s.data.toList.drop (q3 + 1)) (acc ++ [⟨s.extract (e + 1) q, bytesOf u⟩]) := by
  obtain ⟨a1, a2, a3, a4⟩ := val_at h hq hv h3 h4
  have a5 : (restL [34, 60] ((restL [61] (s.data.toList.drop e)).drop 2)).head? = some 34 := by
    rw [a2, head_iff]
    obtain ⟨hl, hx⟩ := h4
    exact ⟨hl, UInt8.toNat_inj.mp hx⟩
  rw [atL_step ((sgn_head s e 32 (by decide)).mpr h) a1 a5 (by rw [a3]; exact hu), a2, a4, List.drop_drop]

end Go.Proofs.YteninofjeidljaaGreat

namespace Go.Proofs.YteninofjeidljaaGreat

open Go.RowKit

set_option linter.unusedVariables false

set_option linter.unusedSimpArgs false

theorem heap_twoR (w : World) (o1 o2 : Obj) : ((w.alloc o1).alloc o2).heap[w.heap.size + 1]? = some o2 := (heap2 w o1 o2).2

theorem kb_above {p : Nat → Prop} {w wr : World} (h : KeepB p w wr) (b i : Nat) (u : Value) (hb : w.heap.size ≤ b) : KeepB p w (wr.setCell ⟨b, i, none⟩ u) :=
  have k := (Below.refl w.heap.size wr).setCell (p := ⟨b, i, none⟩) hb u
  ⟨k.os.trans h.os, k.tape.trans h.tape, k.output.trans h.output, Nat.le_trans h.size k.size, fun i hi hr => (k.block i hi).trans (h.block i hi hr)⟩

theorem Rdr.other {w : World} {g : Nat} {s : ByteArray} {p m : Nat} {tx : ByteArray} {v : Value} (h : Rdr w g s p m tx v) (b i : Nat) (u : Value) (hne : ¬ g = b) : Rdr (w.setCell ⟨b, i, none⟩ u) g s p m tx v := ⟨(heap_setCell_other w ⟨b, i, none⟩ g u hne).trans h.heap⟩

/-- The boxes of a tag and of an attr. -/
structure Boxes (w wr : World) (nm : ByteArray) (ta : Option Addr) (n tc : Nat) (x y : ByteArray) : Prop where
  tag : wr.heap[w.heap.size]? = some (.cells #[.int .i64 1, .string nm, .slice ta n tc, .string ⟨#[]⟩] 49 (0, 0))
  att : wr.heap[w.heap.size + 1]? = some (.cells #[.string x, .string y] 114 (0, 0))

section

variable {w wr w' : World} {nm : ByteArray} {ta : Option Addr} {n tc g : Nat} {x y : ByteArray}

theorem Boxes.keep (h : Boxes w wr nm ta n tc x y) (hk : KeepB (fun k => k = g) wr w') (hg : g < w.heap.size) : Boxes w w' nm ta n tc x y :=
  ⟨(hk.block _ (lt_of_heap h.tag) (fun e : w.heap.size = g => by omega)).trans h.tag, (hk.block _ (lt_of_heap h.att) (fun e : w.heap.size + 1 = g => by omega)).trans h.att⟩

theorem Boxes.below (h : Boxes w wr nm ta n tc x y) (hb : Below wr.heap.size wr w') : Boxes w w' nm ta n tc x y :=
  ⟨(hb.block _ (lt_of_heap h.tag)).trans h.tag, (hb.block _ (lt_of_heap h.att)).trans h.att⟩

theorem Boxes.setName (h : Boxes w wr nm ta n tc x y) (X : ByteArray) : Boxes w (wr.setCell ⟨w.heap.size, 1, none⟩ (.string X)) X ta n tc x y :=
  ⟨heap_setCell_same wr w.heap.size 1 _ _ _ h.tag, (heap_setCell_other wr ⟨w.heap.size, 1, none⟩ (w.heap.size + 1) _ (by show ¬ w.heap.size + 1 = w.heap.size; omega)).trans h.att⟩

theorem Boxes.setAtN (h : Boxes w wr nm ta n tc x y) (X : ByteArray) : Boxes w (wr.setCell ⟨w.heap.size + 1, 0, none⟩ (.string X)) nm ta n tc X y :=
  ⟨(heap_setCell_other wr ⟨w.heap.size + 1, 0, none⟩ w.heap.size _ (by show ¬ w.heap.size = w.heap.size + 1; omega)).trans h.tag, heap_setCell_same wr (w.heap.size + 1) 0 _ _ _ h.att⟩

theorem Boxes.setAtV (h : Boxes w wr nm ta n tc x y) (X : ByteArray) : Boxes w (wr.setCell ⟨w.heap.size + 1, 1, none⟩ (.string X)) nm ta n tc x X :=
  ⟨(heap_setCell_other wr ⟨w.heap.size + 1, 1, none⟩ w.heap.size _ (by show ¬ w.heap.size = w.heap.size + 1; omega)).trans h.tag, heap_setCell_same wr (w.heap.size + 1) 1 _ _ _ h.att⟩

theorem Boxes.cellsT (h : Boxes w wr nm ta n tc x y) : wr.cell? ⟨w.heap.size, 0, none⟩ = some (.int .i64 1) ∧ wr.cell? ⟨w.heap.size, 1, none⟩ = some (.string nm) ∧ wr.cell? ⟨w.heap.size, 2, none⟩ = some (.slice ta n tc) ∧ wr.cell? ⟨w.heap.size, 3, none⟩ = some (.string ⟨#[]⟩) ∧ ∀ j, wr.frozen? ⟨w.heap.size, j, none⟩ = false :=
  ⟨by rw [Lib.cell_of_heap h.tag]; rfl, by rw [Lib.cell_of_heap h.tag]; rfl, by rw [Lib.cell_of_heap h.tag]; rfl, by rw [Lib.cell_of_heap h.tag]; rfl, fun j => Lib.frozen_of_heap h.tag j⟩

theorem Boxes.cellsA (h : Boxes w wr nm ta n tc x y) : wr.cell? ⟨w.heap.size + 1, 0, none⟩ = some (.string x) ∧ wr.cell? ⟨w.heap.size + 1, 1, none⟩ = some (.string y) ∧ ∀ j, wr.frozen? ⟨w.heap.size + 1, j, none⟩ = false :=
  ⟨by rw [Lib.cell_of_heap h.att]; rfl, by rw [Lib.cell_of_heap h.att]; rfl, fun j => Lib.frozen_of_heap h.att j⟩

end

/-- While the name is read. -/
structure NmSt (g : Nat) (s : ByteArray) (p : Nat) (tx : ByteArray) (v : Value) (w : World) (q : Nat) (wr : World) : Prop where
  rdr : Rdr wr g s q p tx v
  kp : KeepB (fun k => k = g) w wr
  ge : p + 1 ≤ q
  le : q ≤ s.size
  no : ∀ i (hi : i < s.size), p + 1 ≤ i → i < q → nameT s[i].toNat = false
  box : Boxes w wr ⟨#[]⟩ none 0 0 ⟨#[]⟩ ⟨#[]⟩

/-- While attrs are read: at e stands what is behind the last part. -/
structure OpSt (g : Nat) (s : ByteArray) (p : Nat) (tx : ByteArray) (v : Value) (w : World) (e f : Nat) (acc : List At) (ta : Option Addr) (tc m : Nat) (x y : ByteArray) (q : Nat) (wr : World) : Prop where
  rdr : Rdr wr g s q m tx v
  kp : KeepB (fun k => k = g) w wr
  box : ∃ e1, StopsAt nameT s (p + 1) e1 ∧ Boxes w wr (s.extract p e1) ta acc.length tc x y ∧ atL f (s.data.toList.drop e) acc = atL (s.size + 1) (s.data.toList.drop e1) []
  own : wr.ownsRow (w.heap.size + 2) 114 2 (.slice ta acc.length tc) acc.length (atC acc)
  fu : s.size - e < f
  le : e ≤ s.size
  few : acc.length ≤ e
  sz : AtSz 4000 acc

/-- On the way to the sign behind an attr's name. -/
structure AtSt (s : ByteArray) (e q : Nat) : Prop where
  ge : e + 1 ≤ q
  le : q ≤ s.size
  no : ∀ i (hi : i < s.size), e + 1 ≤ i → i < q → eqT s[i].toNat = false
  bl : sgnAt s e = 32

section

variable {g : Nat} {s : ByteArray} {p : Nat} {tx : ByteArray} {v : Value} {w wr w' : World} {q : Nat}

theorem NmSt.more (h : NmSt g s p tx v w q wr) (hg : g < w.heap.size) (hq : q < s.size) (h2 : nameT s[q].toNat = false) (hr : Rdr w' g s (q + 1) p tx v) (hk : KeepB (fun k => k = g) wr w') : NmSt g s p tx v w (q + 1) w' :=
  ⟨hr, h.kp.trans hk, Nat.le_succ_of_le h.ge, hq, fun i hi h1 h3 => by
    rcases Nat.lt_or_eq_of_le (Nat.le_of_lt_succ h3) with h' | h'
    · exact h.no i hi h1 h'
    · subst h'; exact h2, h.box.keep hk hg⟩

theorem NmSt.found (h : NmSt g s p tx v w q wr) (hq : q < s.size) (h2 : nameT s[q].toNat = true) : StopsAt nameT s (p + 1) q := ⟨h.ge, ⟨hq, h2⟩, h.no⟩

theorem NmSt.noName (h : NmSt g s p tx v w q wr) (hq : ¬ q < s.size) : ∀ q2, ¬ StopsAt nameT s (p + 1) q2 := fun q2 h2 => by
  obtain ⟨hq2, ht⟩ := h2.2.1
  rw [h.no q2 hq2 h2.1 (by have := h.le; omega)] at ht
  cases ht

/-- The name is read: the first part begins. -/
theorem NmSt.part (h : NmSt g s p tx v w q wr) (hg : g < w.heap.size) (hq : q < s.size) (h2 : nameT s[q].toNat = true) {w2 : World} (hr : Rdr w2 g s (q + 1) p tx v) (hk : KeepB (fun k => k = g) wr w2) (hb : Below w2.heap.size w2 w') :
    OpSt g s p tx v w q (s.size + 1) [] none 0 p ⟨#[]⟩ ⟨#[]⟩ (q + 1) (w'.setCell ⟨w.heap.size, 1, none⟩ (.string (s.extract p q))) :=
  ⟨(hr.below hb).other w.heap.size 1 _ (by omega), kb_above ((h.kp.trans hk).trans (KeepB.of_below _ hb)) _ _ _ (Nat.le_refl _), ⟨q, h.found hq h2, ((h.box.keep hk hg).below hb).setName _, rfl⟩, World.ownsRow_nil _ _ _ _, by omega, by omega, Nat.zero_le _, fun x hx => absurd hx List.not_mem_nil⟩

end

theorem own_same {w w' : World} {base T sz n : Nat} {u : Value} {xs : List Value} (h : w.ownsRow base T sz u n xs) (hs : ∀ b, base ≤ b → b < w.heap.size → w'.heap[b]? = w.heap[b]?) : w'.ownsRow base T sz u n xs := by
  refine ⟨h.1, ?_⟩
  rcases h.2 with h' | ⟨g1, cap, cur, h1, h2, h3, h4⟩
  · exact .inl h'
  · exact .inr ⟨g1, cap, cur, h1, h2, (hs g1 h2 (lt_of_heap h3)).trans h3, h4⟩

section

variable {g : Nat} {s : ByteArray} {p : Nat} {tx : ByteArray} {v : Value} {w wr w' : World} {e f : Nat} {acc : List At} {ta : Option Addr} {tc m m' : Nat} {x y : ByteArray} {q q' : Nat}

theorem OpSt.keep (h : OpSt g s p tx v w e f acc ta tc m x y q wr) (hg : g < w.heap.size) (hr : Rdr w' g s q' m' tx v) (hk : KeepB (fun k => k = g) wr w') : OpSt g s p tx v w e f acc ta tc m' x y q' w' := by
  obtain ⟨e1, b1, b2, b3⟩ := h.box
  exact ⟨hr, h.kp.trans hk, ⟨e1, b1, b2.keep hk hg, b3⟩, own_same h.own (fun b hb hl => hk.block b hl (fun e : b = g => by omega)), h.fu, h.le, h.few, h.sz⟩

theorem OpSt.below (h : OpSt g s p tx v w e f acc ta tc m x y q wr) (hb : Below wr.heap.size wr w') : OpSt g s p tx v w e f acc ta tc m x y q w' := by
  obtain ⟨e1, b1, b2, b3⟩ := h.box
  exact ⟨h.rdr.below hb, h.kp.trans (KeepB.of_below _ hb), ⟨e1, b1, b2.below hb, b3⟩, own_same h.own (fun b _ hl => hb.block b hl), h.fu, h.le, h.few, h.sz⟩

theorem OpSt.setX (h : OpSt g s p tx v w e f acc ta tc m x y q wr) (hg : g < w.heap.size) (X : ByteArray) : OpSt g s p tx v w e f acc ta tc m X y q (wr.setCell ⟨w.heap.size + 1, 0, none⟩ (.string X)) := by
  obtain ⟨e1, b1, b2, b3⟩ := h.box
  exact ⟨h.rdr.other _ _ _ (by omega), kb_above h.kp _ _ _ (by omega), ⟨e1, b1, b2.setAtN X, b3⟩, own_same h.own (fun b hb _ => heap_setCell_other wr ⟨w.heap.size + 1, 0, none⟩ b _ (by show ¬ b = w.heap.size + 1; omega)), h.fu, h.le, h.few, h.sz⟩

theorem OpSt.setY (h : OpSt g s p tx v w e f acc ta tc m x y q wr) (hg : g < w.heap.size) (X : ByteArray) : OpSt g s p tx v w e f acc ta tc m x X q (wr.setCell ⟨w.heap.size + 1, 1, none⟩ (.string X)) := by
  obtain ⟨e1, b1, b2, b3⟩ := h.box
  exact ⟨h.rdr.other _ _ _ (by omega), kb_above h.kp _ _ _ (by omega), ⟨e1, b1, b2.setAtV X, b3⟩, own_same h.own (fun b hb _ => heap_setCell_other wr ⟨w.heap.size + 1, 1, none⟩ b _ (by show ¬ b = w.heap.size + 1; omega)), h.fu, h.le, h.few, h.sz⟩

theorem OpSt.fuel (h : OpSt g s p tx v w e f acc ta tc m x y q wr) : ∃ f', f = f' + 1 := ⟨f - 1, by have := h.fu; omega⟩

theorem OpSt.noAt (h : OpSt g s p tx v w e f acc ta tc m x y q wr) (ha : ∀ f', atL (f' + 1) (s.data.toList.drop e) acc = none) : ∃ e1, StopsAt nameT s (p + 1) e1 ∧ atL (s.size + 1) (s.data.toList.drop e1) [] = none := by
  obtain ⟨e1, b1, b2, b3⟩ := h.box
  obtain ⟨f', rfl⟩ := h.fuel
  exact ⟨e1, b1, by rw [← b3]; exact ha f'⟩

theorem OpSt.stops (h : OpSt g s p tx v w e f acc ta tc m x y q wr) (ha : ¬ sgnAt s e = 32) : ∃ e1, StopsAt nameT s (p + 1) e1 ∧ Boxes w wr (s.extract p e1) ta acc.length tc x y ∧ atL (s.size + 1) (s.data.toList.drop e1) [] = some (acc, s.data.toList.drop e) := by
  obtain ⟨e1, b1, b2, b3⟩ := h.box
  obtain ⟨f', rfl⟩ := h.fuel
  exact ⟨e1, b1, b2, by rw [← b3]; exact atL_stop ha⟩

theorem own_atL {w : World} {B : Nat} {a : Option Addr} {c n : Nat} {l : List At} (h : w.ownsRow B 114 2 (.slice a n c) n (atC l)) (hl : l.length = n) : OwnAts w B a l := by
  rcases h.2 with ⟨_, h0⟩ | ⟨g, cp, cur, e, hg, hh, hn, hc, hs, ht⟩
  · exact fun hl => by omega
  · cases e
    refine fun _ => ⟨g, 0, cur, rfl, hg, hh, fun j hj => ?_⟩
    obtain ⟨g1, g2⟩ := atC_get l j hj
    rw [← ht, List.getElem?_take] at g1 g2
    refine ⟨?_, ?_⟩
    · rw [Nat.zero_add, ← Array.getElem?_toList]
      split at g1
      · exact g1
      · cases g1
    · rw [Nat.zero_add, ← Array.getElem?_toList]
      split at g2
      · exact g2
      · cases g2

theorem OpSt.fit (h : OpSt g s p tx v w e f acc ta tc m x y q wr) {B p' m' : Nat} {es : List Tn.E} (hT : RdT w B g s p' m' tx v es) (t : Tk) (ht : t.attrs = acc) : Fit wr B v es ⟨t, ta, tc⟩ := by
  subst ht
  have ho := own_atL h.own rfl
  refine ⟨fun hl => ?_, fun g o hl e1 x => ?_, fun x hx hl hl' g o g' o' e1 e2 y => ?_⟩
  · obtain ⟨g1, o1, cu, a1, a2, a3⟩ := ho hl
    exact ⟨g1, o1, cu, a1, by have := hT.le; omega, a3⟩
  · obtain ⟨g2, o2, cu2, b1, b2, _⟩ := ho hl
    simp only at e1
    rw [e1] at b1
    cases b1
    have := (hT.row.own.lt g x).2
    omega
  · subst y
    obtain ⟨g1, o1, cu, a1, _, a3, _⟩ := (hT.row.ats x hx).1 hl
    obtain ⟨g2, o2, cu2, b1, b2, _⟩ := ho hl'
    rw [e1] at a1
    simp only at e2
    rw [e2] at b1
    cases a1
    cases b1
    have := lt_of_heap a3
    omega

theorem OpSt.tkSz (h : OpSt g s p tx v w e f acc ta tc m x y q wr) (hs : s.size ≤ 4000) (e1 : Nat) : TkSz 1048576 ⟨1, s.extract p e1, acc, ⟨#[]⟩⟩ :=
  ⟨by show (s.extract p e1).size ≤ _; rw [ByteArray.size_extract]; omega, by show acc.length ≤ _; have := h.few; have := h.le; omega, fun x hx => by have := h.sz x hx; omega, Nat.zero_le _⟩

theorem OpSt.push (h : OpSt g s p tx v w e f acc ta tc m x y q wr) (hg : g < w.heap.size) {w5 : World} {a' : Option Addr} {c' : Nat}
    (ho : w5.ownsRow (w.heap.size + 2) 114 2 (.slice a' (acc.length + 1) c') (acc.length + 1) (atC acc ++ [.string x, .string y]))
    (hgr : (wr.alloc (.cells #[.string x, .string y] 114)).grownBy w5 (Value.slice ta acc.length tc).ownBlock)
    {q3 : Nat} (hat : ∀ f', atL (f' + 1) (s.data.toList.drop e) acc = atL f' (s.data.toList.drop (q3 + 1)) (acc ++ [⟨x, y⟩])) (hq : e ≤ q3) (hq3 : q3 < s.size) (hx : x.size ≤ 4000) (hy : y.size ≤ 4000) :
    (w5.cell? ⟨w.heap.size, 2, none⟩ = some (.slice ta acc.length tc) ∧ w5.frozen? ⟨w.heap.size, 2, none⟩ = false) ∧ ∃ f', OpSt g s p tx v w (q3 + 1) f' (acc ++ [⟨x, y⟩]) a' c' m x y q (w5.setCell ⟨w.heap.size, 2, none⟩ (.slice a' (acc.length + 1) c')) := by
  obtain ⟨e1, b1, b2, b3⟩ := h.box
  obtain ⟨f', hf⟩ := h.fuel
  subst hf
  have hl := lt_of_heap b2.att
  have same : ∀ b, b < w.heap.size + 2 → w5.heap[b]? = wr.heap[b]? := fun b hb =>
    (hgr.block b (by simp; omega) (fun e => by have := (h.own.lt b e.symm).1; omega)).trans (Below.heap_alloc wr _ b (by omega))
  have hT5 := (same w.heap.size (by omega)).trans b2.tag
  have hA5 := (same (w.heap.size + 1) (by omega)).trans b2.att
  have hR5 : Rdr w5 g s q m tx v := ⟨(same g (by omega)).trans h.rdr.heap⟩
  have hK5 : KeepB (fun k => k = g) w w5 := ⟨hgr.os.trans h.kp.os, hgr.tape.trans h.kp.tape, hgr.output.trans h.kp.output, Nat.le_trans h.kp.size (Nat.le_trans (by simp) hgr.size), fun i hi hr => (same i (by omega)).trans (h.kp.block i hi hr)⟩
  have hln : (acc ++ [(⟨x, y⟩ : At)]).length = acc.length + 1 := by rw [List.length_append]; rfl
  refine ⟨⟨by rw [Lib.cell_of_heap hT5]; rfl, Lib.frozen_of_heap hT5 2⟩, f', hR5.other _ _ _ (by omega), kb_above hK5 _ _ _ (Nat.le_refl _), ⟨e1, b1, ⟨?_, ?_⟩, ?_⟩, ?_, ?_, hq3, ?_, ?_⟩
  · rw [hln]
    exact heap_setCell_same w5 w.heap.size 2 _ _ _ hT5
  · exact (heap_setCell_other w5 ⟨w.heap.size, 2, none⟩ (w.heap.size + 1) _ (by show ¬ w.heap.size + 1 = w.heap.size; omega)).trans hA5
  · rw [← b3, hat f']
  · rw [hln, atC_snoc]
    exact own_same ho (fun b hb _ => heap_setCell_other w5 ⟨w.heap.size, 2, none⟩ b _ (by show ¬ b = w.heap.size; omega))
  · have := h.fu
    omega
  · rw [hln]
    have := h.few
    omega
  · intro z hz
    rcases List.mem_append.1 hz with h' | h'
    · exact h.sz z h'
    · rw [List.mem_singleton] at h'
      subst h'
      exact ⟨hx, hy⟩

theorem AtSt.more {s : ByteArray} {e q : Nat} (h : AtSt s e q) (hq : q < s.size) (h2 : ¬ s[q].toNat = 61) : AtSt s e (q + 1) :=
  ⟨Nat.le_succ_of_le h.ge, hq, fun i hi h1 h3 => by
    rcases Nat.lt_or_eq_of_le (Nat.le_of_lt_succ h3) with h' | h'
    · exact h.no i hi h1 h'
    · subst h'; unfold eqT; simpa using h2, h.bl⟩

end

/-- What opening answers. -/
inductive OpPost (B g : Nat) (s : ByteArray) (p : Nat) (tx : ByteArray) (es : List Tn.E) (w : World) (x : Ending) (w' : World) : Prop
  | noName : (∀ q, ¬ StopsAt nameT s (p + 1) q) → Below g w w' → x = .returned (.bool false) → OpPost B g s p tx es w x w'
  | badAt (e1 : Nat) : StopsAt nameT s (p + 1) e1 → atL (s.size + 1) (s.data.toList.drop e1) [] = none → Below g w w' → x = .returned (.bool false) → OpPost B g s p tx es w x w'
  | odd (e1 e : Nat) (acc : List At) : StopsAt nameT s (p + 1) e1 → atL (s.size + 1) (s.data.toList.drop e1) [] = some (acc, s.data.toList.drop e) → ¬ sgnAt s e = 62 → ¬ (sgnAt s e = 47 ∧ sgnAt s (e + 1) = 62) → Below g w w' → x = .returned (.bool false) → OpPost B g s p tx es w x w'
  | opens (e1 e : Nat) (acc : List At) : StopsAt nameT s (p + 1) e1 → atL (s.size + 1) (s.data.toList.drop e1) [] = some (acc, s.data.toList.drop e) → sgnAt s e = 62 → x = .returned (.bool (decide (es.length + 1 ≤ 120) && tokB ⟨1, s.extract p e1, acc, ⟨#[]⟩⟩)) → Below g w w' → (∃ m v' ta tc, RdT w' B g s (e + 1) m tx v' (es ++ [⟨⟨1, s.extract p e1, acc, ⟨#[]⟩⟩, ta, tc⟩])) → OpPost B g s p tx es w x w'
  | whole (e1 e : Nat) (acc : List At) : StopsAt nameT s (p + 1) e1 → atL (s.size + 1) (s.data.toList.drop e1) [] = some (acc, s.data.toList.drop e) → sgnAt s e = 47 → sgnAt s (e + 1) = 62 → (decide (es.length + 1 ≤ 120) && tokB ⟨1, s.extract p e1, acc, ⟨#[]⟩⟩) = true → x = .returned (.bool (decide (es.length + 2 ≤ 120) && tokB ⟨2, s.extract p e1, [], ⟨#[]⟩⟩)) → Below g w w' → (∃ m v' ta tc, RdT w' B g s (e + 2) m tx v' (es ++ [⟨⟨1, s.extract p e1, acc, ⟨#[]⟩⟩, ta, tc⟩] ++ [⟨⟨2, s.extract p e1, [], ⟨#[]⟩⟩, none, 0⟩])) → OpPost B g s p tx es w x w'
  | wholeBad (e1 e : Nat) (acc : List At) : StopsAt nameT s (p + 1) e1 → atL (s.size + 1) (s.data.toList.drop e1) [] = some (acc, s.data.toList.drop e) → sgnAt s e = 47 → sgnAt s (e + 1) = 62 → (decide (es.length + 1 ≤ 120) && tokB ⟨1, s.extract p e1, acc, ⟨#[]⟩⟩) = false → Below g w w' → x = .returned (.bool false) → OpPost B g s p tx es w x w'

/-- The code of the first scope. -/
def scopeIn : Code → Option Code
  | .scope c => some c
  | .seq a b => match scopeIn a with
    | some c => some c
    | none => scopeIn b
  | _ => none

theorem at_scope {o : Option Code} {c' : Code} {P : Code → Prop} (h : o = some c') (H : P c') : ∀ c, o = some c → P c := fun c hc => by
  rw [h] at hc
  cases hc
  exact H

/-- What holds at label 0 of opening. -/
abbrev OJ0 (g : Nat) (s : ByteArray) (p : Nat) (tx : ByteArray) (v : Value) (w : World) : Act → World → Prop := fun a' w' => ∃ (q : Nat) (u5 u6 u7 u8 u9 u10 u11 u12 u13 u14 u15 u16 u17 u18 u19 u20 u21 u22 u23 u24 u25 u26 u27 u28 u29 u30 u31 u32 u33 u34 u35 u36 u37 u38 u39 u40 u41 u42 u43 u44 u45 u46 u47 u48 u49 u50 u51 u52 u53 u54 u55 u56 u57 u58 u59 u60 u61 u62 u63 u64 u65 u66 u67 u68 u69 u70 u71 u72 u73 : Value), a' = { tmps := #[.pointer (some ⟨g, 0, none⟩), undef, .bool false, .pointer (some ⟨w.heap.size, 0, none⟩), .pointer (some ⟨w.heap.size + 1, 0, none⟩), u5, u6, u7, u8, u9, u10, u11, u12, u13, u14, u15, u16, u17, u18, u19, u20, u21, u22, u23, u24, u25, u26, u27, u28, u29, u30, u31, u32, u33, u34, u35, u36, u37, u38, u39, u40, u41, u42, u43, u44, u45, u46, u47, u48, u49, u50, u51, u52, u53, u54, u55, u56, u57, u58, u59, u60, u61, u62, u63, u64, u65, u66, u67, u68, u69, u70, u71, u72, u73], defers := [] } ∧ Hid (NmSt g s p tx v w q w')

/-- What holds at label 1 of opening. -/
abbrev OJ1 (g : Nat) (s : ByteArray) (p : Nat) (tx : ByteArray) (v : Value) (w : World) : Act → World → Prop := fun a' w' => ∃ (e ch f : Nat) (acc : List At) (ta : Option Addr) (tc m : Nat) (x y : ByteArray) (u5 u7 u8 u9 u10 u11 u12 u13 u14 u15 u16 u17 u18 u19 u20 u21 u22 u23 u24 u25 u26 u27 u28 u29 u30 u31 u32 u33 u34 u35 u36 u37 u38 u39 u40 u41 u42 u43 u44 u45 u46 u47 u48 u49 u50 u51 u52 u53 u54 u55 u56 u57 u58 u59 u60 u61 u62 u63 u64 u65 u66 u67 u68 u69 u70 u71 u72 u73 : Value), a' = { tmps := #[.pointer (some ⟨g, 0, none⟩), undef, .bool false, .pointer (some ⟨w.heap.size, 0, none⟩), .pointer (some ⟨w.heap.size + 1, 0, none⟩), u5, .int .u8 (ch : Nat), u7, u8, u9, u10, u11, u12, u13, u14, u15, u16, u17, u18, u19, u20, u21, u22, u23, u24, u25, u26, u27, u28, u29, u30, u31, u32, u33, u34, u35, u36, u37, u38, u39, u40, u41, u42, u43, u44, u45, u46, u47, u48, u49, u50, u51, u52, u53, u54, u55, u56, u57, u58, u59, u60, u61, u62, u63, u64, u65, u66, u67, u68, u69, u70, u71, u72, u73], defers := [] } ∧ Hid (OpSt g s p tx v w e f acc ta tc m x y (e + 1) w' ∧ sgnAt s e = ch)

/-- What holds at label 2 of opening. -/
abbrev OJ2 (g : Nat) (s : ByteArray) (p : Nat) (tx : ByteArray) (v : Value) (w : World) : Act → World → Prop := fun a' w' => ∃ (e f q : Nat) (acc : List At) (ta : Option Addr) (tc : Nat) (x y : ByteArray) (u5 u6 u7 u8 u9 u10 u11 u12 u13 u14 u15 u16 u17 u18 u19 u20 u21 u22 u23 u24 u25 u26 u27 u28 u29 u30 u31 u32 u33 u34 u35 u36 u37 u38 u39 u40 u41 u42 u43 u44 u45 u46 u47 u48 u49 u50 u51 u52 u53 u54 u55 u56 u57 u58 u59 u60 u61 u62 u63 u64 u65 u66 u67 u68 u69 u70 u71 u72 u73 : Value), a' = { tmps := #[.pointer (some ⟨g, 0, none⟩), undef, .bool false, .pointer (some ⟨w.heap.size, 0, none⟩), .pointer (some ⟨w.heap.size + 1, 0, none⟩), u5, u6, u7, u8, u9, u10, u11, u12, u13, u14, u15, u16, u17, u18, u19, u20, u21, u22, u23, u24, u25, u26, u27, u28, u29, u30, u31, u32, u33, u34, u35, u36, u37, u38, u39, u40, u41, u42, u43, u44, u45, u46, u47, u48, u49, u50, u51, u52, u53, u54, u55, u56, u57, u58, u59, u60, u61, u62, u63, u64, u65, u66, u67, u68, u69, u70, u71, u72, u73], defers := [] } ∧ Hid (OpSt g s p tx v w e f acc ta tc (e + 1) x y q w' ∧ AtSt s e q)

/-- What holds at label 3 of opening. -/
abbrev OJ3 (g : Nat) (s : ByteArray) (p : Nat) (tx : ByteArray) (v : Value) (w : World) : Act → World → Prop := fun a' w' => ∃ (e f q : Nat) (acc : List At) (ta : Option Addr) (tc : Nat) (y : ByteArray) (u5 u6 u7 u8 u9 u10 u11 u12 u13 u14 u15 u16 u17 u18 u19 u20 u21 u22 u23 u24 u25 u26 u27 u28 u29 u30 u31 u32 u33 u34 u35 u36 u37 u38 u39 u40 u41 u42 u43 u44 u45 u46 u47 u48 u49 u50 u51 u52 u53 u54 u55 u56 u57 u58 u59 u60 u61 u62 u63 u64 u65 u66 u67 u68 u69 u70 u71 u72 u73 : Value), a' = { tmps := #[.pointer (some ⟨g, 0, none⟩), undef, .bool false, .pointer (some ⟨w.heap.size, 0, none⟩), .pointer (some ⟨w.heap.size + 1, 0, none⟩), u5, u6, u7, u8, u9, u10, u11, u12, u13, u14, u15, u16, u17, u18, u19, u20, u21, u22, u23, u24, u25, u26, u27, u28, u29, u30, u31, u32, u33, u34, u35, u36, u37, u38, u39, u40, u41, u42, u43, u44, u45, u46, u47, u48, u49, u50, u51, u52, u53, u54, u55, u56, u57, u58, u59, u60, u61, u62, u63, u64, u65, u66, u67, u68, u69, u70, u71, u72, u73], defers := [] } ∧ Hid (OpSt g s p tx v w e f acc ta tc (e + 1) (s.extract (e + 1) q) y (q + 1) w' ∧ StopsAt eqT s (e + 1) q ∧ sgnAt s e = 32)

/-- What holds at each. -/
abbrev OJ (g : Nat) (s : ByteArray) (p : Nat) (tx : ByteArray) (v : Value) (w : World) : Nat → Act → World → Prop := J5 (OJ0 g s p tx v w) (OJ1 g s p tx v w) (OJ2 g s p tx v w) (OJ3 g s p tx v w) (fun _ _ => False)

/-- What every pass lowers. -/
abbrev OMU (s : ByteArray) (g : Nat) : Nat → Act → World → Nat := fun l _ w' => 5 * (s.size + 5 - rdAt w' g) + (3 - l)

end Go.Proofs.YteninofjeidljaaGreat
