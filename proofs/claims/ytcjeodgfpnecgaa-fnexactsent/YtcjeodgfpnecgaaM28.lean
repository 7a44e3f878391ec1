/- What TokensOf tells by its pile are the tokens of the tree (plain mathematics). Contract of TokensOf of the program. -/
import Derived.Test.YtcjeodgfpnecgaaM20
import Derived.Test.YtcjeodgfpnecgaaM27
import Derived.Test.YtcjeodgfpnecgaaM26
import Derived.Test.YtcjeodgfpnecgaaM25
import Derived.Test.YtcjeodgfpnecgaaM16
namespace Go.Proofs.Ytcjeodgfpnecgaa
set_option linter.unusedVariables false

def clN (ts : List Tk) (j : Nat) : Tk := clT (nodeAt ts j)

/-- What is told ahead of the i-th node. -/
def toldF (ts : List Tk) : Nat → List Tk
  | 0 => []
  | i + 1 => (toldF ts i ++ ((pileF ts i).takeWhile (notP (parI ts i))).map (clN ts)) ++ [tokOfN (nodeAt ts i)]

def topOf : List Nat → Int
  | [] => -1
  | x :: _ => (x : Int)

theorem gRun_append : ∀ (l m : List Tk) (s s1 : GSt), gRun l s = some s1 → gRun (l ++ m) s = gRun m s1
  | [], m, s, s1, h => by cases h; rfl
  | k :: l, m, s, s1, h => by
    obtain ⟨s2, h1, h2⟩ := gRun_cases h
    rw [List.cons_append, gRun_step h1]
    exact gRun_append l m s2 s1 h2

theorem par_take {ts : List Tk} {i x : Nat} (h : x < i) : parI (ts.take i) x = parI ts x := by
  unfold parI
  rw [List.getElem?_take, if_pos h]

theorem node_take {ts : List Tk} {i x : Nat} (h : x < i) : nodeAt (ts.take i) x = nodeAt ts x := by
  unfold nodeAt
  rw [List.getElem?_take, if_pos h]

theorem pile_linked {ts : List Tk} (h : TreeP ts) (i : Nat) (hi : i < ts.length) : Linked ts (pileF ts (i + 1)) ∧ ∀ x ∈ pileF ts (i + 1), x < i + 1 ∧ elN ts x := by
  have hu : ∀ j, j < i + 1 → UpOk ts j := fun j hj => h.up j (by omega)
  obtain ⟨h1, h2⟩ := h.linked i hi
  have h3 := chain_tail_el i hu
  have h4 := pile_is (i + 1) hu
  have e : chainF ts (i + 1) = i :: (chainF ts (i + 1)).tail := rfl
  have h5 : (chainF ts (i + 1)).tail.filter (elB ts) = (chainF ts (i + 1)).tail := List.filter_eq_self.2 h3
  refine ⟨?_, fun x hx => ?_⟩
  · rw [h4, e]
    cases q : elB ts i
    · rw [List.filter_cons_of_neg (by rw [q]; decide), h5]
      rw [e] at h1
      cases ht : (chainF ts (i + 1)).tail with
      | nil =>
        rw [ht] at h1
        have : i = 0 := h1
        subst this
        rw [elB_iff.2 h.2.2.2.1] at q
        cases q
      | cons y r =>
        rw [ht] at h1
        exact h1.tail
    · rw [List.filter_cons_of_pos q, h5, ← e]
      exact h1
  · rw [h4] at hx
    obtain ⟨hx1, hx2⟩ := List.mem_filter.1 hx
    exact ⟨h2 x hx1, elB_iff.1 hx2⟩

/-- One is closed. -/
theorem close_one {ts : List Tk} (h : TreeP ts) {i x : Nat} (hi : i ≤ ts.length) (hx : x < i) (he : elN ts x) : gStep ⟨ts.take i, (x : Int), false⟩ (clN ts x) = some ⟨ts.take i, parI ts x, decide ((x : Int) = 0)⟩ := by
  have hxl : x < ts.length := by omega
  obtain ⟨_, hne⟩ := he
  obtain ⟨_, _, h3⟩ := node_el h hxl hne
  have e1 := gStep_two (s := ⟨ts.take i, (x : Int), false⟩) (k := clN ts x) (by unfold clN; rw [nodeAt_at hxl]; exact h3) rfl rfl (by show ¬ (x : Int) < 0; omega) (by
    show (nodeAt (ts.take i) ((x : Int)).toNat).name = _
    rw [Int.toNat_natCast, node_take hx]
    rfl)
  rw [e1]
  show some (GSt.mk (ts.take i) (parI (ts.take i) ((x : Int)).toNat) (decide ((x : Int) = 0))) = _
  rw [Int.toNat_natCast, par_take hx]

theorem close_run {ts : List Tk} (h : TreeP ts) {i : Nat} (hi : i ≤ ts.length) : ∀ (T D : List Nat), ¬ D = [] → Linked ts (T ++ D) → (∀ x ∈ T, x < i ∧ elN ts x) → gRun (T.map (clN ts)) ⟨ts.take i, topOf (T ++ D), false⟩ = some ⟨ts.take i, topOf D, false⟩
  | [], D, _, _, _ => rfl
  | x :: T, D, hD, hl, hx => by
    obtain ⟨y, r, hyr⟩ : ∃ y r, T ++ D = y :: r := by
      cases e : T ++ D with
      | nil => exact absurd (List.append_eq_nil_iff.1 e).2 hD
      | cons y r => exact ⟨y, r, rfl⟩
    have hl2 : Linked ts (x :: y :: r) := by rw [← hyr]; exact hl
    have ih := close_run h hi T D hD (by rw [hyr]; exact hl2.tail) (fun z hz => hx z (List.mem_cons_of_mem _ hz))
    obtain ⟨h1, h2⟩ := hx x List.mem_cons_self
    show gRun (clN ts x :: T.map (clN ts)) ⟨ts.take i, (x : Int), false⟩ = _
    have hx0 : decide ((x : Int) = 0) = false := decide_eq_false (by have := hl2.2.1; omega)
    rw [gRun_step (close_one h hi h1 h2), hl2.1, hx0, ← ih, hyr]
    rfl

theorem close_all {ts : List Tk} (h : TreeP ts) : ∀ (T : List Nat), Linked ts T → (∀ x ∈ T, x < ts.length ∧ elN ts x) → gRun (T.map (clN ts)) ⟨ts.take ts.length, topOf T, false⟩ = some ⟨ts, -1, true⟩
  | [], hl, _ => absurd hl (fun h => h)
  | [x], hl, hx => by
    have hx0 : x = 0 := hl
    subst hx0
    obtain ⟨h1, h2⟩ := hx 0 List.mem_cons_self
    show gRun [clN ts 0] ⟨ts.take ts.length, ((0 : Nat) : Int), false⟩ = _
    rw [gRun_step (close_one h (Nat.le_refl _) h1 h2), h.2.2.1, List.take_length]
    rfl
  | x :: y :: r, hl, hx => by
    have ih := close_all h (y :: r) hl.tail (fun z hz => hx z (List.mem_cons_of_mem _ hz))
    obtain ⟨h1, h2⟩ := hx x List.mem_cons_self
    show gRun (clN ts x :: (y :: r).map (clN ts)) ⟨ts.take ts.length, (x : Int), false⟩ = _
    have hx0 : decide ((x : Int) = 0) = false := decide_eq_false (by have := hl.2.1; omega)
    rw [gRun_step (close_one h (Nat.le_refl _) h1 h2), hl.1, hx0, ← ih]
    rfl

theorem tw_dw {α : Type} (p : α → Bool) (l : List α) : l.takeWhile p ++ l.dropWhile p = l := List.takeWhile_append_dropWhile

theorem top_par {ts : List Tk} (h : TreeP ts) {i : Nat} (hi : i < ts.length) : topOf ((pileF ts i).dropWhile (notP (parI ts i))) = parI ts i := by
  rcases Nat.eq_zero_or_pos i with h0 | h0
  · subst h0
    rw [h.2.2.1]
    rfl
  · have hl := (pile_up (fun j hj => h.up j (by omega)) h0).1 (h.up i hi)
    rw [List.length_pos_iff] at hl
    have h1 := List.head_dropWhile_not (notP (parI ts i)) hl
    cases e : (pileF ts i).dropWhile (notP (parI ts i)) with
    | nil => exact absurd e hl
    | cons y r =>
      have e2 : ((pileF ts i).dropWhile (notP (parI ts i))).head hl = y := by simp only [e, List.head_cons]
      rw [e2] at h1
      show (y : Int) = _
      unfold notP at h1
      simpa using h1

/-- A node begins. -/
theorem tok_begin {ts : List Tk} (h : TreeP ts) {i : Nat} (hi : i < ts.length) : gStep ⟨ts.take i, parI ts i, false⟩ (tokOfN (nodeAt ts i)) = some ⟨ts.take (i + 1), if elB ts i = true then (i : Int) else parI ts i, false⟩ := by
  rw [nodeAt_at hi]
  by_cases he : ts[i].name.size = 0
  · obtain ⟨h1, h2, _, _⟩ := node_tx h hi he
    have e1 : tokOfN ts[i] = txT ts[i] := by
      unfold tokOfN
      rw [if_pos he, h1]
      rfl
    rw [e1, gStep_three h2 rfl rfl, elB_at hi, decide_eq_true he]
    have e2 : (ts.take i ++ [(⟨parI ts i, ⟨#[]⟩, [], (txT ts[i]).text⟩ : Tk)]) = ts.take (i + 1) := take_node hi h1
    show some (GSt.mk (ts.take i ++ [(⟨parI ts i, ⟨#[]⟩, [], (txT ts[i]).text⟩ : Tk)]) (parI ts i) false) = _
    rw [e2]
    rfl
  · obtain ⟨h1, h2, _⟩ := node_el h hi he
    have e1 : tokOfN ts[i] = opT ts[i] := by
      unfold tokOfN
      rw [if_neg he, h1]
      rfl
    rw [e1, gStep_one h2 rfl rfl, elB_at hi, decide_eq_false he]
    have e2 : (ts.take i ++ [(⟨parI ts i, (opT ts[i]).name, (opT ts[i]).attrs, ⟨#[]⟩⟩ : Tk)]) = ts.take (i + 1) := take_node hi h1
    show some (GSt.mk (ts.take i ++ [(⟨parI ts i, (opT ts[i]).name, (opT ts[i]).attrs, ⟨#[]⟩⟩ : Tk)]) ((ts.take i).length : Int) false) = _
    rw [e2, List.length_take]
    congr 2
    show ((min i ts.length : Nat) : Int) = (i : Int)
    omega

theorem told_run {ts : List Tk} (h : TreeP ts) : ∀ i, i ≤ ts.length → gRun (toldF ts i) ⟨[], -1, false⟩ = some ⟨ts.take i, topOf (pileF ts i), false⟩
  | 0, _ => rfl
  | i + 1, hi => by
    have ih := told_run h i (by omega)
    have e1 : gRun (toldF ts i ++ ((pileF ts i).takeWhile (notP (parI ts i))).map (clN ts)) ⟨[], -1, false⟩ = some ⟨ts.take i, topOf ((pileF ts i).dropWhile (notP (parI ts i))), false⟩ := by
      rw [gRun_append _ _ _ _ ih]
      rcases Nat.eq_zero_or_pos i with h0 | h0
      · subst h0
        rfl
      · obtain ⟨j, rfl⟩ : ∃ j, i = j + 1 := ⟨i - 1, by omega⟩
        obtain ⟨hl, hx⟩ := pile_linked h j (by omega)
        have hne := (pile_up (fun m hm => h.up m (by omega)) h0).1 (h.up (j + 1) (by omega))
        rw [List.length_pos_iff] at hne
        have := close_run h (i := j + 1) (by omega) _ _ hne (by rw [tw_dw]; exact hl) (fun x hx' => hx x ((List.takeWhile_sublist _).mem hx'))
        rw [tw_dw] at this
        exact this
    rw [toldF, gRun_append _ _ _ _ e1, top_par h (by omega), gRun_step (tok_begin h (by omega))]
    show some _ = _
    congr 2
    rw [pileF]
    cases q : elB ts i
    · exact (top_par h (by omega)).symm
    · rfl

/-- All that is told. -/
theorem told_all {ts : List Tk} (h : TreeP ts) : toldF ts ts.length ++ (pileF ts ts.length).map (clN ts) = tokN ts ts.length 0 := by
  have h1 := h.1
  have e := grow_sub h ts.length 0 (by omega) (by omega) []
  rw [List.append_nil, h.2.2.1, tree_end h, List.take_zero, List.take_length] at e
  have e2 : gRun [] ⟨ts, -1, decide (0 = 0)⟩ = some ⟨ts, -1, true⟩ := rfl
  rw [e2] at e
  obtain ⟨j, hj⟩ : ∃ j, ts.length = j + 1 := ⟨ts.length - 1, by omega⟩
  obtain ⟨hl, hx⟩ := pile_linked h j (by omega)
  rw [← hj] at hl hx
  have e3 := gRun_append _ ((pileF ts ts.length).map (clN ts)) _ _ (told_run h ts.length (Nat.le_refl _))
  rw [close_all h _ hl hx] at e3
  exact grow_inj _ _ _ _ _ GInv.start e3 e rfl rfl rfl

end Go.Proofs.Ytcjeodgfpnecgaa

namespace Go.Proofs.Ytcjeodgfpnecgaa
open Go.RowKit
set_option linter.unusedVariables false
set_option linter.unusedSimpArgs false

def prs (ts : List Tk) (l : List Nat) : List (Nat × ByteArray) := l.map fun j => (j, (nodeAt ts j).name)

theorem prs_len (ts : List Tk) (l : List Nat) : (prs ts l).length = l.length := by simp [prs]

theorem prs_dw (ts : List Tk) (P : Int) : ∀ l : List Nat, (prs ts l).dropWhile (fun x => !decide ((x.1 : Int) = P)) = prs ts (l.dropWhile (notP P)) ∧ (prs ts l).takeWhile (fun x => !decide ((x.1 : Int) = P)) = prs ts (l.takeWhile (notP P))
  | [] => ⟨rfl, rfl⟩
  | x :: l => by
    obtain ⟨h1, h2⟩ := prs_dw ts P l
    have e : prs ts (x :: l) = (x, (nodeAt ts x).name) :: prs ts l := rfl
    have e2 : notP P x = !decide ((x : Int) = P) := rfl
    rw [e, List.dropWhile_cons, List.takeWhile_cons, List.dropWhile_cons, List.takeWhile_cons, e2]
    cases q : decide ((x : Int) = P)
    · simp only [Bool.not_false, if_true]
      exact ⟨h1, by rw [h2]; rfl⟩
    · simp only [Bool.not_true]
      exact ⟨rfl, rfl⟩

theorem tw_all {α : Type} (l : List α) : l.takeWhile (fun _ => !false) = l ∧ l.dropWhile (fun _ => !false) = [] := by
  induction l with
  | nil => exact ⟨rfl, rfl⟩
  | cons x l ih => exact ⟨congrArg (x :: ·) ih.1, ih.2⟩

theorem clL_prs (ts : List Tk) (l : List Nat) : clL (prs ts l) = l.map (clN ts) := by
  unfold clL prs
  rw [List.map_map]
  rfl

theorem told_len (ts : List Tk) : ∀ i, (toldF ts i).length + (pileF ts i).length ≤ 2 * i
  | 0 => Nat.le_refl _
  | i + 1 => by
    have ih := told_len ts i
    have h := congrArg List.length (tw_dw (notP (parI ts i)) (pileF ts i))
    rw [List.length_append] at h
    rw [toldF, pileF, List.length_append, List.length_append, List.length_append, List.length_map]
    split <;> simp <;> omega

theorem nodeAt_sz {ts : List Tk} (hz : TksSz 1048576 ts) (k : Nat) : TkSz 1048576 (nodeAt ts k) := by
  by_cases h : k < ts.length
  · rw [nodeAt_at h]; exact hz _ (List.getElem_mem h)
  · unfold nodeAt
    rw [List.getElem?_eq_none (by omega)]
    exact ⟨Nat.zero_le _, Nat.zero_le _, fun x hx => absurd hx List.not_mem_nil, Nat.zero_le _⟩

theorem prs_sz {ts : List Tk} (hz : TksSz 1048576 ts) (l : List Nat) : ∀ x ∈ prs ts l, x.2.size ≤ 1048576 := by
  intro x hx
  unfold prs at hx
  obtain ⟨j, _, rfl⟩ := List.mem_map.1 hx
  exact (nodeAt_sz hz j).1

/-- A row of tokens stands where only blocks of other kinds are written. -/
theorem Tn.Row.keepB {w w' : World} {B : Nat} {v : Value} {es : List Tn.E} {p : Nat → Prop} (h : Tn.Row w B v es) (hk : KeepB p w w') (hp : ∀ k, p k → ∀ c e fz, w.heap[k]? = some (.cells c e fz) → e ≠ 50 ∧ e ≠ 72) : Tn.Row w' B v es := by
  refine ⟨⟨h.own.1, ?_⟩, fun e he => ⟨fun hl => ?_, (h.ats e he).2⟩, h.apart⟩
  · rcases h.own.2 with h' | ⟨g, cap, cur, h1, h2, h3, h4⟩
    · exact .inl h'
    · exact .inr ⟨g, cap, cur, h1, h2, (hk.block g (lt_of_heap h3) (fun hpg => (hp g hpg _ _ _ h3).1 rfl)).trans h3, h4⟩
  · obtain ⟨g, o, cu, e1, e2, e3, e4⟩ := (h.ats e he).1 hl
    exact ⟨g, o, cu, e1, e2, (hk.block g (lt_of_heap e3) (fun hpg => (hp g hpg _ _ _ e3).2 rfl)).trans e3, e4⟩

/-- A pile stands where a row of another kind grows. -/
theorem PileAt.grownR {E s w w' B g o cur T v n cs} {row : Option Nat} {e : TypeId} (h : PileAt E s w B g o cur T v n cs) (hg : w.grownBy w' row) (hr : ∀ k, row = some k → ∃ c fz, w.heap[k]? = some (.cells c e fz)) (h1 : T ≠ e) (h2 : E ≠ e) : PileAt E s w' B g o cur T v n cs := by
  have hb : ∀ (k : Nat) (c : Array Value) (T' : TypeId) (fz : Nat × Nat), w.heap[k]? = some (.cells c T' fz) → T' ≠ e → w'.heap[k]? = w.heap[k]? := fun k c T' fz hk hne => hg.block k (lt_of_heap hk) (fun e1 => by
    obtain ⟨c2, fz2, h3⟩ := hr k e1.symm
    rw [hk] at h3
    injection h3 with h3
    injection h3 with _ h4 _
    exact hne h4)
  refine ⟨h.ge, (hb g _ _ _ h.blk h1).trans h.blk, h.at_, ⟨h.row.1, ?_⟩, h.ne⟩
  rcases h.row.2 with h' | ⟨k, cap, cu, k1, k2, k3, k4⟩
  · exact .inl h'
  · exact .inr ⟨k, cap, cu, k1, k2, (hb k _ _ _ k3 h2).trans k3, k4⟩

theorem PileAt.kindR {E s w B g o cur T v n cs} (h : PileAt E s w B g o cur T v n cs) : ∀ k, v.ownBlock = some k → ∃ c fz, w.heap[k]? = some (.cells c E fz) := by
  intro k hk
  rcases h.row.2 with ⟨rfl, _⟩ | ⟨g, cap, cur, rfl, _, hh, _⟩
  · cases hk
  · have : g = k := Option.some.inj hk
    subst this
    exact ⟨_, _, hh⟩

theorem Tn.Row.kind {w : World} {B : Nat} {v : Value} {es : List Tn.E} (h : Tn.Row w B v es) : ∀ k, v.ownBlock = some k → ∃ c fz, w.heap[k]? = some (.cells c 50 fz) := by
  intro k hk
  rcases h.own.2 with ⟨rfl, _⟩ | ⟨g, cap, cur, rfl, _, hh, _⟩
  · cases hk
  · have : g = k := Option.some.inj hk
    subst this
    exact ⟨_, _, hh⟩

set_option maxHeartbeats 1000000 in
theorem cTokensOf1 (x : Nat × ByteArray) (P : Int) (b : Nat) (w : World) (hb : b < w.heap.size) (hc : w.cell? ⟨b, 0, none⟩ = some (.int .i64 P)) :
    Calls Try.prog 40 #[.agg #[.int .i64 (x.1 : Int), .string x.2], .pointer (some ⟨b, 0, none⟩)] w fun e w' => e = .returned (.bool (decide ((x.1 : Int) = P))) ∧ Below w.heap.size w w' := by
  obtain ⟨x1, x2⟩ := x
  simp only
  have HB0 := hid ((Below.refl w.heap.size w).alloc (Nat.le_refl _) (.cells #[.int .i64 (x1 : Int), .string x2] 80))
  have c1 := cell_alloc hc hb (.cells #[.int .i64 (x1 : Int), .string x2] 80)
  have hd : ((x1 : Int) == P) = decide ((x1 : Int) = P) := rfl
  generalize decide ((x1 : Int) = P) = D at *
  clear hc
  go_enter Try.func40, Try.ntmps40
  go_wp2
  go_ret
  exact ⟨rfl, HB0.out⟩

set_option maxHeartbeats 1000000 in
theorem cTokensOf2 (x : Nat × ByteArray) (w : World) :
    Calls Try.prog 45 #[.agg #[.int .i64 (x.1 : Int), .string x.2]] w fun e w' => e = .returned (.bool false) ∧ Below w.heap.size w w' := by
  obtain ⟨x1, x2⟩ := x
  simp only
  have HB0 := hid ((Below.refl w.heap.size w).alloc (Nat.le_refl _) (.cells #[.int .i64 (x1 : Int), .string x2] 80))
  go_enter Try.func45, Try.ntmps45
  go_wp2
  go_ret
  exact ⟨rfl, HB0.out⟩

/-- append of closing tokens, some or none. -/
theorem wpL_clos (w : World) {ops : Array Oper} {rest : List Oper} {o : Oper} {a : Act} {Q : Exit → Act → World → Prop} (hgd : o.guard = none) (s x : Operand)
    (ho : o.op = .call { callee := .builtin .append, args := #[s, x], argTypes := #[47, 47] }) (base B2 : Nat) (v : Value) (es : List Tn.E) (L : List (Nat × ByteArray)) (a4 : Option Addr) (c4 : Nat) (hs : a.eval s = v) (hown : Tn.Row w base v es)
    (hx : a.eval x = .slice a4 L.length c4) (hrow : Tn.Row w B2 (.slice a4 L.length c4) (clE L)) (hn : es.length + L.length ≤ 2097152) (hb : base ≤ w.heap.size)
    (h : ∀ a' c' w', Tn.Row w' base (.slice a' (es ++ clE L).length c') (es ++ clE L) → Below base w w' → w.grownBy w' v.ownBlock → wpList Try.prog ops Q rest (a.put o.dst (.slice a' (es ++ clE L).length c')) w') : wpList Try.prog ops Q (o :: rest) a w := by
  have hat : ∀ e ∈ clE L, e.t.attrs.length = 0 := by
    intro e he
    unfold clE at he
    obtain ⟨y, _, rfl⟩ := List.mem_map.1 he
    rfl
  by_cases h0 : L = []
  · subst h0
    obtain ⟨av, cv, hv⟩ := hown.slice
    have hle : es.length ≤ cv := by
      rcases hown.own.2 with ⟨e1, e2⟩ | ⟨g, cap, cur, e1, _, _, h4, _⟩
      · rw [e2]; exact Nat.zero_le _
      · rw [hv] at e1
        injection e1 with _ _ e3
        omega
    obtain ⟨i0, hi, hz0, hz1, hz2⟩ := info_parts Tn.infoR
    have he : es ++ clE [] = es := by simp [clE]
    refine wpL_none w hgd s x 47 50 i0 ho Try.underlying47 hi av es.length cv (by rw [hs, hv]) hle a4 c4 hx ?_
    have hh := h av cv w (by rw [he, ← hv]; exact hown) (Below.refl _ _) ⟨rfl, rfl, rfl, Nat.le_refl _, fun _ _ _ => rfl⟩
    rw [he] at hh
    exact hh
  · have hne : ¬ clE L = [] := fun e => h0 (by unfold clE at e; exact List.map_eq_nil_iff.1 e)
    obtain ⟨g4, hg4, _, hcell⟩ := hrow.cells hne
    subst hg4
    refine Tn.wpL_join w hgd s x ho base v es (clE L) hs hown g4 L.length c4 hx (clE_len L).symm hcell (fun e he => ⟨fun hl => by have := hat e he; omega, fun g o hl => by have := hat e he; omega⟩) hrow.apart (fun e he f hf _ hl => by have := hat f hf; omega) (by rw [clE_len]; exact hn) hb h

/-- What the loop of TokensOf knows. -/
structure ToldSt (ts : List Tk) (w : World) (g i : Nat) (wr : World) (v : Value) (es : List Tn.E) : Prop where
  row : Tn.Row wr w.heap.size v es
  map : es.map (·.t) = toldF ts i
  pile : ∃ cur pv, PileE wr w.heap.size g 0 cur 76 pv (prs ts (pileF ts i))
  bel : Below w.heap.size w wr

set_option maxRecDepth 8000 in
set_option maxHeartbeats 8000000 in
theorem cTokensOfI (a : Option Addr) (cap : Nat) (ts : List Tk) (w : World) (hR : TkRow w a ts) (hn : ts.length ≤ 1048576) (hz : TksSz 1048576 ts) :
    Calls Try.prog 20 #[.slice a ts.length cap] w fun e w' => ∃ a' c' es, e = .returned (.slice a' es.length c') ∧ Tn.Row w' w.heap.size (.slice a' es.length c') es ∧ es.map (·.t) = toksT ts ∧ Below w.heap.size w w' := by
  have C := hid (cTreeOkI a cap ts w hR hn hz)
  have HR := hid hR
  have hmf : ∀ (fn : Fn) (first cap : Array Value) (w : World), (Instr.makeFunc fn first cap).run Try.prog w = .ok (.func fn first cap) w := fun _ _ _ _ => rfl
  cases q : treeB ts
  · have e1 : toksT ts = [] := by unfold toksT; rw [q]; rfl
    rw [e1]
    rw [q] at C
    clear hz hR e1
    generalize ts.length = n at *
    go_enter Try.func20, Try.ntmps20
    go_wp2_with fail
    refine C.out.mono ?_
    rintro e w1 ⟨rfl, hb1⟩
    have HB1 := hid hb1
    clear hb1
    go_wp2_with fail
    go_ret
    exact ⟨none, 0, [], rfl, Tn.Row.start0 _ _, rfl, HB1.out⟩
  have hT := treeB_P q
  have HT := hid hT
  have hn50 := hT.2.1
  have e1 : toksT ts = toldF ts ts.length ++ (pileF ts ts.length).map (clN ts) := by rw [told_all hT]; unfold toksT; rw [q]; rfl
  rw [e1]
  rw [q] at C
  have HZ := hid hz
  clear hz hR e1 q hT
  obtain ⟨n, hnn⟩ : ∃ n, ts.length = n := ⟨_, rfl⟩
  have HN := hid hnn
  rw [hnn] at hn hn50 C ⊢
  clear hnn
  go_enter Try.func20, Try.ntmps20
  go_wp2_with fail
  refine C.out.mono ?_
  rintro e w1 ⟨rfl, hb1⟩
  have HB1 := hid (hb1.alloc hb1.size (.cells #[.slice none 0 0] 76))
  have M1 := hid (heap_alloc_new w1 (.cells #[.slice none 0 0] 76))
  have hsz1 := hb1.size
  clear hb1 C
  go_wp2_with fail
  go_loopw [3, 12] (fun v k wr => ∃ (i : Nat) (es : List Tn.E), k = .int .i64 (i : Int) ∧ i ≤ n ∧ Hid (ToldSt ts w w1.heap.size i wr v es)) (fun _ k _ => n - (intOf k).toNat)
  case atStart => exact ⟨0, [], rfl, Nat.zero_le _, ⟨Tn.Row.start0 _ _, rfl, ⟨_, _, hsz1, M1.out, rfl, World.ownsRow_nil _ _ _ _, by decide⟩, HB1.out⟩⟩
  case round =>
    clear M1 HB1
    obtain ⟨i, es, rfl, hi, ST⟩ := hrel
    obtain ⟨cur, pv, hpile⟩ := ST.out.pile
    have HPL := hid hpile
    clear hpile
    obtain ⟨av, cv, hv⟩ := ST.out.row.slice
    have htl := told_len ts i
    rw [← ST.out.map, List.length_map] at htl
    have hpl := pile_len ts i
    have hgw := HPL.out.ge
    have hgl := HPL.out.lt
    have hbs := ST.out.bel.size
    by_cases hlt : i < n
    case neg =>
      have hie : i = n := by omega
      subst hie
      have CD := hid (cPeDown2 w.heap.size w1.heap.size 0 cur 76 pv (prs ts (pileF ts i)) (fun _ => false) wr HPL.out (by rw [prs_len]; omega) (fun x wx _ => cTokensOf2 x wx))
      rw [(tw_all _).1, (tw_all _).2] at CD
      subst hv
      obtain ⟨L, hL⟩ : ∃ L, es.length = L := ⟨_, rfl⟩
      have HL := hid hL
      rw [hL] at htl
      have HRW := hid ST.out.row
      rw [hL] at HRW ⊢
      clear hL
      go_wp2_with fail
      refine CD.out.mono ?_
      rintro e w2 ⟨⟨r, rfl, hor⟩, _, hk2⟩
      have HK2 := hid hk2
      have HR2 := hid (HRW.out.keepB hk2 (fun k hk c e fz hh => by
        subst hk
        rw [HPL.out.blk] at hh
        injection hh with hh
        injection hh with _ h2 _
        subst h2
        exact ⟨by decide, by decide⟩))
      have HB2 := hid (ST.out.bel.trans (hk2.below hbs (fun k hk => by subst hk; exact hgw)))
      have CC := hid (cClosings r wr.heap.size (prs ts (pileF ts i)) w2 hor (prs_sz HZ.out _) (by rw [prs_len]; omega))
      clear hk2 hor CD
      go_wp2_with fail
      refine CC.out.mono ?_
      rintro e w3 ⟨a3, c3, rfl, hr3, hb3⟩
      have HR3 := hid hr3
      have HRW3 := hid (HR2.out.below hb3)
      have HB3 := hid (bb HB2.out hb3)
      have hsz3 := HB3.out.size
      clear hb3 hr3
      go_wp2_with (at_builtin; refine wpL_clos _ rfl _ _ rfl w.heap.size w2.heap.size _ es (prs ts (pileF ts i)) a3 c3 rfl HRW3.out rfl HR3.out ?d3 (by omega) ?_)
      case d3 => rw [prs_len, HL.out]; omega
      intro a5 c5 w5 hr5 hb5 _
      have HR5 := hid hr5
      have HB5 := hid (HB3.out.trans hb5)
      have HMP := hid (show (es ++ clE (prs ts (pileF ts i))).map (·.t) = toldF ts i ++ (pileF ts i).map (clN ts) by rw [List.map_append, ST.out.map, clE_map, clL_prs])
      clear hr5 hb5
      go_wp2_with fail
      go_ret
      exact ⟨a5, c5, es ++ clE (prs ts (pileF ts i)), by simp, by simpa using HR5.out, HMP.out, HB5.out⟩
    have his : i < ts.length := by rw [HN.out]; exact hlt
    have hin : (i : Int) < (n : Int) := by omega
    obtain ⟨b, o, aa, ca, rfl, hb, k0, k1, k2, k3, cr⟩ := HR.out i his
    have c0 := (ST.out.bel.cell (p := ⟨b, o + i * 4, none⟩) hb).trans k0
    have c1 := (ST.out.bel.cell (p := ⟨b, o + i * 4 + 1, none⟩) hb).trans k1
    have c2 := (ST.out.bel.cell (p := ⟨b, o + i * 4 + 2, none⟩) hb).trans k2
    have c3 := (ST.out.bel.cell (p := ⟨b, o + i * 4 + 3, none⟩) hb).trans k3
    clear k0 k1 k2 k3
    have HPI := hid (parI_at his)
    have HNA := hid (nodeAt_at his)
    obtain ⟨t, ht⟩ : ∃ t, ts[i] = t := ⟨_, rfl⟩
    have HZt := hid (HZ.out _ (List.getElem_mem his))
    have HEB := hid (elB_at his)
    rw [ht] at c0 c1 c2 c3 cr HPI HZt HNA HEB
    obtain ⟨tk, tn, tl, tx⟩ := t
    simp only at c0 c1 c2 c3 cr HPI HEB
    have HO := hid ((Below.refl wr.heap.size wr).alloc (Nat.le_refl _) (.cells #[.int .i64 tk, .string tn, .slice aa tl.length ca, .string tx] 36))
    have M0 := hid (heap_alloc_new wr (.cells #[.int .i64 tk, .string tn, .slice aa tl.length ca, .string tx] 36))
    have CD := hid (cPeDown1 w.heap.size w1.heap.size 0 cur 76 pv (prs ts (pileF ts i)) (fun x => decide ((x.1 : Int) = tk)) wr.heap.size (wr.alloc (.cells #[.int .i64 tk, .string tn, .slice aa tl.length ca, .string tx] 36)) (HPL.out.below HO.out) (by rw [prs_len]; omega) (fun x wx hk => cTokensOf1 x tk wr.heap.size wx (Nat.lt_of_lt_of_le (by simp) hk.size) (box4 ((hk.block wr.heap.size (by simp) (by omega)).trans M0.out)).1.1))
    have HBA := hid (ST.out.bel.alloc hbs (.cells #[.int .i64 tk, .string tn, .slice aa tl.length ca, .string tx] 36))
    have HRA := hid (ST.out.row.below HO.out)
    have CT := hid (fun wx => cTokenOf ⟨tk, tn, tl, tx⟩ aa ca wx HZt.out)
    have CC := hid (fun wx (h : AtRow wx aa (tokOfN ⟨tk, tn, tl, tx⟩).attrs) => cCopiedToken (tokOfN ⟨tk, tn, tl, tx⟩) aa ca wx h (tokOfN_sz HZt.out))
    have CX := hid (fun wx => cIsText tk tn aa tl.length ca tx wx HZt.out.1)
    have CR := hid (show AtRow w aa (tokOfN ⟨tk, tn, tl, tx⟩).attrs by rw [tokOfN_attrs]; exact cr)
    obtain ⟨KK, hKK⟩ : ∃ KK, tokOfN ⟨tk, tn, tl, tx⟩ = KK := ⟨_, rfl⟩
    have HKK := hid hKK
    rw [hKK] at CT CC CR
    obtain ⟨kk, kn, kl, kx⟩ := KK
    simp only [tkV] at CT CC CR
    obtain ⟨m, hm⟩ : ∃ m, tl.length = m := ⟨_, rfl⟩
    rw [hm] at c2 HO M0 CD HBA HRA CT CX
    clear ht cr hm hKK
    subst hv
    obtain ⟨L, hL⟩ : ∃ L, es.length = L := ⟨_, rfl⟩
    have HL := hid hL
    rw [hL] at htl HRA ⊢
    clear hL
    obtain ⟨TW, hTW⟩ : ∃ TW, (pileF ts i).takeWhile (notP tk) = TW := ⟨_, rfl⟩
    have HTW := hid hTW
    have htw : TW.length ≤ i := by rw [← hTW]; have := (List.takeWhile_sublist (notP tk) (l := pileF ts i)).length_le; omega
    have hdl := dw_len (notP tk) (pileF ts i)
    clear hTW
    go_wp2_with fail
    refine CD.out.mono ?_
    rintro e w2 ⟨⟨r, rfl, hor⟩, ⟨cur2, pv2, hp2, _, _⟩, hk2⟩
    have HOR := hid (show w2.ownsRow (wr.alloc (.cells #[.int .i64 tk, .string tn, .slice aa m ca, .string tx] 36)).heap.size 80 2 r (prs ts TW).length (elC (prs ts TW)) by rw [← HTW.out, ← (prs_dw ts tk (pileF ts i)).2]; exact hor)
    have HP2 := hid (show PileE w2 w.heap.size w1.heap.size 0 cur2 76 pv2 (prs ts ((pileF ts i).dropWhile (notP tk))) by rw [← (prs_dw ts tk (pileF ts i)).1]; exact hp2)
    have M2 := hid ((hk2.block wr.heap.size (by simp) (by omega)).trans M0.out)
    have HR2 := hid (HRA.out.keepB hk2 (fun k hk c e fz hh => by
      subst hk
      rw [(HPL.out.below HO.out).blk] at hh
      injection hh with hh
      injection hh with _ h2 _
      subst h2
      exact ⟨by decide, by decide⟩))
    have HB2 := hid (HBA.out.trans (hk2.below (by simp; omega) (fun k hk => by subst hk; exact hgw)))
    have C3 := hid (cClosings r _ (prs ts TW) w2 HOR.out (prs_sz HZ.out _) (by rw [prs_len]; omega))
    clear hk2 hor hp2 CD c0 c1 c2 c3 HPL HO M0 HBA HRA HOR
    go_wp2_with fail
    refine C3.out.mono ?_
    rintro e w3 ⟨a3, c3, rfl, hr3, hb3⟩
    have HR3 := hid hr3
    have HRW3 := hid (HR2.out.below hb3)
    have HB3 := hid (bb HB2.out hb3)
    have M3 := hid (blk_below M2.out hb3)
    have HP3 := hid (HP2.out.below hb3)
    have hsz3 := HB3.out.size
    clear hb3 hr3 HR2 HB2 M2 HP2 C3
    go_wp2_with (at_builtin; refine wpL_clos _ rfl _ _ rfl w.heap.size w2.heap.size _ es (prs ts TW) a3 c3 rfl HRW3.out rfl HR3.out ?d3 (by omega) ?_)
    case d3 => rw [prs_len, HL.out]; omega
    intro a5 c5 w5 hr5 hb5 hg5
    have HR5 := hid hr5
    have HB5 := hid (HB3.out.trans hb5)
    have M5 := hid (blk_grownR M3.out hg5 HRW3.out.kind (by decide))
    have HP5 := hid (HP3.out.grownR hg5 HRW3.out.kind (by decide) (by decide))
    obtain ⟨es5, hes5⟩ : ∃ es5, es ++ clE (prs ts TW) = es5 := ⟨_, rfl⟩
    have HES5 := hid hes5
    have h5len : es5.length = L + TW.length := by rw [← hes5, List.length_append, clE_len, prs_len, HL.out]
    have HMP5 := hid (show es5.map (·.t) = toldF ts i ++ TW.map (clN ts) by rw [← hes5, List.map_append, ST.out.map, clE_map, clL_prs])
    obtain ⟨L5, hL5⟩ : ∃ L5, es5.length = L5 := ⟨_, rfl⟩
    have HL5 := hid hL5
    have h5b : L5 ≤ 200 := by omega
    have h5eq : (es ++ clE (prs ts TW)).length = L5 := by rw [hes5, hL5]
    have h5eq2 : es.length + (clE (prs ts TW)).length = L5 := by rw [← h5eq, List.length_append]
    simp only [h5eq, h5eq2, hes5] at HR5 ⊢
    obtain ⟨⟨x0, x1, x2, x3⟩, _⟩ := box4 M5.out
    clear hr5 hb5 hg5 h5len hL5 hes5 HR3 HRW3 HB3 M3 HP3 h5eq h5eq2
    go_wp2_with fail
    refine (CT.out _).mono ?_
    rintro e w6 ⟨rfl, hb6⟩
    have HB6 := hid (bb HB5.out hb6)
    have HR6 := hid (HR5.out.below hb6)
    have M6 := hid (blk_below M5.out hb6)
    have HP6 := hid (HP5.out.below hb6)
    clear hb6 HB5 HR5 M5 HP5 x0 x1 x2 x3
    go_wp2_with fail
    refine (CC.out _ (CR.out.below HB6.out)).mono ?_
    rintro e w7 ⟨a7, c7, rfl, ha7, hb7⟩
    have HA7 := hid ha7
    have HL7 := hid hb7
    have HB7 := hid (bb HB6.out hb7)
    have HR7 := hid (HR6.out.below hb7)
    have M7 := hid (blk_below M6.out hb7)
    have HP7 := hid (HP6.out.below hb7)
    have hsz6 := HB6.out.size
    have hsz7 := hb7.size
    clear hb7 ha7 M6 HP6 CC CT
    have M8 := hid (heap_alloc_new w7 (.cells #[.int .i64 kk, .string kn, .slice a7 kl.length c7, .string kx] 50))
    have HL8 := hid ((Below.refl w7.heap.size w7).alloc (Nat.le_refl _) (.cells #[.int .i64 kk, .string kn, .slice a7 kl.length c7, .string kx] 50))
    have HR8 := hid (HR7.out.below HL8.out)
    have HO8 := hid (Tn.Row.one (B := w6.heap.size) (e := ⟨⟨kk, kn, kl, kx⟩, a7, c7⟩) hsz7 M8.out (HA7.out.below HL8.out) (fun g o h e => by
      obtain ⟨g', o', cu, e', _, hh, _⟩ := HA7.out h
      simp only at e
      rw [e] at e'
      cases e'
      have := lt_of_heap hh
      omega))
    obtain ⟨g4, hg4, hone, hcell⟩ := HO8.out.cells (by simp)
    cases hg4
    clear hone
    have HCL := hid hcell
    obtain ⟨hap, hnb⟩ := HR6.out.apart_later HO8.out (Nat.le_refl _)
    have HF8 := hid (show ∀ e ∈ [(⟨⟨kk, kn, kl, kx⟩, a7, c7⟩ : Tn.E)], OwnAts (w7.alloc (.cells #[.int .i64 kk, .string kn, .slice a7 kl.length c7, .string kx] 50)) w.heap.size e.a e.t.attrs ∧ ∀ g o, 0 < e.t.attrs.length → e.a = some ⟨g, o, none⟩ → ¬ (Value.slice a5 L5 c5).ownBlock = some g from fun e he => ⟨((HO8.out.mono hsz6).ats e he).1, hnb e he⟩)
    have HAP := hid hap
    have M8A := hid (blk_below M7.out HL8.out)
    have HP8A := hid (HP7.out.below HL8.out)
    clear hcell hap hnb HO8 M8
    go_wp2_with (at_builtin; refine Tn.wpL_join _ rfl _ _ rfl w.heap.size _ es5 [⟨⟨kk, kn, kl, kx⟩, a7, c7⟩] rfl HR8.out w7.heap.size 1 1 rfl rfl HCL.out HF8.out (List.pairwise_singleton _ _) HAP.out ?d3 ?d4 ?_)
    case d3 => rw [HL5.out]; simp; omega
    case d4 => simp; omega
    intro a9 c9 w9 hr9 hb9 hg9
    have HR9 := hid hr9
    have HB9 := hid ((bb HB7.out HL8.out).trans hb9)
    have M9 := hid (blk_grownR M8A.out hg9 HR8.out.kind (by decide))
    have HP9 := hid (HP8A.out.grownR hg9 HR8.out.kind (by decide) (by decide))
    have HMP9 := hid (show (es5 ++ [(⟨⟨kk, kn, kl, kx⟩, a7, c7⟩ : Tn.E)]).map (·.t) = toldF ts (i + 1) by
      rw [List.map_append, HMP5.out, toldF, HPI.out, HTW.out, HNA.out, HKK.out]
      rfl)
    have HL9 := hid (show (es5 ++ [(⟨⟨kk, kn, kl, kx⟩, a7, c7⟩ : Tn.E)]).length = L5 + 1 by rw [List.length_append, HL5.out]; rfl)
    rw [HL5.out] at HR9
    obtain ⟨⟨x0, x1, x2, x3⟩, _⟩ := box4 M9.out
    clear hr9 hb9 hg9 HR8 HB7 HR7 M7 HP7 M8A HP8A HL8 HF8 HAP HCL HA7 HL7 HR6 HB6
    simp only [HL5.out]
    by_cases e1 : tn.size = 0
    · rw [decide_eq_true e1] at CX HEB
      have HPF := hid (show pileF ts (i + 1) = (pileF ts i).dropWhile (notP tk) by rw [pileF, HEB.out, HPI.out]; rfl)
      go_wp2_with fail
      refine (CX.out _).mono ?_
      rintro e w10 ⟨rfl, hb10⟩
      have HB10 := hid (bb HB9.out hb10)
      have HP10 := hid (HP9.out.below hb10)
      have HR10 := hid (HR9.out.below hb10)
      clear hb10
      go_wp2_with fail
      go_roundw
      case rel => exact ⟨i + 1, es5 ++ [⟨⟨kk, kn, kl, kx⟩, a7, c7⟩], by go_num, by omega, ⟨HR10.out, HMP9.out, ⟨_, _, by rw [HPF.out]; exact HP10.out⟩, HB10.out⟩⟩
      case measure => simp [intOf]; omega
    · rw [decide_eq_false e1] at CX HEB
      have HPF := hid (show prs ts (pileF ts (i + 1)) = (i, tn) :: prs ts ((pileF ts i).dropWhile (notP tk)) by rw [pileF, HEB.out, HPI.out]; show prs ts (i :: _) = _; unfold prs; rw [List.map_cons, HNA.out]; rfl)
      go_wp2_with fail
      refine (CX.out _).mono ?_
      rintro e w10 ⟨rfl, hb10⟩
      have HB10 := hid (bb HB9.out hb10)
      have HP10 := hid (HP9.out.below hb10)
      have HR10 := hid (HR9.out.below hb10)
      have M10 := hid (blk_below M9.out hb10)
      have CL := hid (cPeLay _ _ _ _ _ _ (i, tn) _ w10 HP10.out (by rw [prs_len]; omega))
      simp only at CL
      clear hb10 x0 x1 x2 x3
      obtain ⟨⟨x0, x1, x2, x3⟩, _⟩ := box4 M10.out
      go_wp2_with fail
      refine CL.out.mono ?_
      rintro e w11 ⟨rfl, ⟨v11, hp11, _⟩, hk11⟩
      have HP11 := hid hp11
      have HR11 := hid (HR10.out.keepB hk11 (fun k hk c e fz hh => by
        rcases hk with hk | hk
        · subst hk
          rw [HP10.out.blk] at hh
          injection hh with hh
          injection hh with _ h2 _
          subst h2
          exact ⟨by decide, by decide⟩
        · obtain ⟨c2, fz2, h3⟩ := HP10.out.kindR k hk
          rw [h3] at hh
          injection hh with hh
          injection hh with _ h2 _
          subst h2
          exact ⟨by decide, by decide⟩))
      have HB11 := hid (HB10.out.trans (hk11.below (HB10.out.size) (fun k hk => by
        rcases hk with hk | hk
        · subst hk; exact hgw
        · exact (HP10.out.row.lt k hk).1)))
      clear hp11 hk11
      go_wp2_with fail
      go_roundw
      case rel => exact ⟨i + 1, es5 ++ [⟨⟨kk, kn, kl, kx⟩, a7, c7⟩], by go_num, by omega, ⟨HR11.out, HMP9.out, ⟨_, _, by rw [HPF.out]; exact HP11.out⟩, HB11.out⟩⟩
      case measure => simp [intOf]; omega

end Go.Proofs.Ytcjeodgfpnecgaa
