/- A row of tokens that grows, every list of it in a block of its own. Contract of what the specification gives for the tokens of a node, of TokensOf. Contracts of the methods by which a sign is written: reference, itself, inText, inQuotes. -/
import Derived.Test.YtkcmagfbacmllaaM9
import Derived.Test.YtkcmagfbacmllaaRows
import Derived.Test.YtkcmagfbacmllaaM6
import Derived.Test.YtkcmagfbacmllaaM1
import Derived.Deep.RegionHeld3
import Derived.WalkKit
namespace Go.Proofs.Ytkcmagfbacmllaa.Tn
open Go.RowKit
set_option linter.unusedVariables false
set_option linter.unusedSimpArgs false

theorem infoR : (Try.prog.info? 78).map (fun i => (i.zero, i.size, i.bytes)) = some (some (.agg #[.int .i64 0, .string ⟨#[]⟩, .slice none 0 0, .string ⟨#[]⟩]), 4, 64) := by kernel_rfl

/-- One of the row, and where its attrs lie. -/
structure E where
  t : Tk
  a : Option Addr
  cap : Nat

def c1 (e : E) : List Value := [.int .i64 e.t.kind, .string e.t.name, .slice e.a e.t.attrs.length e.cap, .string e.t.text]

def cs (es : List E) : List Value := es.flatMap c1

theorem cs_app (es fs : List E) : cs (es ++ fs) = cs es ++ cs fs := by unfold cs; rw [List.flatMap_append]

theorem cs_one (e : E) : cs [e] = c1 e := by simp [cs]

theorem cs_len (es : List E) : (cs es).length = es.length * 4 := by
  induction es with
  | nil => rfl
  | cons x es ih => show (cs es).length + 4 = _; rw [ih, List.length_cons]; omega

theorem cs_cell (es : List E) : ∀ u ∈ cs es, u.oneCell' = true := by
  intro u hu
  unfold cs at hu
  obtain ⟨e, _, he⟩ := List.mem_flatMap.1 hu
  simp [c1] at he
  rcases he with rfl | rfl | rfl | rfl <;> rfl

theorem cs_get (es : List E) (j : Nat) (h : j < es.length) : (cs es)[j * 4]? = some (.int .i64 es[j].t.kind) ∧ (cs es)[j * 4 + 1]? = some (.string es[j].t.name)
    ∧ (cs es)[j * 4 + 2]? = some (.slice es[j].a es[j].t.attrs.length es[j].cap) ∧ (cs es)[j * 4 + 3]? = some (.string es[j].t.text) := by
  induction es generalizing j with
  | nil => simp at h
  | cons x es ih =>
    have e : cs (x :: es) = .int .i64 x.t.kind :: .string x.t.name :: .slice x.a x.t.attrs.length x.cap :: .string x.t.text :: cs es := rfl
    rw [e]
    match j with
    | 0 => exact ⟨rfl, rfl, rfl, rfl⟩
    | j + 1 =>
      have := ih j (by simpa using h)
      rw [show (j + 1) * 4 = j * 4 + 1 + 1 + 1 + 1 by omega]
      exact this

/-- The lists of these two lie in two blocks. -/
def Apart (e f : E) : Prop := 0 < e.t.attrs.length → 0 < f.t.attrs.length → ∀ g o g' o', e.a = some ⟨g, o, none⟩ → f.a = some ⟨g', o', none⟩ → ¬ g = g'

/-- The row so far: from B on. -/
structure Row (w : World) (B : Nat) (v : Value) (es : List E) : Prop where
  own : w.ownsRow B 78 4 v es.length (cs es)
  ats : ∀ e ∈ es, OwnAts w B e.a e.t.attrs ∧ ∀ g o, 0 < e.t.attrs.length → e.a = some ⟨g, o, none⟩ → ¬ v.ownBlock = some g
  apart : es.Pairwise Apart

theorem Row.below {w w' : World} {B : Nat} {v : Value} {es : List E} (h : Row w B v es) (hb : Below w.heap.size w w') : Row w' B v es :=
  ⟨ownsRow_below h.own hb, fun e he => ⟨(h.ats e he).1.below hb, (h.ats e he).2⟩, h.apart⟩

theorem Row.mono {w : World} {B B' : Nat} {v : Value} {es : List E} (h : Row w B' v es) (hB : B ≤ B') : Row w B v es := by
  refine ⟨⟨h.own.1, ?_⟩, fun e he => ⟨fun hl => ?_, (h.ats e he).2⟩, h.apart⟩
  · rcases h.own.2 with h' | ⟨g, cap, cur, h1, h2, h3⟩
    · exact .inl h'
    · exact .inr ⟨g, cap, cur, h1, Nat.le_trans hB h2, h3⟩
  · obtain ⟨g, o, cu, e1, e2, e3⟩ := (h.ats e he).1 hl
    exact ⟨g, o, cu, e1, Nat.le_trans hB e2, e3⟩

theorem Row.start (w : World) (B g : Nat) (hB : B ≤ g) (hh : w.heap[g]? = some (.cells #[] 78 (0, 0))) : Row w B (.slice (some ⟨g, 0, none⟩) 0 0) [] :=
  ⟨⟨rfl, .inr ⟨g, 0, #[], rfl, hB, hh, Nat.le_refl _, Nat.zero_le _, rfl, rfl⟩⟩, fun e he => absurd he List.not_mem_nil, List.Pairwise.nil⟩

theorem Row.start0 (w : World) (B : Nat) : Row w B (.slice none 0 0) [] :=
  ⟨World.ownsRow_nil _ _ _ _, fun e he => absurd he List.not_mem_nil, List.Pairwise.nil⟩

/-- A row of one, made at once. -/
theorem Row.one {w : World} {B g : Nat} {e : E} (hB : B ≤ g) (hh : w.heap[g]? = some (.cells #[.int .i64 e.t.kind, .string e.t.name, .slice e.a e.t.attrs.length e.cap, .string e.t.text] 78 (0, 0))) (ha : OwnAts w B e.a e.t.attrs) (hne : ∀ g' o, 0 < e.t.attrs.length → e.a = some ⟨g', o, none⟩ → ¬ g' = g) :
    Row w B (.slice (some ⟨g, 0, none⟩) 1 1) [e] :=
  ⟨⟨rfl, .inr ⟨g, 1, _, rfl, hB, hh, Nat.le_refl _, by decide, rfl, rfl⟩⟩, fun x hx => by
    rw [List.mem_singleton] at hx
    subst hx
    exact ⟨ha, fun g' o hl e1 e2 => hne g' o hl e1 (by simp [Value.ownBlock] at e2; exact e2.symm)⟩, List.pairwise_singleton _ _⟩

theorem Row.slice {w : World} {B : Nat} {v : Value} {es : List E} (h : Row w B v es) : ∃ a c, v = .slice a es.length c := by
  rcases h.own.2 with ⟨rfl, h0⟩ | ⟨g, cap, _, rfl, _⟩
  · exact ⟨none, 0, by rw [h0]⟩
  · exact ⟨_, cap, rfl⟩

theorem Row.tkRow {w : World} {B : Nat} {v : Value} {es : List E} (h : Row w B v es) : ∃ a cap, v = .slice a es.length cap ∧ TkRow w a (es.map (·.t)) := by
  rcases h.own.2 with ⟨rfl, h0⟩ | ⟨g, cap, cur, rfl, hg, hh, hn, hc, hs, ht⟩
  · exact ⟨none, 0, by rw [h0], fun j hj => by rw [List.length_map] at hj; omega⟩
  · refine ⟨some ⟨g, 0, none⟩, cap, rfl, fun j hj => ?_⟩
    rw [List.length_map] at hj
    obtain ⟨k0, k1, k2, k3⟩ := cs_get es j hj
    have hx : ∀ k u, (cs es)[k]? = some u → w.cell? ⟨g, 0 + k, none⟩ = some u := by
      intro k u hk
      rw [Lib.cell_of_heap hh, Nat.zero_add, ← Array.getElem?_toList]
      rw [← ht, List.getElem?_take] at hk
      split at hk
      · exact hk
      · cases hk
    rw [List.getElem_map]
    exact ⟨g, 0, es[j].a, es[j].cap, rfl, lt_of_heap hh, hx _ _ k0, hx _ _ k1, hx _ _ k2, hx _ _ k3, (h.ats _ (List.getElem_mem hj)).1.atRow⟩

theorem Row.join {w w' : World} {B : Nat} {v v' : Value} {es fs : List E} (h : Row w B v es)
    (hf : ∀ e ∈ fs, OwnAts w B e.a e.t.attrs ∧ ∀ g o, 0 < e.t.attrs.length → e.a = some ⟨g, o, none⟩ → ¬ v.ownBlock = some g) (hp : fs.Pairwise Apart) (hx : ∀ e ∈ es, ∀ f ∈ fs, Apart e f)
    (ho : w'.ownsRow B 78 4 v' (es.length + fs.length) (cs es ++ cs fs)) (hgr : w.grownBy w' v.ownBlock) (hw : v'.ownBlock = v.ownBlock ∨ v'.ownBlock = some w.heap.size) : Row w' B v' (es ++ fs) := by
  have key : ∀ e : E, (OwnAts w B e.a e.t.attrs ∧ ∀ g o, 0 < e.t.attrs.length → e.a = some ⟨g, o, none⟩ → ¬ v.ownBlock = some g) → OwnAts w' B e.a e.t.attrs ∧ ∀ g o, 0 < e.t.attrs.length → e.a = some ⟨g, o, none⟩ → ¬ v'.ownBlock = some g := by
    rintro e ⟨h1, h2⟩
    refine ⟨fun hl => ?_, fun g o hl hg x => ?_⟩
    · obtain ⟨g, o, cu, e1, e2, e3, e4⟩ := h1 hl
      exact ⟨g, o, cu, e1, e2, (hgr.block g (lt_of_heap e3) (fun x => h2 g o hl e1 x.symm)).trans e3, e4⟩
    · rcases hw with hw | hw
      · exact h2 g o hl hg (hw.symm.trans x)
      · rw [hw] at x
        simp only [Option.some.injEq] at x
        obtain ⟨g2, o2, cu, e1, _, e3, _⟩ := h1 hl
        rw [hg] at e1
        cases e1
        have := lt_of_heap e3
        omega
  refine ⟨by rw [List.length_append, cs_app]; exact ho, fun e he => ?_, List.pairwise_append.2 ⟨h.apart, hp, hx⟩⟩
  rcases List.mem_append.1 he with h' | h'
  · exact key e (h.ats e h')
  · exact key e (hf e h')

/-- Of what was there and what is made later. -/
theorem Row.apart_later {w w2 : World} {B B2 : Nat} {v v2 : Value} {es fs : List E} (h : Row w B v es) (k : Row w2 B2 v2 fs) (hB : w.heap.size ≤ B2) : (∀ e ∈ es, ∀ f ∈ fs, Apart e f) ∧ ∀ f ∈ fs, ∀ g o, 0 < f.t.attrs.length → f.a = some ⟨g, o, none⟩ → ¬ v.ownBlock = some g := by
  refine ⟨fun e he f hf hl hl' g o g' o' e1 e2 x => ?_, fun f hf g o hl e1 x => ?_⟩
  · subst x
    obtain ⟨g1, o1, cu, a1, _, a3, _⟩ := (h.ats e he).1 hl
    obtain ⟨g2, o2, cu2, b1, b2, _⟩ := (k.ats f hf).1 hl'
    rw [e1] at a1
    rw [e2] at b1
    cases a1
    cases b1
    have := lt_of_heap a3
    omega
  · obtain ⟨g2, o2, cu2, b1, b2, _⟩ := (k.ats f hf).1 hl
    rw [e1] at b1
    cases b1
    have := (h.own.lt g x).2
    omega

theorem Row.cells {w : World} {B : Nat} {a : Option Addr} {n c : Nat} {es : List E} (h : Row w B (.slice a n c) es) (hne : ¬ es = []) : ∃ g, a = some ⟨g, 0, none⟩ ∧ n = es.length ∧ ∀ j u, (cs es)[j]? = some u → w.cell? ((⟨g, 0, none⟩ : Addr).add j) = some u := by
  rcases h.own.2 with ⟨_, h0⟩ | ⟨g, cap, cur, e, hg, hh, hn, hc, hs, ht⟩
  · exact absurd (List.eq_nil_of_length_eq_zero h0) hne
  · cases e
    refine ⟨g, rfl, rfl, fun j u hk => ?_⟩
    rw [add_plainW, Lib.cell_of_heap hh, Nat.zero_add, ← Array.getElem?_toList]
    rw [← ht, List.getElem?_take] at hk
    split at hk
    · exact hk
    · cases hk

/-- append of such a row. -/
theorem wpL_join (w : World) {ops : Array Oper} {rest : List Oper} {o : Oper} {a : Act} {Q : Exit → Act → World → Prop} (hgd : o.guard = none) (s x : Operand)
    (ho : o.op = .call { callee := .builtin .append, args := #[s, x], argTypes := #[45, 45] }) (base : Nat) (v : Value) (es fs : List E) (hs : a.eval s = v) (hown : Row w base v es)
    (g m c : Nat) (hx : a.eval x = .slice (some ⟨g, 0, none⟩) m c) (hm : m = fs.length) (hB : ∀ j u, (cs fs)[j]? = some u → w.cell? ((⟨g, 0, none⟩ : Addr).add j) = some u)
    (hf : ∀ e ∈ fs, OwnAts w base e.a e.t.attrs ∧ ∀ g o, 0 < e.t.attrs.length → e.a = some ⟨g, o, none⟩ → ¬ v.ownBlock = some g) (hp : fs.Pairwise Apart) (hap : ∀ e ∈ es, ∀ f ∈ fs, Apart e f) (hn : es.length + fs.length ≤ 2097152) (hb : base ≤ w.heap.size)
    (h : ∀ a' c' w', Row w' base (.slice a' (es ++ fs).length c') (es ++ fs) → Below base w w' → w.grownBy w' v.ownBlock → wpList Try.prog ops Q rest (a.put o.dst (.slice a' (es ++ fs).length c')) w') : wpList Try.prog ops Q (o :: rest) a w := by
  subst hm
  obtain ⟨i0, hi, hz0, hz1, hz2⟩ := info_parts infoR
  refine wpList_append_own_at w hgd s x 45 ho base 78 i0 _ 4 64 Try.underlying45 hi hz0 hz1 hz2 rfl (by decide) v es.length (cs es) hs hown.own ⟨g, 0, none⟩ fs.length c (cs fs) hx (cs_len fs) hB (cs_cell fs) (by unfold maxLen; omega) (by omega) hb ?_
  intro v' w' ho' hg' _ hw'
  have hr := hown.join hf hp hap ho' hg' hw'
  obtain ⟨a', c', hv'⟩ := hr.slice
  subst hv'
  exact h a' c' w' hr ((Below.refl base w).grown hg' hb (fun k e => (hown.own.lt k e).1)) hg'

/-- .. as one step of a region that draws. -/
theorem step_join {ops : Array Oper} {o : Oper} {a : Act} {w : World} {K : Act → World → Prop} {Q : Exit → Act → World → Prop} {F : Prop} (hgd : o.guard = none) (s x : Operand)
    (ho : o.op = .call { callee := .builtin .append, args := #[s, x], argTypes := #[45, 45] }) (base : Nat) (v : Value) (es fs : List E) (hs : a.eval s = v) (hown : Row w base v es)
    (g m c : Nat) (hx : a.eval x = .slice (some ⟨g, 0, none⟩) m c) (hm : m = fs.length) (hB : ∀ j u, (cs fs)[j]? = some u → w.cell? ((⟨g, 0, none⟩ : Addr).add j) = some u)
    (hf : ∀ e ∈ fs, OwnAts w base e.a e.t.attrs ∧ ∀ g o, 0 < e.t.attrs.length → e.a = some ⟨g, o, none⟩ → ¬ v.ownBlock = some g) (hp : fs.Pairwise Apart) (hap : ∀ e ∈ es, ∀ f ∈ fs, Apart e f) (hn : es.length + fs.length ≤ 2097152) (hb : base ≤ w.heap.size)
    (h : ∀ a' c' w', Row w' base (.slice a' (es ++ fs).length c') (es ++ fs) → Below base w w' → w.grownBy w' v.ownBlock → K (a.put o.dst (.slice a' (es ++ fs).length c')) w') :
    if Region.wanted o (yielded ops a.tmps) = true then Oper.wp Try.prog o a w K Q else F := by
  have hw : Region.wanted o (yielded ops a.tmps) = true := by simp [Region.wanted, hgd]
  rw [if_pos hw]
  subst hm
  obtain ⟨i0, hi, hz0, hz1, hz2⟩ := info_parts infoR
  obtain ⟨v', w', hr, ho', hg', _, hw'⟩ := run_append_own_at (P := Try.prog) w base 45 o.type 78 i0 _ 4 64 Try.underlying45 hi hz0 hz1 hz2 rfl (by decide) v es.length (cs es) hown.own ⟨g, 0, none⟩ fs.length c (cs fs) (cs_len fs) hB (cs_cell fs) (by unfold maxLen; omega) (by omega) hb
  have hrow := hown.join hf hp hap ho' hg' hw'
  obtain ⟨a', c', hv'⟩ := hrow.slice
  subst hv'
  unfold Oper.wp execOp
  simp only [ho, resolve, invoke, builtin, Sem.run_bind, Sem.run_pure, Result.andThen_ok, List.map_toArray, List.map_cons, List.map_nil, hs, hx, hr]
  exact h a' c' w' hrow ((Below.refl base w).grown hg' hb (fun k e => (hown.own.lt k e).1)) hg'

end Go.Proofs.Ytkcmagfbacmllaa.Tn

namespace Go.Proofs.Ytkcmagfbacmllaa
open Go.RowKit
set_option linter.unusedVariables false
set_option linter.unusedSimpArgs false

theorem TkRow.nodeAt {w : World} {a : Option Addr} {ts : List Tk} (h : TkRow w a ts) (j : Nat) (hj : j < ts.length) : ∃ b o aa cap, a = some ⟨b, o, none⟩ ∧ b < w.heap.size ∧ w.cell? ⟨b, o + j * 4, none⟩ = some (.int .i64 (nodeAt ts j).kind) ∧ w.cell? ⟨b, o + j * 4 + 1, none⟩ = some (.string (nodeAt ts j).name)
    ∧ w.cell? ⟨b, o + j * 4 + 2, none⟩ = some (.slice aa (nodeAt ts j).attrs.length cap) ∧ w.cell? ⟨b, o + j * 4 + 3, none⟩ = some (.string (nodeAt ts j).text) ∧ AtRow w aa (nodeAt ts j).attrs := by
  rw [nodeAt_at hj]
  exact h j hj

set_option maxRecDepth 8000 in
set_option maxHeartbeats 8000000 in
theorem cTokS (a : Option Addr) (cap : Nat) (ts : List Tk) (hn : ts.length ≤ 1048576) (hz : TksSz 1048576 ts) : ∀ (f k : Nat) (w : World), TkRow w a ts → k < ts.length → ts.length - k ≤ f →
    Calls Try.prog 69 #[.slice a ts.length cap, .int .i64 (k : Int)] w fun e w' => ∃ a' c' es, e = .returned (.slice a' es.length c') ∧ Tn.Row w' w.heap.size (.slice a' es.length c') es ∧ es.map (·.t) = tokN ts f k ∧ ¬ es = [] ∧ Below w.heap.size w w' := by
  intro f
  induction f with
  | zero => intro k w _ h1 h2; omega
  | succ f ih =>
    intro k w hR hk hf
    have IH := hid ih
    clear ih
    obtain ⟨b, o, aa, ca, rfl, hb, c0, c1, c2, c3, cr⟩ := hR.nodeAt k hk
    have HR := hid hR
    have HZ := hid hz
    have HTL := hid (fun e h1 h2 => tokKids_len (ts := ts) f (e := e) hk h1 h2)
    have HTL2 := hid (fun i (hi : i < ts.length) => tokN_len (ts := ts) f i hi)
    have HEN := hid (endN_le hk)
    have CE := hid (fun wx h => cEndS (some ⟨b, o, none⟩) cap ts k wx h hk hn)
    have HSZ : Hid (TkSz 1048576 (nodeAt ts k)) := by rw [nodeAt_at hk]; exact hz _ (List.getElem_mem hk)
    obtain ⟨V, hV⟩ : ∃ V, tokN ts (f + 1) k = V := ⟨_, rfl⟩
    have HV := hid hV
    rw [hV]
    have HT0 : Hid ((nodeAt ts k).name.size = 0 → V = [txT (nodeAt ts k)]) := fun h => by rw [← HV.out, tokN]; exact if_pos h
    have HT1 : Hid (¬ (nodeAt ts k).name.size = 0 → V = opT (nodeAt ts k) :: ((kidsTo ts k (endN ts k)).flatMap (tokN ts f) ++ [clT (nodeAt ts k)])) := fun h => by rw [← HV.out, tokN]; exact if_neg h
    obtain ⟨T, hT⟩ : ∃ T, nodeAt ts k = T := ⟨_, rfl⟩
    rw [hT] at c0 c1 c2 c3 cr HSZ HT0 HT1
    obtain ⟨n, hnn⟩ : ∃ n, ts.length = n := ⟨_, rfl⟩
    have HN := hid hnn
    have hkk := hk
    rw [hnn] at hn hk hf CE ⊢
    obtain ⟨E, hE⟩ : ∃ E, endN ts k = E := ⟨_, rfl⟩
    rw [hE] at CE HT1 HEN HTL
    have HEE := hid hE
    have HKK := hid hkk
    have HF := hid hf
    have HTT := hid hT
    clear hV hnn hR hz hT hE hkk hf
    obtain ⟨tk, tn, tl, tx⟩ := T
    simp only at c0 c1 c2 c3 cr HSZ HT0 HT1 HTT
    have hkn : (k : Int) < (n : Int) := by omega
    have E1 := empty_is tn
    have z1 := HSZ.out.1
    simp only at z1
    by_cases e1 : tn.size = 0
    · have HW := hid (HT0.out e1)
      rw [decide_eq_true e1] at E1
      have M0 := hid (heap_alloc_new w (.cells #[.int .i64 3, .string ⟨#[]⟩, .slice none 0 0, .string tx] 78))
      have HB0 := hid ((Below.refl w.heap.size w).alloc (Nat.le_refl _) (.cells #[.int .i64 3, .string ⟨#[]⟩, .slice none 0 0, .string tx] 78))
      have HRow := hid (Tn.Row.one (e := ⟨txT ⟨tk, tn, tl, tx⟩, none, 0⟩) (Nat.le_refl w.heap.size) M0.out (fun h => absurd h (Nat.not_lt_zero _)) (fun g o h => absurd h (Nat.not_lt_zero _)))
      clear cr
      go_enter Try.func69, Try.ntmps69
      go_wp2_with fail
      go_ret
      exact ⟨_, _, [⟨txT ⟨tk, tn, tl, tx⟩, none, 0⟩], rfl, HRow.out, by rw [HW.out]; rfl, by simp, HB0.out⟩
    · have HW := hid (HT1.out e1)
      rw [decide_eq_false e1] at E1
      clear HT0 HT1 e1
      have CC := hid (fun wx (h : AtRow wx aa tl) => cCopyS aa ca tl wx h HSZ.out.2.1)
      have CR := hid cr
      obtain ⟨m, hm⟩ : ∃ m, tl.length = m := ⟨_, rfl⟩
      have HM := hid hm
      rw [hm] at c2 CC
      clear cr hm
      go_enter Try.func69, Try.ntmps69
      go_wp2_with fail
      have HBc := hid ((Below.refl w.heap.size w).drew)
      have hk1 := hid (And.intro c1 (And.intro c2 hb))
      go_region_held3 (fun w' => w'.cell? ⟨b, o + k * 4 + 1, none⟩ = some (.string tn) ∧ w'.cell? ⟨b, o + k * 4 + 2, none⟩ = some (.slice aa m ca)) (first | exact ⟨(HBc.out.cell (p := ⟨b, o + k * 4 + 1, none⟩) hk1.out.2.2).trans hk1.out.1, (HBc.out.cell (p := ⟨b, o + k * 4 + 2, none⟩) hk1.out.2.2).trans hk1.out.2.1⟩ | go_keep)
        (first
          | (go_at_call 61; refine (CC.out _ (CR.out.below HBc.out)).mono ?_; rintro e w1 ⟨a1, cc1, rfl, ha1, hb1⟩; have HA1 := hid (show OwnAts w1 w.heap.size a1 tl from ha1); replace HBc := hid (bb HBc.out hb1); clear hb1 ha1))
      have M1 := hid (heap_alloc_new w1 (.cells #[.int .i64 1, .string tn, .slice a1 m cc1, .string ⟨#[]⟩] 78))
      have HL1 := hid ((Below.refl w1.heap.size w1).alloc (Nat.le_refl _) (.cells #[.int .i64 1, .string tn, .slice a1 m cc1, .string ⟨#[]⟩] 78))
      have HB1 := hid (bb HBc.out HL1.out)
      have M2 := M1.out
      rw [← HM.out] at M2
      have HRow := hid (Tn.Row.one (B := w.heap.size) (e := ⟨opT ⟨tk, tn, tl, tx⟩, a1, cc1⟩) HBc.out.size M2 (HA1.out.below (by rw [HM.out]; exact HL1.out)) (fun g o h e => by
        obtain ⟨g', o', cu, e', _, hh, _⟩ := HA1.out h
        simp only at e
        rw [e] at e'
        cases e'
        have := lt_of_heap hh
        omega))
      rw [HM.out] at HRow
      clear M2 M1 HL1 HA1 HBc hk1 c0 c1 c2 c3 hb E1
      go_wp2_with fail
      go_loopw [5, 6] (fun v x wr => ∃ (i : Nat) (a' : Option Addr) (c' : Nat) (es : List Tn.E), x = .int .i64 (i : Int) ∧ k < i ∧ i ≤ E ∧ Hid (v = .slice a' es.length c' ∧ Tn.Row wr w.heap.size (.slice a' es.length c') es ∧ es.map (·.t) = opT ⟨tk, tn, tl, tx⟩ :: (kidsTo ts k i).flatMap (tokN ts f) ∧ Below w.heap.size w wr)) (fun _ x _ => E - (intOf x).toNat)
      case atStart => exact ⟨k + 1, _, _, [⟨opT ⟨tk, tn, tl, tx⟩, a1, cc1⟩], by go_num, by omega, by have := HEN.out; omega, rfl, HRow.out, by rw [kidsTo_first]; rfl, HB1.out⟩
      case round =>
        clear HRow HB1
        obtain ⟨i, a', c', es, rfl, hki, hiE, HX⟩ := hrel
        obtain ⟨rfl, hrow, hmap, hbel⟩ := HX.out
        have HRW := hid hrow
        have HMP := hid hmap
        have HBL := hid hbel
        have hlen := congrArg List.length hmap
        rw [List.length_map, List.length_cons] at hlen
        have hkl := HTL.out i hki hiE
        have hE1 := HEN.out
        rw [HN.out] at hE1
        have hes : es.length ≤ 2 * (E - (k + 1)) + 1 := by omega
        have hwB := hbel.size
        clear hrow hmap hbel HX hlen hkl
        by_cases hlt : i < E
        · have hin : i < n := by omega
          have hins : i < ts.length := by rw [HN.out]; exact hin
          have hinn : (i : Int) < (n : Int) := by omega
          have hd1 : decide ((i : Int) < (E : Int)) = true := decide_eq_true (by omega)
          obtain ⟨b', o', e', c0, _⟩ := (HR.out.below HBL.out).kindAt i hins
          obtain ⟨rfl, rfl⟩ : b = b' ∧ o = o' := by cases e'; exact ⟨rfl, rfl⟩
          have HKN := hid (kidsTo_next (ts := ts) hki)
          by_cases hp : parI ts i = (k : Int)
          · rw [if_pos hp] at HKN
            have hd2 : (parI ts i == (k : Int)) = true := by simpa using hp
            generalize parI ts i = P at *
            clear hp e'
            have CT := hid (IH.out i wr (HR.out.below HBL.out) hins (by have := HF.out; rw [HN.out]; omega))
            rw [HN.out] at CT
            have h2i := HTL2.out i hins
            have h2e := kid_end HKK.out hki (by rw [HEE.out]; exact hlt)
            rw [HEE.out] at h2e
            go_wp2_with fail
            refine (CE.out _ (HR.out.below HBL.out)).mono ?_
            rintro e w2 ⟨rfl, rfl⟩
            go_wp2_with fail
            refine CT.out.mono ?_
            rintro e w3 ⟨a3, c3, fs, rfl, hr3, hm3, hne3, hb3⟩
            have hfl : fs.length ≤ 2 * (endN ts i - i) := by have := congrArg List.length hm3; rw [List.length_map] at this; omega
            obtain ⟨g3, hg3, _, hcell⟩ := hr3.cells hne3
            subst hg3
            have HR3 := hid (HRW.out.below hb3)
            obtain ⟨hap, hnb⟩ := HRW.out.apart_later hr3 (Nat.le_refl _)
            have hr4 := hr3.mono hwB
            have HF3 := hid (show ∀ e ∈ fs, OwnAts w3 w.heap.size e.a e.t.attrs ∧ ∀ g o, 0 < e.t.attrs.length → e.a = some ⟨g, o, none⟩ → ¬ (Value.slice a' es.length c').ownBlock = some g from fun e he => ⟨(hr4.ats e he).1, hnb e he⟩)
            have HAP := hid hap
            have HPW := hid hr3.apart
            have HCL := hid hcell
            have HMP2 := hid (show (es ++ fs).map (·.t) = opT ⟨tk, tn, tl, tx⟩ :: (kidsTo ts k (i + 1)).flatMap (tokN ts f) by
              rw [List.map_append, HMP.out, hm3, HKN.out, List.flatMap_append]
              simp)
            have HB3 := hid (bb HBL.out hb3)
            have hsz3 := hb3.size
            have hnn2 : es.length + fs.length ≤ 2097152 := by
              have h1 := congrArg List.length HMP2.out
              rw [List.length_map, List.length_append, List.length_cons] at h1
              have h2 := HTL.out (i + 1) (by omega) (by omega)
              omega
            clear hr3 hm3 hne3 hb3 hap hnb hr4 hcell hfl h2i h2e c0
            go_wp2_with (at_builtin; refine Tn.wpL_join _ rfl _ _ rfl w.heap.size _ es fs rfl HR3.out g3 fs.length c3 rfl rfl HCL.out HF3.out HPW.out HAP.out hnn2 (by omega) ?_; intro a5 c5 w5 hr5 hb5 _)
            have HR5 := hid hr5
            have HB5 := hid (HB3.out.trans hb5)
            clear hr5 hb5
            go_wp2_with fail
            go_roundw
            case rel => exact ⟨i + 1, a5, c5, es ++ fs, by go_num, by omega, by omega, by rw [List.length_append], HR5.out, HMP2.out, HB5.out⟩
            case measure => simp [intOf]; omega
          · rw [if_neg hp, List.append_nil] at HKN
            have hd2 : (parI ts i == (k : Int)) = false := by simpa using hp
            generalize parI ts i = P at *
            clear hp e'
            go_wp2_with fail
            refine (CE.out _ (HR.out.below HBL.out)).mono ?_
            rintro e w2 ⟨rfl, rfl⟩
            go_wp2_with fail
            go_roundw
            case rel => exact ⟨i + 1, a', c', es, by go_num, by omega, by omega, rfl, HRW.out, by rw [HKN.out]; exact HMP.out, HBL.out⟩
            case measure => simp [intOf]; omega
        · have hie : i = E := by omega
          subst hie
          have hd1 : decide ((i : Int) < (i : Int)) = false := decide_eq_false (by omega)
          have HES := hid hes
          clear hlt hiE hes
          obtain ⟨b', o', aa', ca', e', hb', c0, c1, c2, c3, _⟩ := (HR.out.below HBL.out).nodeAt k HKK.out
          obtain ⟨rfl, rfl⟩ : b = b' ∧ o = o' := by cases e'; exact ⟨rfl, rfl⟩
          rw [HTT.out] at c1
          simp only at c1
          clear c0 c2 c3 e'
          have M4 := hid (heap_alloc_new wr (.cells #[.int .i64 2, .string tn, .slice none 0 0, .string ⟨#[]⟩] 78))
          have HL4 := hid ((Below.refl wr.heap.size wr).alloc (Nat.le_refl _) (.cells #[.int .i64 2, .string tn, .slice none 0 0, .string ⟨#[]⟩] 78))
          have HR4 := hid (HRW.out.below HL4.out)
          have HO4 := hid (Tn.Row.one (B := wr.heap.size) (e := ⟨clT ⟨tk, tn, tl, tx⟩, none, 0⟩) (Nat.le_refl wr.heap.size) M4.out (fun h => absurd h (Nat.not_lt_zero _)) (fun g o h => absurd h (Nat.not_lt_zero _)))
          obtain ⟨g4, hg4, hone, hcell⟩ := HO4.out.cells (by simp)
          cases hg4
          clear hone
          have HCL := hid hcell
          have HW2 := hid (show (es ++ [(⟨clT ⟨tk, tn, tl, tx⟩, none, 0⟩ : Tn.E)]).map (·.t) = V by
            rw [List.map_append, HMP.out, HW.out]
            simp)
          have HB4 := hid (HBL.out.alloc hwB (.cells #[.int .i64 2, .string tn, .slice none 0 0, .string ⟨#[]⟩] 78))
          clear hcell
          go_wp2_with fail
          refine (CE.out _ (HR.out.below HBL.out)).mono ?_
          rintro e w2 ⟨rfl, rfl⟩
          go_wp2_with (at_builtin; refine Tn.wpL_join _ rfl _ _ rfl w.heap.size _ es [⟨clT ⟨tk, tn, tl, tx⟩, none, 0⟩] rfl HR4.out w2.heap.size 1 1 rfl rfl HCL.out (fun x hx => ?d1) (List.pairwise_singleton _ _) (fun e he x hx => ?d2) ?d3 ?d4 ?_)
          case d1 =>
            rw [List.mem_singleton] at hx
            subst hx
            exact ⟨fun h => absurd h (Nat.not_lt_zero _), fun g o h => absurd h (Nat.not_lt_zero _)⟩
          case d2 =>
            rw [List.mem_singleton] at hx
            subst hx
            exact fun _ h => absurd h (Nat.not_lt_zero _)
          case d3 => have := HES.out; simp; omega
          case d4 => simp; omega
          intro a5 c5 w5 hr5 hb5 _
          have HR5 := hid hr5
          have HB5 := hid (HB4.out.trans hb5)
          clear hr5 hb5
          go_wp2_with fail
          go_ret
          have hl5 : (es ++ [(⟨clT ⟨tk, tn, tl, tx⟩, none, 0⟩ : Tn.E)]).length = es.length + 1 := by simp
          exact ⟨a5, c5, es ++ [⟨clT ⟨tk, tn, tl, tx⟩, none, 0⟩], by rw [hl5]; rfl, by rw [hl5]; exact HR5.out, HW2.out, by simp, HB5.out⟩

/-- What TokensOf answers. -/
noncomputable def toksT (ts : List Tk) : List Tk := if treeB ts = true then tokN ts ts.length 0 else []

theorem toksT_sz {ts : List Tk} (hz : TksSz 1048576 ts) : TksSz 1048576 (toksT ts) := by
  unfold toksT
  split
  · exact tokN_sz hz _ _
  · exact fun t ht => absurd ht List.not_mem_nil

theorem treeB_P {ts : List Tk} (h : treeB ts = true) : TreeP ts := by
  by_cases q : TreeP ts
  · exact q
  · rw [treeB_f q] at h
    cases h

set_option maxHeartbeats 2000000 in
theorem cTokensOfS (a : Option Addr) (cap : Nat) (ts : List Tk) (w : World) (hR : TkRow w a ts) (hn : ts.length ≤ 1048576) (hz : TksSz 1048576 ts) :
    Calls Try.prog 30 #[.slice a ts.length cap] w fun e w' => ∃ a' c' es, e = .returned (.slice a' es.length c') ∧ Tn.Row w' w.heap.size (.slice a' es.length c') es ∧ es.map (·.t) = toksT ts ∧ Below w.heap.size w w' := by
  have C := hid (cTreeOkS a cap ts w hR hn hz)
  have HR := hid hR
  cases q : treeB ts
  · have e1 : toksT ts = [] := by unfold toksT; rw [q]; rfl
    rw [e1]
    rw [q] at C
    clear hz hR e1
    generalize ts.length = n at *
    go_enter Try.func30, Try.ntmps30
    go_wp2_with fail
    refine C.out.mono ?_
    rintro e w1 ⟨rfl, hb1⟩
    have HB1 := hid hb1
    have hsz := hb1.size
    clear hb1
    go_wp2_with fail
    go_ret
    exact ⟨_, _, [], rfl, Tn.Row.start _ _ _ hsz (heap_alloc_new _ _), rfl, HB1.out.alloc hsz _⟩
  · have hlen := (treeB_P q).1
    have e1 : toksT ts = tokN ts ts.length 0 := by unfold toksT; rw [q]; rfl
    have CE := hid (fun wx h => cTokS a cap ts hn hz ts.length 0 wx h (by omega) (by omega))
    rw [e1]
    rw [q] at C
    clear hz hR e1 hlen
    generalize tokN ts ts.length 0 = E at *
    generalize ts.length = n at *
    go_enter Try.func30, Try.ntmps30
    go_wp2_with fail
    refine C.out.mono ?_
    rintro e w1 ⟨rfl, hb1⟩
    have HB1 := hid hb1
    clear hb1
    go_wp2_with fail
    refine (CE.out _ (HR.out.below HB1.out)).mono ?_
    rintro e w2 ⟨a2, c2, es, rfl, hr, hm, _, hb2⟩
    have HO := hid (hr.mono HB1.out.size)
    have HM := hid hm
    have HB2 := hid (bb HB1.out hb2)
    clear hr hm hb2
    go_wp2_with fail
    go_ret
    exact ⟨a2, c2, es, rfl, HO.out, HM.out, HB2.out⟩

end Go.Proofs.Ytkcmagfbacmllaa

namespace Go.Proofs.Ytkcmagfbacmllaa
open Go.RowKit

theorem c__impl_sign__reference_amp (b : UInt8) (w : World) (h0 : (b.toNat : Int) ≤ 38) (h1 : (38 : Int) ≤ b.toNat) :
    Calls Try.prog 144 #[.int .u8 b.toNat] w fun e w' => e = .returned (.string ⟨#[38, 97, 109, 112, 59]⟩) ∧ w' = w := by
  go_enter Try.func144, Try.ntmps144
  go_wp2
  go_ret
  exact ⟨rfl, rfl⟩

theorem c__impl_sign__reference_lt (b : UInt8) (w : World) (h0 : (b.toNat : Int) ≤ 60) (h1 : (60 : Int) ≤ b.toNat) :
    Calls Try.prog 144 #[.int .u8 b.toNat] w fun e w' => e = .returned (.string ⟨#[38, 108, 116, 59]⟩) ∧ w' = w := by
  go_enter Try.func144, Try.ntmps144
  go_wp2
  go_ret
  exact ⟨rfl, rfl⟩

theorem c__impl_sign__reference_gt (b : UInt8) (w : World) (h0 : (b.toNat : Int) ≤ 62) (h1 : (62 : Int) ≤ b.toNat) :
    Calls Try.prog 144 #[.int .u8 b.toNat] w fun e w' => e = .returned (.string ⟨#[38, 103, 116, 59]⟩) ∧ w' = w := by
  go_enter Try.func144, Try.ntmps144
  go_wp2
  go_ret
  exact ⟨rfl, rfl⟩

theorem c__impl_sign__reference_quot (b : UInt8) (w : World) (h0 : (b.toNat : Int) ≤ 34) (h1 : (34 : Int) ≤ b.toNat) :
    Calls Try.prog 144 #[.int .u8 b.toNat] w fun e w' => e = .returned (.string ⟨#[38, 113, 117, 111, 116, 59]⟩) ∧ w' = w := by
  go_enter Try.func144, Try.ntmps144
  go_wp2
  go_ret
  exact ⟨rfl, rfl⟩

theorem c__impl_sign__reference_no (b : UInt8) (w : World) (h0 : ¬ (b.toNat : Int) = 38) (h1 : ¬ (b.toNat : Int) = 60) (h2 : ¬ (b.toNat : Int) = 62) (h3 : ¬ (b.toNat : Int) = 34) :
    Calls Try.prog 144 #[.int .u8 b.toNat] w fun e w' => e = .returned (.string ⟨#[]⟩) ∧ w' = w := by
  go_enter Try.func144, Try.ntmps144
  go_wp2
  go_ret
  exact ⟨rfl, rfl⟩

theorem ret_str {a b : List UInt8} (h : a = b) : Ending.returned (.string ⟨a.toArray⟩) = .returned (.string ⟨b.toArray⟩) := by rw [h]

end Go.Proofs.Ytkcmagfbacmllaa
