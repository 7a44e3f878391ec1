/- What was drawn is shown without ! and -: a letter that was bent twice holds no remark (mathematics alone). The draws DrawShowTree, DrawGrown, DrawReadTree. The laws' own comparison of rows of nodes. The laws' own comparison of rows of tokens. -/
import Derived.Test.YteninofjeidljaaGreatM30
import Derived.Test.YteninofjeidljaaGreatM32
import Derived.Test.YteninofjeidljaaGreatM28
import Derived.Test.YteninofjeidljaaGreatM16
import Derived.Test.YteninofjeidljaaGreatM20
import Derived.Test.YteninofjeidljaaGreatM3
import Derived.Test.YteninofjeidljaaGreatM1
import Derived.Deep.CutRange
namespace Go.Proofs.YteninofjeidljaaGreat

open Go.RowKit

set_option linter.unusedVariables false

set_option linter.unusedSimpArgs false

theorem clean_name {l : List UInt8} (h : nameL l = true) : l.all cleanB = true := by
  have key : ∀ y : UInt8, letB y.toNat = true ∨ y.toNat = 58 → cleanB y = true := fun y h => by
    unfold cleanB
    rw [Bool.and_eq_true]
    constructor
    · simp only [Bool.not_eq_true', decide_eq_false_iff_not]
      rintro rfl
      rcases h with h | h
      · exact absurd h (by decide)
      · exact absurd h (by decide)
    · simp only [Bool.not_eq_true', decide_eq_false_iff_not]
      rintro rfl
      rcases h with h | h
      · exact absurd h (by decide)
      · exact absurd h (by decide)
  have letters : ∀ l : List UInt8, lettersL l = true → ∀ y ∈ l, letB y.toNat = true := fun l h y hy => by
    unfold lettersL allL at h
    rw [Bool.and_eq_true] at h
    exact List.all_eq_true.1 h.2 y hy
  rw [List.all_eq_true]
  intro y hy
  unfold nameL at h
  split at h
  · exact key y (.inl (letters l h y hy))
  · rename_i a ha
    rw [Bool.and_eq_true] at h
    unfold preL locL at h
    rw [ha] at h
    simp only at h
    have e : l = l.take a ++ l.drop a := (List.take_append_drop a l).symm
    rw [e, List.mem_append] at hy
    rcases hy with hy | hy
    · exact key y (.inl (letters _ h.1 y hy))
    · unfold colonAt at ha
      rw [List.findIdx?_eq_some_iff_getElem] at ha
      obtain ⟨hl, hc, _⟩ := ha
      rw [List.drop_eq_getElem_cons hl] at hy
      rcases List.mem_cons.1 hy with rfl | hy
      · exact key _ (.inr (by simpa using hc))
      · exact key y (.inl (letters _ h.2 y hy))

theorem clean_esc (q : Bool) {l : List UInt8} (h : l.all cleanB = true) : (escapedL q l).all cleanB = true := by
  unfold escapedL
  split
  · rw [List.all_eq_true]
    intro y hy
    unfold escL at hy
    obtain ⟨c, hc, hy⟩ := List.mem_flatMap.1 hy
    have hcc := List.all_eq_true.1 h c hc
    unfold escB at hy
    split at hy
    · exact List.all_eq_true.1 (show ([38, 97, 109, 112, 59] : List UInt8).all cleanB = true by decide) y hy
    · split at hy
      · exact List.all_eq_true.1 (show ([38, 108, 116, 59] : List UInt8).all cleanB = true by decide) y hy
      · split at hy
        · split at hy
          · rw [List.mem_singleton.1 hy]; exact hcc
          · exact List.all_eq_true.1 (show ([38, 103, 116, 59] : List UInt8).all cleanB = true by decide) y hy
        · split at hy
          · split at hy
            · exact List.all_eq_true.1 (show ([38, 113, 117, 111, 116, 59] : List UInt8).all cleanB = true by decide) y hy
            · rw [List.mem_singleton.1 hy]; exact hcc
          · rw [List.mem_singleton.1 hy]; exact hcc
  · rfl

/-- A text without them. -/
abbrev Cl (s : ByteArray) : Prop := s.data.toList.all cleanB = true

theorem Cl.app {a b : ByteArray} (h1 : Cl a) (h2 : Cl b) : Cl (a ++ b) := by
  unfold Cl at *
  rw [show (a ++ b).data.toList = a.data.toList ++ b.data.toList by simp, List.all_append, h1, h2]
  rfl

theorem Cl.esc (q : Bool) {s : ByteArray} (h : Cl s) : Cl (escS q s) := by
  unfold Cl escS
  exact clean_esc q h

theorem cl_ats : ∀ (l : List At) (s : ByteArray), (∀ x ∈ l, Cl x.name ∧ Cl x.value) → Cl s → Cl (atsS l s)
  | [], s, _, hs => hs
  | x :: l, s, h, hs => by
    obtain ⟨h1, h2⟩ := h x List.mem_cons_self
    refine cl_ats l _ (fun y hy => h y (List.mem_cons_of_mem _ hy)) ?_
    refine hs.app ?_
    unfold atS
    exact ((((show Cl ⟨#[32]⟩ by decide).app h1).app (show Cl ⟨#[61, 34]⟩ by decide)).app (h2.esc true)).app (show Cl ⟨#[34]⟩ by decide)

theorem tok_clean {t : Tk} (h : tokB t = true) (h2 : AtV 40 t.attrs) (h3 : vz t.text ≤ 40) : Cl (showS t) := by
  have ht := (vz_size h3 (by decide)).2
  unfold showS
  unfold tokB at h
  split at h
  · rename_i hk
    rw [Bool.and_eq_true, Bool.and_eq_true] at h
    have ho : AttrsOk t.attrs := by
      by_cases q : AttrsOk t.attrs
      · exact q
      · rw [attrsB_f q] at h; cases h.2.1
    rw [if_neg (by omega), if_neg (by omega)]
    refine (cl_ats _ _ (fun x hx => ?_) ((show Cl ⟨#[60]⟩ by decide).app (clean_name h.1))).app (show Cl ⟨#[62]⟩ by decide)
    obtain ⟨j, hj, rfl⟩ := List.getElem_of_mem hx
    exact ⟨clean_name (ho.2.1 j hj hj).1, (vz_size (h2 _ hx).2 (by decide)).2⟩
  · split at h
    · rename_i hk
      rw [Bool.and_eq_true] at h
      rw [if_pos hk]
      exact ((show Cl ⟨#[60, 47]⟩ by decide).app (clean_name h.1)).app (show Cl ⟨#[62]⟩ by decide)
    · split at h
      · rename_i k1 k2 hk
        rw [if_neg k2, if_pos hk]
        exact Cl.esc false ht
      · cases h

theorem tokN_v {ts : List Tk} (hz : TksV 40 ts) : ∀ f k, ∀ t ∈ tokN ts f k, AtV 40 t.attrs ∧ vz t.text ≤ 40
  | 0, k => fun t ht => by simp [tokN] at ht
  | f + 1, k => by
    have hk : AtV 40 (nodeAt ts k).attrs ∧ vz (nodeAt ts k).text ≤ 40 := by
      by_cases h : k < ts.length
      · rw [nodeAt_at h]; exact ⟨(hz _ (List.getElem_mem h)).2.2.1, (hz _ (List.getElem_mem h)).2.2.2⟩
      · unfold nodeAt
        rw [List.getElem?_eq_none (by omega)]
        exact ⟨fun x hx => absurd hx List.not_mem_nil, by show vz ⟨#[]⟩ ≤ 40; decide⟩
    obtain ⟨z3, z4⟩ := hk
    intro t ht
    unfold tokN at ht
    split at ht
    · rw [List.mem_singleton] at ht
      subst ht
      exact ⟨fun x hx => absurd hx List.not_mem_nil, z4⟩
    · rcases List.mem_cons.1 ht with rfl | ht
      · exact ⟨z3, by show vz ⟨#[]⟩ ≤ 40; decide⟩
      · rcases List.mem_append.1 ht with ht | ht
        · obtain ⟨i, _, hi⟩ := List.mem_flatMap.1 ht
          exact tokN_v hz f i t hi
        · rw [List.mem_singleton] at ht
          subst ht
          exact ⟨fun x hx => absurd hx List.not_mem_nil, by show vz ⟨#[]⟩ ≤ 40; decide⟩

theorem cl_all : ∀ (l : List Tk) (s : ByteArray), (∀ t ∈ l, Cl (showS t)) → Cl s → Cl (l.foldl (fun s t => s ++ showS t) s)
  | [], s, _, hs => hs
  | t :: l, s, h, hs => cl_all l _ (fun y hy => h y (List.mem_cons_of_mem _ hy)) (hs.app (h t List.mem_cons_self))

/-- What is shown holds none. -/
theorem shown_clean {ts : List Tk} (hz : TksV 40 ts) : cntB (shownN ts) = 0 := by
  have hc : Cl (shownN ts) := by
    unfold shownN
    split
    · rename_i q
      have hT := treeB_P q
      have h1 := hT.1
      unfold showAll
      exact cl_all _ _ (fun t ht => tok_clean (tokN_right hT _ _ (by omega) t ht) (tokN_v hz _ _ t ht).1 (tokN_v hz _ _ t ht).2) (by decide)
    · decide
  unfold cntB
  rw [List.countP_eq_zero]
  intro c hcc
  have := List.all_eq_true.1 hc c hcc
  rw [this]
  decide

theorem shown_small {ts : List Tk} (hz : TksSz 1048576 ts) (hn : ts.length ≤ 11) : (shownN ts).size ≤ 2000000000 := by
  unfold shownN
  split
  · rename_i q
    have hT := treeB_P q
    have h1 := hT.1
    have h3 := tokN_len (ts := ts) ts.length 0 (by omega)
    have h4 := endN_le (ts := ts) (k := 0) (by omega)
    have h5 := showAll_size (l := tokN ts ts.length 0) (fun t ht => showS_size (tokN_sz hz _ _ t ht) (tokN_six (tree_six hT) _ _ t ht))
    have h6 : 60000000 * (tokN ts ts.length 0).length ≤ 60000000 * 22 := Nat.mul_le_mul_left _ (by omega)
    omega
  · exact Nat.zero_le _

/-- Where at most two of them stand no remark begins. -/
theorem noDD_of {s : ByteArray} (h : cntB s ≤ 2) : NoDD s := by
  intro q _ h1 ⟨h2, h3⟩
  obtain ⟨l1, e1⟩ := sgn_lt h1 (by decide)
  obtain ⟨l2, e2⟩ := sgn_lt h2 (by decide)
  obtain ⟨l3, e3⟩ := sgn_lt h3 (by decide)
  have hd : s.data.toList.drop (q + 1) = 33 :: 45 :: 45 :: s.data.toList.drop (q + 4) := by
    rw [drop_at s (q + 1) l1, drop_at s (q + 2) l2, drop_at s (q + 3) l3]
    rw [show s[q + 1] = 33 from UInt8.toNat_inj.1 e1, show s[q + 2] = 45 from UInt8.toNat_inj.1 e2, show s[q + 3] = 45 from UInt8.toNat_inj.1 e3]
  have hs : (s.data.toList.drop (q + 1)).countP (fun c => !cleanB c) ≤ cntB s := List.Sublist.countP_le (List.drop_sublist _ _)
  rw [hd, List.countP_cons, List.countP_cons, List.countP_cons] at hs
  rw [if_pos (show (!cleanB 33) = true by decide), if_pos (show (!cleanB 45) = true by decide)] at hs
  omega

end Go.Proofs.YteninofjeidljaaGreat

namespace Go.Proofs.YteninofjeidljaaGreat

open Go.RowKit

set_option linter.unusedVariables false

set_option linter.unusedSimpArgs false

theorem cs_put {es : List Tn.E} : ∀ {x : Nat} (hx : x < es.length) (e' : Tn.E), ((((Tn.cs es).set (x * 4) (.int .i64 e'.t.kind)).set (x * 4 + 1) (.string e'.t.name)).set (x * 4 + 2) (.slice e'.a e'.t.attrs.length e'.cap)).set (x * 4 + 3) (.string e'.t.text) = Tn.cs (es.set x e') := by
  induction es with
  | nil => intro x hx; simp at hx
  | cons y es ih =>
    intro x hx e'
    have e1 : Tn.cs (y :: es) = Tn.c1 y ++ Tn.cs es := rfl
    match x with
    | 0 =>
      have e2 : Tn.cs ((y :: es).set 0 e') = Tn.c1 e' ++ Tn.cs es := rfl
      rw [e1, e2]
      rfl
    | x + 1 =>
      have e2 : Tn.cs ((y :: es).set (x + 1) e') = Tn.c1 y ++ Tn.cs (es.set x e') := rfl
      have hl : (Tn.c1 y).length = 4 := rfl
      rw [e1, e2, List.set_append, if_neg (by rw [hl]; omega), List.set_append, if_neg (by rw [hl]; omega), List.set_append, if_neg (by rw [hl]; omega), List.set_append, if_neg (by rw [hl]; omega), hl, ← ih (by simpa using hx) e',
        show (x + 1) * 4 - 4 = x * 4 by omega, show (x + 1) * 4 + 1 - 4 = x * 4 + 1 by omega, show (x + 1) * 4 + 2 - 4 = x * 4 + 2 by omega, show (x + 1) * 4 + 3 - 4 = x * 4 + 3 by omega]

theorem own_tkRowT {w : World} {B g n cap : Nat} {es : List Tn.E} (h : w.ownsRow B 49 4 (.slice (some ⟨g, 0, none⟩) n cap) n (Tn.cs es)) (hn : es.length = n) (ha : ∀ e ∈ es, AtRow w e.a e.t.attrs) : TkRow w (some ⟨g, 0, none⟩) (es.map (·.t)) := by
  intro j hj
  rw [List.length_map] at hj
  obtain ⟨k0, k1, k2, k3⟩ := Tn.cs_get es j hj
  have hg : g < w.heap.size := (h.lt g rfl).2
  have hx : ∀ k u, k < n * 4 → (Tn.cs es)[k]? = some u → w.cell? ⟨g, 0 + k, none⟩ = some u := fun k u hk hu => by rw [Nat.zero_add, h.cellAt k hk]; exact hu
  rw [List.getElem_map]
  exact ⟨g, 0, es[j].a, es[j].cap, rfl, hg, hx _ _ (by omega) k0, hx _ _ (by omega) k1, hx _ _ (by omega) k2, hx _ _ (by omega) k3, ha _ (List.getElem_mem hj)⟩

/-- One token of a row is another one. -/
theorem row_put {w : World} {B g L cap x : Nat} {es : List Tn.E} (h : Tn.Row w B (.slice (some ⟨g, 0, none⟩) L cap) es) (hL : es.length = L) (hx : x < es.length) {t : Tk} {aT : Option Addr} {cT : Nat} (hA : AtRow w aT t.attrs) (hne : ∀ g1 o1, 0 < t.attrs.length → aT = some ⟨g1, o1, none⟩ → ¬ g = g1) :
    TkRow ((((w.setCell ⟨g, x * 4, none⟩ (.int .i64 t.kind)).setCell ⟨g, x * 4 + 1, none⟩ (.string t.name)).setCell ⟨g, x * 4 + 2, none⟩ (.slice aT t.attrs.length cT)).setCell ⟨g, x * 4 + 3, none⟩ (.string t.text)) (some ⟨g, 0, none⟩) ((es.map (·.t)).set x t) := by
  have ho := h.own
  rw [hL] at ho
  obtain ⟨h1, -⟩ := ho.stored (x * 4) (.int .i64 t.kind)
  obtain ⟨h2, -⟩ := h1.stored (x * 4 + 1) (.string t.name)
  obtain ⟨h3, -⟩ := h2.stored (x * 4 + 2) (.slice aT t.attrs.length cT)
  obtain ⟨h4, -⟩ := h3.stored (x * 4 + 3) (.string t.text)
  rw [cs_put hx ⟨t, aT, cT⟩] at h4
  have hlen : (es.set x ⟨t, aT, cT⟩).length = L := by rw [List.length_set]; exact hL
  have far : ∀ (l : List At) (aa : Option Addr), AtRow w aa l → (∀ g1 o1, 0 < l.length → aa = some ⟨g1, o1, none⟩ → ¬ g = g1) → AtRow ((((w.setCell ⟨g, x * 4, none⟩ (.int .i64 t.kind)).setCell ⟨g, x * 4 + 1, none⟩ (.string t.name)).setCell ⟨g, x * 4 + 2, none⟩ (.slice aT t.attrs.length cT)).setCell ⟨g, x * 4 + 3, none⟩ (.string t.text)) aa l := fun l aa hl hn j hj => by
    obtain ⟨g1, o1, e1, hl1, q1, q2⟩ := hl j hj
    have hne := hn g1 o1 (by omega) e1
    exact ⟨g1, o1, e1, by simpa using hl1, by rw [World.cell?_setCell_far _ _ _ _ hne, World.cell?_setCell_far _ _ _ _ hne, World.cell?_setCell_far _ _ _ _ hne, World.cell?_setCell_far _ _ _ _ hne]; exact q1, by rw [World.cell?_setCell_far _ _ _ _ hne, World.cell?_setCell_far _ _ _ _ hne, World.cell?_setCell_far _ _ _ _ hne, World.cell?_setCell_far _ _ _ _ hne]; exact q2⟩
  have hr := own_tkRowT h4 hlen (fun e he => by
    rcases List.mem_or_eq_of_mem_set he with h' | h'
    · exact far _ _ (h.ats e h').1.atRow (fun g1 o1 hl e1 e2 => (h.ats e h').2 g1 o1 hl e1 (by rw [e2]; rfl))
    · subst h'
      exact far _ _ hA hne)
  rw [List.map_set] at hr
  exact hr

/-- Tokens that were drawn. -/
def DrawnK (w : World) (e : Ending) (w' : World) : Prop :=
  ∃ a' c' ts, e = .returned (.slice a' (ts : List Tk).length c') ∧ TkRow w' a' ts ∧ ts.length ≤ 101 ∧ TksSz 1048576 ts ∧ Below w.heap.size w w'

set_option maxHeartbeats 1000000 in
theorem cDrawTreeV (a : Option Addr) (len cap : Nat) (w : World) (hlen : len ≤ 4096) (hcr : CodeRow w a len) :
    Calls Tryz.prog 30 #[.slice a len cap] w fun e w' => ∃ a' c' ts, e = .returned (.slice a' (ts : List Tk).length c') ∧ TkRow w' a' ts ∧ ts.length ≤ 11 ∧ TksV 40 ts ∧ Below w.heap.size w w' := by
  have HR := hid hcr
  clear hcr
  go_enter Tryz.func30, Tryz.ntmps30
  go_wp2_with fail
  refine (cNew a len cap _ hlen HR.out).mono ?_
  rintro e w1 ⟨rfl, hC1⟩
  have HC1 := hid hC1
  clear hC1
  go_wp2_with fail
  refine (cDrawAny w a len cap _ _ hlen HR.out HC1.out).mono ?_
  rintro e w2 ⟨a', c', ts, rfl, hrow, hn, hz, hC2, _⟩
  have H := hid (And.intro hrow (And.intro hn (And.intro hz hC2.2.1)))
  clear hrow hn hz hC2
  go_wp2_with fail
  go_ret
  exact ⟨a', c', ts, rfl, H.out.1, H.out.2.1, H.out.2.2.1, H.out.2.2.2⟩

set_option maxHeartbeats 1000000 in
theorem cDrawShowTree (a : Option Addr) (len cap : Nat) (w : World) (hlen : len ≤ 4096) (hcr : CodeRow w a len) :
    Calls Tryz.prog 6 #[.slice a len cap] w fun e w' => ∃ a' c' ts, e = .returned (.slice a' (ts : List Tk).length c') ∧ TkRow w' a' ts ∧ ts.length ≤ 11 ∧ TksV 40 ts ∧ Below w.heap.size w w' := by
  have C := hid (cDrawTreeV a len cap w hlen hcr)
  clear hcr
  go_enter Tryz.func6, Tryz.ntmps6
  go_wp2_with fail
  refine C.out.mono ?_
  rintro e w1 ⟨a', c', ts, rfl, h⟩
  have H := hid h
  clear h C
  go_wp2_with fail
  go_ret
  exact ⟨a', c', ts, rfl, H.out⟩

set_option maxRecDepth 8000 in
set_option maxHeartbeats 8000000 in
theorem cDrawReadTree (a : Option Addr) (len cap : Nat) (w : World) (hlen : len ≤ 4096) (hcr : CodeRow w a len) :
    Calls Tryz.prog 11 #[.slice a len cap] w fun e w' => ∃ s ts, e = .returned (.string s) ∧ TksV 40 ts ∧ s.size ≤ (shownN ts).size + 2 ∧ cntB s ≤ cntB (shownN ts) + 2 ∧ ts.length ≤ 11 ∧ Below w.heap.size w w' := by
  have HR := hid hcr
  clear hcr
  go_enter Tryz.func11, Tryz.ntmps11
  go_wp2_with fail
  refine (cNew a len cap _ hlen HR.out).mono ?_
  rintro e w1 ⟨rfl, hC1⟩
  have HC1 := hid hC1
  clear hC1
  go_wp2_with fail
  refine (cDrawAny w a len cap _ _ hlen HR.out HC1.out).mono ?_
  rintro e w2 ⟨a', c', ts, rfl, hrow, hn, hz, hC2, _⟩
  have HC2 := hid hC2
  have HZ := hid hz
  have CS := hid (cShowTreeS a' c' ts w2 hrow (by omega) (tksv_big hz (by decide)))
  have HSZ := hid (shown_small (tksv_big hz (by decide)) hn)
  have HNN := hid hn
  clear hrow hn hz hC2 HC1
  generalize hX : shownN ts = X at *
  obtain ⟨n, hn2⟩ : ∃ n, ts.length = n := ⟨_, rfl⟩
  rw [hn2] at CS ⊢
  clear hn2
  go_wp2_with fail
  refine CS.out.mono ?_
  rintro e w3 ⟨rfl, hb3⟩
  have HC3 := hid (HC2.out.below hb3)
  clear hb3 HC2 CS
  go_wp2_with fail
  refine (cOnce 3 w a len cap _ _ hlen HR.out HC3.out (by omega) (by omega)).mono ?_
  rintro e w4 ⟨q, rfl, hC4, hG4⟩
  have HC4 := hid hC4
  clear hC4 hG4 HC3
  cases q with
  | false =>
    go_wp2_with fail
    go_ret
    exact ⟨X, ts, rfl, HZ.out, by rw [hX]; omega, by rw [hX]; omega, HNN.out, HC4.out.2.1⟩
  | true =>
    go_wp2_with fail
    refine (cBendV X ⟨#[60, 62, 47, 32, 61, 34, 38, 45, 33, 97]⟩ w a len cap _ _ HSZ.out (by decide) (by decide) hlen HR.out HC4.out).mono ?_
    rintro e w5 ⟨t, rfl, ⟨ht1, ht2⟩, hC5, _⟩
    have HB5 := hid hC5.2.1
    clear hC5
    go_wp2_with fail
    go_ret
    exact ⟨t, ts, rfl, HZ.out, by rw [hX]; exact ht1, by rw [hX]; exact ht2, HNN.out, HB5.out⟩

theorem take_row {w : World} {a : Option Addr} {ts : List Tk} (h : TkRow w a ts) (m : Nat) : TkRow w a (ts.take m) := by
  intro j hj
  rw [List.length_take] at hj
  have hj2 : j < ts.length := by omega
  obtain ⟨b, o, aa, ca, e, hb, q0, q1, q2, q3, hA⟩ := h j hj2
  have e2 : (ts.take m)[j]'(by rw [List.length_take]; omega) = ts[j] := List.getElem_take
  rw [e2]
  exact ⟨b, o, aa, ca, e, hb, q0, q1, q2, q3, hA⟩

theorem tkRow_of {w : World} {B : Nat} {a : Option Addr} {L c : Nat} {es : List Tn.E} (h : Tn.Row w B (.slice a L c) es) : TkRow w a (es.map (·.t)) := by
  obtain ⟨a', c', e, hr⟩ := h.tkRow
  injection e with e1 _ _
  subst e1
  exact hr

theorem tk_small7 {t : Tk} {n : Nat} (h1 : AtV 20 t.attrs) (h2 : t.name.size ≤ 7) (h3 : t.attrs.length ≤ n) (h4 : t.text.size ≤ 6) (hn : n ≤ 6) : TkSz 1048576 t :=
  ⟨by omega, by omega, atv_big h1 (by decide), by omega⟩

/-- What DrawGrown knows: the cursor, and the tokens. -/
structure GwSt (w : World) (a : Option Addr) (len cap B : Nat) (aT : Option Addr) (L cT : Nat) (es : List Tn.E) (W : World) : Prop where
  cur : Cur w a len cap w.heap.size W
  row : Tn.Row W B (.slice aT L cT) es
  lt : w.heap.size < B
  le : B ≤ W.heap.size

theorem GwSt.draw {w W W1 : World} {a aT : Option Addr} {len cap B L cT : Nat} {es : List Tn.E} (h : GwSt w a len cap B aT L cT es W) (hC : Cur w a len cap w.heap.size W1) (g : W.grownBy W1 (some w.heap.size)) : GwSt w a len cap B aT L cT es W1 :=
  ⟨hC, h.row.low (KeepB.of_grown (p := fun q => q = w.heap.size) g rfl) h.lt, h.lt, Nat.le_trans h.le g.size⟩

set_option maxRecDepth 8000 in
set_option maxHeartbeats 16000000 in
theorem cDrawGrown (a : Option Addr) (len cap : Nat) (w : World) (hlen : len ≤ 4096) (hcr : CodeRow w a len) :
    Calls Tryz.prog 9 #[.slice a len cap] w (DrawnK w) := by
  have HR := hid hcr
  clear hcr
  go_enter Tryz.func9, Tryz.ntmps9
  go_wp2_with fail
  refine (cNew a len cap _ hlen HR.out).mono ?_
  rintro e w1 ⟨rfl, hC1⟩
  have HC1 := hid hC1
  clear hC1
  go_wp2_with fail
  refine (cDrawAny w a len cap _ _ hlen HR.out HC1.out).mono ?_
  rintro e w2 ⟨a', c', ts, rfl, hrow, hn, hz, hC2, _⟩
  have HC2 := hid hC2
  have CT := hid (cTokensOfS a' c' ts w2 hrow (by omega) (tksv_big hz (by decide)))
  have HTF := hid (toksT_facts (tksv_big hz (by decide)))
  clear hrow hn hz hC2 HC1
  generalize ts.length = n at *
  go_wp2_with fail
  refine CT.out.mono ?_
  rintro e w3 ⟨aT, cT, es, rfl, hr3, hm3, hb3⟩
  have hlt : w.heap.size < w2.heap.size := HC2.out.lt
  have HS3 := hid (show GwSt w a len cap w2.heap.size aT es.length cT es w3 from ⟨HC2.out.below hb3, hr3, hlt, hb3.size⟩)
  have HSZ := hid (show TksSz 1048576 (es.map (·.t)) by rw [hm3]; exact fun t ht => (HTF.out.2 t ht).2.1)
  have hL100 : es.length ≤ 100 := by
    have := HTF.out.1
    rw [← hm3, List.length_map] at this
    exact this
  clear hr3 hm3 hb3 HC2 CT HTF hlt
  obtain ⟨B, hB⟩ : ∃ B, w2.heap.size = B := ⟨_, rfl⟩
  rw [hB] at HS3
  clear hB
  obtain ⟨L, hL⟩ : ∃ L, es.length = L := ⟨_, rfl⟩
  have HL := hid hL
  rw [hL] at HS3 hL100 ⊢
  clear hL
  have HLM := hid (show (es.map (·.t)).length = L by rw [List.length_map]; exact HL.out)
  by_cases h0 : 0 < L
  case neg =>
    have hLz : L = 0 := by omega
    subst hLz
    go_wp2_with fail
    go_ret
    exact ⟨aT, cT, es.map (·.t), by rw [HLM.out]; rfl, tkRow_of HS3.out.row, by rw [HLM.out]; omega, HSZ.out, HS3.out.cur.2.1⟩
  have hd0 : decide ((0 : Int) < (L : Int)) = true := by simp; omega
  go_wp2_with fail
  refine (cOnce 3 w a len cap _ _ hlen HR.out HS3.out.cur (by omega) (by omega)).mono ?_
  rintro e w4 ⟨q, rfl, hC4, hG4⟩
  have HS4 := hid (HS3.out.draw hC4 hG4)
  clear hC4 hG4 HS3
  cases q with
  | false =>
    go_wp2_with fail
    go_ret
    exact ⟨aT, cT, es.map (·.t), by rw [HLM.out]; rfl, tkRow_of HS4.out.row, by rw [HLM.out]; omega, HSZ.out, HS4.out.cur.2.1⟩
  | true =>
    go_wp2_with fail
    refine (cBelow 3 w a len cap _ _ hlen HR.out HS4.out.cur (by omega) (by omega)).mono ?_
    rintro e w5 ⟨j, rfl, hj, hC5, hG5⟩
    have HS5 := hid (HS4.out.draw hC5 hG5)
    clear hC5 hG5 HS4
    have hown := HS5.out.row.own
    rw [HL.out] at hown
    rcases hown.2 with ⟨_, hz0⟩ | ⟨g, cp, cur, hv, hgB, hh, hnc, hcm, hcs, hct⟩
    · omega
    obtain ⟨rfl, rfl⟩ : aT = some ⟨g, 0, none⟩ ∧ cT = cp := by injection hv with h1 _ h3; exact ⟨h1, h3⟩
    have HGB := hid hgB
    clear hown hh hcs hct hv hgB
    rcases (show j = 0 ∨ j = 1 ∨ j = 2 from by omega) with rfl | rfl | rfl
    · go_wp2_with fail
      refine (cBelow L w a len cap _ _ hlen HR.out HS5.out.cur (by omega) (by omega)).mono ?_
      rintro e w6 ⟨k, rfl, hk, hC6, hG6⟩
      have HS6 := hid (HS5.out.draw hC6 hG6)
      clear hC6 hG6 HS5
      go_wp2_with fail
      refine (cDrawTokAny w a len cap _ _ hlen HR.out HS6.out.cur).mono ?_
      rintro e w7 ⟨t, aA, cA, rfl, hD7, hn7, hl7, hx7⟩
      have HS7 := hid (HS6.out.draw hD7.cur hD7.gr)
      have hks : k < es.length := by rw [HL.out]; exact hk
      have hgl6 : g < w6.heap.size := ((show w6.ownsRow _ _ _ _ _ _ from HS6.out.row.own).lt g rfl).2
      obtain ⟨aA2, cA2, hvA, hoA⟩ := hD7.row
      obtain ⟨rfl, rfl⟩ : aA = aA2 ∧ cA = cA2 := by injection hvA with h1 _ h3; exact ⟨h1, h3⟩
      have HPUT := hid (row_put (cT := cA) HS7.out.row HL.out hks hoA.atRow (fun g1 o1 hl e1 e2 => by
        obtain ⟨g2, o2, cu2, b1, b2, _⟩ := hoA hl
        rw [e1] at b1
        cases b1
        omega))
      have hown7 := HS7.out.row.own
      rw [HL.out] at hown7
      have HTS := hid (show TkSz 1048576 t from tk_small7 hD7.sz hn7 hl7 hx7 (Nat.le_refl _))
      obtain ⟨cur7, hh7⟩ : ∃ cur7, w7.heap[g]? = some (.cells cur7 49 (0, 0)) := by
        rcases hown7.2 with ⟨h1, _⟩ | ⟨g1, _, cu, h1, _, h3, _⟩
        · cases h1
        · have : g = g1 := by injection h1 with h1 _ _; injection h1 with h1; injection h1
          subst this
          exact ⟨cu, h3⟩
      have fz : ∀ i, w7.frozen? ⟨g, i, none⟩ = false := fun i => Lib.frozen_of_heap hh7 i
      obtain ⟨k0, k1, k2, k3⟩ := Tn.cs_get es k hks
      have c0 : w7.cell? ⟨g, k * 4, none⟩ = some (.int .i64 es[k].t.kind) := by rw [hown7.cellAt _ (by omega)]; exact k0
      have c1 : w7.cell? ⟨g, k * 4 + 1, none⟩ = some (.string es[k].t.name) := by rw [hown7.cellAt _ (by omega)]; exact k1
      have c2 : w7.cell? ⟨g, k * 4 + 2, none⟩ = some (.slice es[k].a es[k].t.attrs.length es[k].cap) := by rw [hown7.cellAt _ (by omega)]; exact k2
      have c3 : w7.cell? ⟨g, k * 4 + 3, none⟩ = some (.string es[k].t.text) := by rw [hown7.cellAt _ (by omega)]; exact k3
      have f0 := fz (k * 4)
      have f1 := fz (k * 4 + 1)
      have f2 := fz (k * 4 + 2)
      have f3 := fz (k * 4 + 3)
      have hkL : (k : Int) < (L : Int) := by omega
      have HB7 := hid HS7.out.cur.2.1
      have hgw : w.heap.size ≤ g := by have := HGB.out; have := HS7.out.lt; omega
      clear fz hh7 hown7 k0 k1 k2 k3 hoA hvA hD7 HS6 HS7 hn7 hl7 hx7
      generalize es[k].t.kind = z0 at *
      generalize es[k].t.name = z1 at *
      generalize es[k].t.attrs.length = z2 at *
      generalize es[k].t.text = z3 at *
      generalize es[k].a = z4 at *
      generalize es[k].cap = z5 at *
      obtain ⟨tk, tn, ta, tx⟩ := t
      simp only at HPUT
      obtain ⟨nA, hnA⟩ : ∃ nA, ta.length = nA := ⟨_, rfl⟩
      rw [show tkW (⟨tk, tn, ta, tx⟩ : Tk) aA cA = .agg #[.int .i64 tk, .string tn, .slice aA nA cA, .string tx] by show Value.agg #[.int .i64 tk, .string tn, .slice aA ta.length cA, .string tx] = _; rw [hnA]]
      rw [hnA] at HPUT
      clear hnA hks
      go_wp2_with fail
      go_ret
      have hl8 : ((es.map (·.t)).set k ⟨tk, tn, ta, tx⟩).length = L := by rw [List.length_set]; exact HLM.out
      refine ⟨some ⟨g, 0, none⟩, cT, (es.map (·.t)).set k ⟨tk, tn, ta, tx⟩, by rw [hl8]; rfl, HPUT.out, by rw [hl8]; omega, fun t ht => ?_, ?_⟩
      · rcases List.mem_or_eq_of_mem_set ht with h' | h'
        · exact HSZ.out t h'
        · rw [h']; exact HTS.out
      · exact (((HB7.out.setCell (p := ⟨g, k * 4, none⟩) hgw _).setCell (p := ⟨g, k * 4 + 1, none⟩) hgw _).setCell (p := ⟨g, k * 4 + 2, none⟩) hgw _).setCell (p := ⟨g, k * 4 + 3, none⟩) hgw _
    · obtain ⟨m, rfl⟩ : ∃ m, L = m + 1 := ⟨L - 1, by omega⟩
      have hmc : (m : Int) ≤ (cT : Int) := by omega
      have hm1 : ((m + 1 : Nat) : Int) - 1 = (m : Int) := by omega
      have HT := hid (take_row (tkRow_of HS5.out.row) m)
      have HB5 := hid HS5.out.cur.2.1
      have HLT := hid (show ((es.map (·.t)).take m).length = m by rw [List.length_take, HLM.out]; omega)
      have hcz : ¬ cT = 0 := by omega
      clear HS5
      go_wp2_with fail
      go_ret
      exact ⟨some ⟨g, 0, none⟩, cT, (es.map (·.t)).take m, by rw [HLT.out]; rfl, HT.out, by rw [HLT.out]; omega, fun t ht => HSZ.out t (List.mem_of_mem_take ht), HB5.out⟩
    · go_wp2_with fail
      refine (cDrawTok w a len cap _ _ hlen HR.out HS5.out.cur).mono ?_
      rintro e w6 ⟨t, aA, cA, rfl, hD6, hn6, hl6, hx6⟩
      have HS6 := hid (HS5.out.draw hD6.cur hD6.gr)
      have hgl5 : g < w5.heap.size := ((show w5.ownsRow _ _ _ _ _ _ from HS5.out.row.own).lt g rfl).2
      have HTS := hid (show TkSz 1048576 t from tk_small7 hD6.sz hn6 hl6 hx6 (by omega))
      obtain ⟨aA2, cA2, hvA, hoA⟩ := hD6.row
      obtain ⟨rfl, rfl⟩ : aA = aA2 ∧ cA = cA2 := by injection hvA with h1 _ h3; exact ⟨h1, h3⟩
      have hB5 := HS5.out.le
      have HOA := hid (show OwnAts w6 B aA t.attrs from fun hl => by
        obtain ⟨g1, o1, cu, e1, e2, e3⟩ := hoA hl
        exact ⟨g1, o1, cu, e1, by omega, e3⟩)
      have HNE := hid (show ∀ g1 o1, 0 < t.attrs.length → aA = some ⟨g1, o1, none⟩ → ¬ (Value.slice (some ⟨g, 0, none⟩) L cT).ownBlock = some g1 from fun g1 o1 hl e1 e2 => by
        obtain ⟨g2, o2, cu, b1, b2, _⟩ := hoA hl
        rw [e1] at b1
        cases b1
        have : g = g1 := by simpa [Value.ownBlock] using e2
        omega)
      have HAP := hid (show ∀ e ∈ es, Tn.Apart e ⟨t, aA, cA⟩ from fun e he hl hl' g1 o1 g2 o2 e1 e2 e3 => by
        obtain ⟨g3, o3, cu, a1, _, a3, _⟩ := (HS5.out.row.ats e he).1 hl
        obtain ⟨g4, o4, cu4, b1, b2, _⟩ := hoA hl'
        rw [e1] at a1
        simp only at e2
        rw [e2] at b1
        cases a1
        cases b1
        have := lt_of_heap a3
        omega)
      clear hoA hvA hD6 HS5 hn6 hl6 hx6 hB5
      obtain ⟨tk, tn, ta, tx⟩ := t
      have HM := hid (heap_alloc_new w6 (.cells #[.int .i64 tk, .string tn, .slice aA ta.length cA, .string tx] 49))
      have HCL := hid (tok_cells (t := ⟨tk, tn, ta, tx⟩) (nl := ta.length) HM.out rfl)
      have HB0 := hid ((Below.refl w6.heap.size w6).alloc (Nat.le_refl _) (.cells #[.int .i64 tk, .string tn, .slice aA ta.length cA, .string tx] 49))
      have HRW := hid (HS6.out.row.below HB0.out)
      have HOA2 := hid (HOA.out.below HB0.out)
      have hB6 := HS6.out.le
      have HBA := hid (HS6.out.cur.2.1.trans (HB0.out.mono HS6.out.cur.2.1.size))
      have HLE := hid (Nat.le_of_lt HS6.out.lt)
      obtain ⟨nA, hnA⟩ : ∃ nA, ta.length = nA := ⟨_, rfl⟩
      rw [show tkW (⟨tk, tn, ta, tx⟩ : Tk) aA cA = .agg #[.int .i64 tk, .string tn, .slice aA nA cA, .string tx] by show Value.agg #[.int .i64 tk, .string tn, .slice aA ta.length cA, .string tx] = _; rw [hnA]]
      rw [hnA] at HCL HRW HBA HOA2
      clear hnA HS6 HM HB0 HOA
      go_wp2_with (at_builtin; refine Tn.wpL_join _ rfl _ _ rfl B _ es [⟨⟨tk, tn, ta, tx⟩, aA, cA⟩] rfl HRW.out w6.heap.size 1 1 rfl rfl HCL.out (fun y hy => ?d1) (List.pairwise_singleton _ _) (fun e he y hy => ?d2) ?d3 ?d4 ?_)
      case d1 =>
        rw [List.mem_singleton] at hy
        subst hy
        exact ⟨HOA2.out, HNE.out⟩
      case d2 =>
        rw [List.mem_singleton] at hy
        subst hy
        exact HAP.out e he
      case d3 => rw [HL.out]; show L + 1 ≤ 2097152; omega
      case d4 => simp; omega
      intro a8 c8 w8 hr8 hb8 hg8
      have HR8 := hid (tkRow_of hr8)
      have HB8 := hid (HBA.out.trans (hb8.mono HLE.out))
      have HL8 := hid (show (es ++ [(⟨⟨tk, tn, ta, tx⟩, aA, cA⟩ : Tn.E)]).length = L + 1 by rw [List.length_append, HL.out]; rfl)
      rw [HL.out]
      clear hr8 hb8 hg8
      go_wp2_with fail
      go_ret
      have hl9 : ((es ++ [(⟨⟨tk, tn, ta, tx⟩, aA, cA⟩ : Tn.E)]).map (·.t)).length = L + 1 := by rw [List.length_map]; exact HL8.out
      refine ⟨a8, c8, _, by rw [hl9]; rfl, HR8.out, by rw [hl9]; omega, fun t ht => ?_, HB8.out⟩
      rw [List.map_append] at ht
      rcases List.mem_append.1 ht with h' | h'
      · exact HSZ.out t h'
      · rw [List.map_cons, List.map_nil, List.mem_singleton] at h'
        rw [h']
        exact HTS.out

end Go.Proofs.YteninofjeidljaaGreat

namespace Go.Proofs.YteninofjeidljaaGreat

open Go.RowKit

set_option linter.unusedVariables false

set_option linter.unusedSimpArgs false

set_option maxRecDepth 8000 in
set_option maxHeartbeats 2000000 in
theorem cLikeAttrsG (a c : Option Addr) (cap cap2 : Nat) (l : List At) (w : World) (hR : AtRow w a l) (hT : AtRow w c l) (hn : l.length ≤ 1048576) :
    Calls Tryz.prog 54 #[.slice a l.length cap, .slice c l.length cap2] w fun e w' => e = .returned (.bool true) ∧ Below w.heap.size w w' := by
  have HR := hid hR
  have HT := hid hT
  clear hR hT
  obtain ⟨n, hnn⟩ : ∃ n, l.length = n := ⟨_, rfl⟩
  have HN := hid hnn
  rw [hnn] at hn ⊢
  clear hnn
  have hnn : ((n : Int) != (n : Int)) = false := by simp
  go_enter Tryz.func54, Tryz.ntmps54
  go_wp2
  go_loopw [5] (fun k wr => ∃ i : Nat, k = .int .i64 (i : Int) ∧ i ≤ n ∧ Hid (Below w.heap.size w wr)) (fun k _ => n - (intOf k).toNat)
  case atStart => exact ⟨0, rfl, Nat.zero_le _, Below.refl _ _⟩
  case round =>
    obtain ⟨i, rfl, hi, HB⟩ := hrel
    by_cases hlt : i < n
    · have his : i < l.length := by rw [HN.out]; exact hlt
      have hin : (i : Int) < (n : Int) := by omega
      obtain ⟨b, o, rfl, hb, c1, c2⟩ := HR.out.below HB.out i his
      obtain ⟨b2, o2, rfl, hb', k1, k2⟩ := HT.out.below HB.out i his
      obtain ⟨x, hx⟩ : ∃ x, l[i].name = x := ⟨_, rfl⟩
      obtain ⟨y, hy⟩ : ∃ y, l[i].value = y := ⟨_, rfl⟩
      rw [hx] at c1 k1
      rw [hy] at c2 k2
      clear hx hy
      have HNB := hid (bw_any wr)
      obtain ⟨d1, d2⟩ := pair_bw hb c1 c2
      obtain ⟨j1, j2⟩ := pair_bw hb' k1 k2
      clear c1 c2 k1 k2
      go_wp2_with fail
      haveI := HNB.out
      refine wp_region_below (by kernel_rfl) (by kernel_rfl) (Below.refl wr.heap.size wr) ?_
      repeat (go_big_quiet_step (fail))
      refine wpQuiet_nil ?_
      intro _ hw'
      obtain ⟨⟨wq, hwq⟩, hw''⟩ := hw'
      subst hw''
      have HB2 := hid (bb HB.out hwq)
      clear this HNB d1 d2 j1 j2 hwq
      go_wp2_with fail
      go_roundw
      case rel => exact ⟨i + 1, by go_num, by omega, HB2⟩
      case measure => simp [intOf]; omega
    · have hie : i = n := by omega
      subst hie
      go_wp2_with fail
      go_ret
      exact ⟨rfl, HB.out⟩

set_option maxRecDepth 8000 in
set_option maxHeartbeats 2000000 in
theorem cLikeTree (a c : Option Addr) (cap cap2 : Nat) (ts : List Tk) (w : World) (hR : TkRow w a ts) (hT : TkRow w c ts) (hz : TksSz 1048576 ts) (hn : ts.length ≤ 1048576) :
    Calls Tryz.prog 14 #[.slice a ts.length cap, .slice c ts.length cap2] w fun e w' => e = .returned (.bool true) ∧ Below w.heap.size w w' := by
  have HR := hid hR
  have HT := hid hT
  have HZ := hid hz
  clear hR hT hz
  obtain ⟨n, hnn⟩ : ∃ n, ts.length = n := ⟨_, rfl⟩
  have HN := hid hnn
  rw [hnn] at hn ⊢
  clear hnn
  have hnn : ((n : Int) != (n : Int)) = false := by simp
  go_enter Tryz.func14, Tryz.ntmps14
  go_wp2
  go_loopw [5] (fun k wr => ∃ i : Nat, k = .int .i64 (i : Int) ∧ i ≤ n ∧ Hid (Below w.heap.size w wr)) (fun k _ => n - (intOf k).toNat)
  case atStart => exact ⟨0, rfl, Nat.zero_le _, Below.refl _ _⟩
  case round =>
    obtain ⟨i, rfl, hi, HB⟩ := hrel
    by_cases hlt : i < n
    · have his : i < ts.length := by rw [HN.out]; exact hlt
      have hin : (i : Int) < (n : Int) := by omega
      obtain ⟨b, o, aa, ca, rfl, hb, c0, c1, c2, c3, cr⟩ := HR.out.below HB.out i his
      obtain ⟨b2, o2, aa2, ca2, rfl, hb', k0, k1, k2, k3, kr⟩ := HT.out.below HB.out i his
      have C := fun (w : World) (h : AtRow w aa ts[i].attrs) (h2 : AtRow w aa2 ts[i].attrs) => cLikeAttrsG aa aa2 ca ca2 ts[i].attrs w h h2 (HZ.out _ (List.getElem_mem his)).2.1
      have CR := hid cr
      have KR := hid kr
      have CC := fun p : BW wr => C p.w (CR.out.below p.h) (KR.out.below p.h)
      obtain ⟨d0, d1, d2, d3⟩ := quad_bw hb c0 c1 c2 c3
      obtain ⟨j0, j1, j2, j3⟩ := quad_bw hb' k0 k1 k2 k3
      have HNB := hid (bw_any wr)
      obtain ⟨K, hK⟩ : ∃ K, ts[i].kind = K := ⟨_, rfl⟩
      obtain ⟨X, hX⟩ : ∃ X, ts[i].name = X := ⟨_, rfl⟩
      obtain ⟨Y, hY⟩ : ∃ Y, ts[i].text = Y := ⟨_, rfl⟩
      rw [hK] at d0 j0
      rw [hX] at d1 j1
      rw [hY] at d3 j3
      have e1 : (K != K) = false := by simp
      have e2 : (X.toList != X.toList) = false := by simp
      have e3 : (Y.toList != Y.toList) = false := by simp
      clear c0 c1 c2 c3 k0 k1 k2 k3 cr kr C hK hX hY
      go_wp2_with fail
      haveI := HNB.out
      refine wp_region_below (by kernel_rfl) (by kernel_rfl) (Below.refl wr.heap.size wr) ?_
      repeat (go_big_quiet_step ((go_at_call 54; exact calls_bw _ (CC _))))
      refine wpQuiet_nil ?_
      intro w2 hw'
      obtain ⟨⟨wx, hb2⟩, hw''⟩ := hw'
      subst hw''
      have HB2 := hid (bb HB.out hb2)
      clear this HNB CC d0 d1 d2 d3 j0 j1 j2 j3 hb2
      go_wp2_with fail
      go_roundw
      case rel => exact ⟨i + 1, by go_num, by omega, HB2⟩
      case measure => simp [intOf]; omega
    · have hie : i = n := by omega
      subst hie
      go_wp2_with fail
      go_ret
      exact ⟨rfl, HB.out⟩

end Go.Proofs.YteninofjeidljaaGreat

namespace Go.Proofs.YteninofjeidljaaGreat

open Go.RowKit

set_option linter.unusedVariables false

set_option linter.unusedSimpArgs false

set_option maxRecDepth 8000 in
set_option maxHeartbeats 2000000 in
theorem cLikeAttrs (a c : Option Addr) (cap cap2 : Nat) (l : List At) (w : World) (hR : AtRow w a l) (hT : AtRow w c l) (hn : l.length ≤ 1048576) :
    Calls Tryz.prog 54 #[.slice a l.length cap, .slice c l.length cap2] w fun e w' => e = .returned (.bool true) ∧ Below w.heap.size w w' := by
  have HR := hid hR
  have HT := hid hT
  clear hR hT
  obtain ⟨n, hnn⟩ : ∃ n, l.length = n := ⟨_, rfl⟩
  have HN := hid hnn
  rw [hnn] at hn ⊢
  clear hnn
  have hnn : ((n : Int) != (n : Int)) = false := by simp
  go_enter Tryz.func54, Tryz.ntmps54
  go_wp2
  go_loopw [5] (fun k wr => ∃ i : Nat, k = .int .i64 (i : Int) ∧ i ≤ n ∧ Hid (Below w.heap.size w wr)) (fun k _ => n - (intOf k).toNat)
  case atStart => exact ⟨0, rfl, Nat.zero_le _, Below.refl _ _⟩
  case round =>
    obtain ⟨i, rfl, hi, HB⟩ := hrel
    by_cases hlt : i < n
    · have his : i < l.length := by rw [HN.out]; exact hlt
      have hin : (i : Int) < (n : Int) := by omega
      obtain ⟨b, o, rfl, hb, c1, c2⟩ := HR.out.below HB.out i his
      obtain ⟨b2, o2, rfl, hb', k1, k2⟩ := HT.out.below HB.out i his
      obtain ⟨x, hx⟩ : ∃ x, l[i].name = x := ⟨_, rfl⟩
      obtain ⟨y, hy⟩ : ∃ y, l[i].value = y := ⟨_, rfl⟩
      rw [hx] at c1 k1
      rw [hy] at c2 k2
      clear hx hy
      have HNB := hid (bw_any wr)
      obtain ⟨d1, d2⟩ := pair_bw hb c1 c2
      obtain ⟨j1, j2⟩ := pair_bw hb' k1 k2
      clear c1 c2 k1 k2
      go_wp2_with fail
      haveI := HNB.out
      refine wp_region_below (by kernel_rfl) (by kernel_rfl) (Below.refl wr.heap.size wr) ?_
      repeat (go_big_quiet_step (fail))
      refine wpQuiet_nil ?_
      intro _ hw'
      obtain ⟨⟨wq, hwq⟩, hw''⟩ := hw'
      subst hw''
      have HB2 := hid (bb HB.out hwq)
      clear this HNB d1 d2 j1 j2 hwq
      go_wp2_with fail
      go_roundw
      case rel => exact ⟨i + 1, by go_num, by omega, HB2⟩
      case measure => simp [intOf]; omega
    · have hie : i = n := by omega
      subst hie
      go_wp2_with fail
      go_ret
      exact ⟨rfl, HB.out⟩

set_option maxRecDepth 8000 in
set_option maxHeartbeats 2000000 in
theorem cLikeTokens (a c : Option Addr) (cap cap2 : Nat) (ts : List Tk) (w : World) (hR : TkRow w a ts) (hT : TkRow w c ts) (hz : TksSz 1048576 ts) (hn : ts.length ≤ 1048576) :
    Calls Tryz.prog 16 #[.slice a ts.length cap, .slice c ts.length cap2] w fun e w' => e = .returned (.bool true) ∧ Below w.heap.size w w' := by
  have HR := hid hR
  have HT := hid hT
  have HZ := hid hz
  clear hR hT hz
  obtain ⟨n, hnn⟩ : ∃ n, ts.length = n := ⟨_, rfl⟩
  have HN := hid hnn
  rw [hnn] at hn ⊢
  clear hnn
  have hnn : ((n : Int) != (n : Int)) = false := by simp
  go_enter Tryz.func16, Tryz.ntmps16
  go_wp2
  go_loopw [5] (fun k wr => ∃ i : Nat, k = .int .i64 (i : Int) ∧ i ≤ n ∧ Hid (Below w.heap.size w wr)) (fun k _ => n - (intOf k).toNat)
  case atStart => exact ⟨0, rfl, Nat.zero_le _, Below.refl _ _⟩
  case round =>
    obtain ⟨i, rfl, hi, HB⟩ := hrel
    by_cases hlt : i < n
    · have his : i < ts.length := by rw [HN.out]; exact hlt
      have hin : (i : Int) < (n : Int) := by omega
      obtain ⟨b, o, aa, ca, rfl, hb, c0, c1, c2, c3, cr⟩ := HR.out.below HB.out i his
      obtain ⟨b2, o2, aa2, ca2, rfl, hb', k0, k1, k2, k3, kr⟩ := HT.out.below HB.out i his
      have C := fun (w : World) (h : AtRow w aa ts[i].attrs) (h2 : AtRow w aa2 ts[i].attrs) => cLikeAttrs aa aa2 ca ca2 ts[i].attrs w h h2 (HZ.out _ (List.getElem_mem his)).2.1
      have CR := hid cr
      have KR := hid kr
      have CC := fun p : BW wr => C p.w (CR.out.below p.h) (KR.out.below p.h)
      obtain ⟨d0, d1, d2, d3⟩ := quad_bw hb c0 c1 c2 c3
      obtain ⟨j0, j1, j2, j3⟩ := quad_bw hb' k0 k1 k2 k3
      have HNB := hid (bw_any wr)
      obtain ⟨K, hK⟩ : ∃ K, ts[i].kind = K := ⟨_, rfl⟩
      obtain ⟨X, hX⟩ : ∃ X, ts[i].name = X := ⟨_, rfl⟩
      obtain ⟨Y, hY⟩ : ∃ Y, ts[i].text = Y := ⟨_, rfl⟩
      rw [hK] at d0 j0
      rw [hX] at d1 j1
      rw [hY] at d3 j3
      have e1 : (K != K) = false := by simp
      have e2 : (X.toList != X.toList) = false := by simp
      have e3 : (Y.toList != Y.toList) = false := by simp
      clear c0 c1 c2 c3 k0 k1 k2 k3 cr kr C hK hX hY
      go_wp2_with fail
      haveI := HNB.out
      refine wp_region_below (by kernel_rfl) (by kernel_rfl) (Below.refl wr.heap.size wr) ?_
      repeat (go_big_quiet_step ((go_at_call 54; exact calls_bw _ (CC _))))
      refine wpQuiet_nil ?_
      intro w2 hw'
      obtain ⟨⟨wx, hb2⟩, hw''⟩ := hw'
      subst hw''
      have HB2 := hid (bb HB.out hb2)
      clear this HNB CC d0 d1 d2 d3 j0 j1 j2 j3 hb2
      go_wp2_with fail
      go_roundw
      case rel => exact ⟨i + 1, by go_num, by omega, HB2⟩
      case measure => simp [intOf]; omega
    · have hie : i = n := by omega
      subst hie
      go_wp2_with fail
      go_ret
      exact ⟨rfl, HB.out⟩

end Go.Proofs.YteninofjeidljaaGreat
