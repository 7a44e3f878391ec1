/- Contract of ShowTree of the specification. A pile: what is open, in a row of its own; contracts of the pile of numbers. -/
import Derived.Test.YtcjeodgfpnecgaaM16
import Derived.Test.YtcjeodgfpnecgaaM18
import Derived.Test.YtcjeodgfpnecgaaM13
import Derived.Deep.QuietTactic
import Derived.BigQuiet
namespace Go.Proofs.Ytcjeodgfpnecgaa
open Go.RowKit
set_option linter.unusedVariables false
set_option linter.unusedSimpArgs false

/-- Tokens as they are shown, one behind the other. -/
def showAll (l : List Tk) : ByteArray := l.foldl (fun s t => s ++ showS t) ⟨#[]⟩

theorem showAll_snoc (l : List Tk) (t : Tk) : showAll (l ++ [t]) = showAll l ++ showS t := by simp [showAll]

theorem showS_size {t : Tk} (hz : TkSz 1048576 t) (h6 : t.attrs.length ≤ 6) : (showS t).size ≤ 60000000 := by
  obtain ⟨z1, z2, z3, z4⟩ := hz
  unfold showS
  split
  · rw [ByteArray.size_append, ByteArray.size_append, show (⟨#[60, 47]⟩ : ByteArray).size = 2 from rfl, show (⟨#[62]⟩ : ByteArray).size = 1 from rfl]
    omega
  · split
    · have := escS_size false t.text
      omega
    · have h := atsS_size t.attrs ((⟨#[60]⟩ : ByteArray) ++ t.name) z3
      rw [ByteArray.size_append, show (⟨#[60]⟩ : ByteArray).size = 1 from rfl] at h
      rw [ByteArray.size_append, show (⟨#[62]⟩ : ByteArray).size = 1 from rfl]
      omega

theorem showAll_size {l : List Tk} (h : ∀ t ∈ l, (showS t).size ≤ 60000000) : (showAll l).size ≤ 60000000 * l.length := by
  have H : ∀ (l : List Tk) (s : ByteArray), (∀ t ∈ l, (showS t).size ≤ 60000000) → (l.foldl (fun s t => s ++ showS t) s).size ≤ s.size + 60000000 * l.length := by
    intro l
    induction l with
    | nil => intro s _; simp
    | cons t l ih =>
      intro s hs
      have := ih (s ++ showS t) (fun x hx => hs x (List.mem_cons_of_mem _ hx))
      have h2 := hs t (List.mem_cons_self ..)
      rw [ByteArray.size_append] at this
      simp only [List.foldl_cons, List.length_cons]
      omega
  have := H l ⟨#[]⟩ h
  rw [show (⟨#[]⟩ : ByteArray).size = 0 from rfl] at this
  unfold showAll
  omega

theorem tokN_six {ts : List Tk} (h : ∀ k, ¬ (nodeAt ts k).name.size = 0 → (nodeAt ts k).attrs.length ≤ 6) : ∀ f k, ∀ t ∈ tokN ts f k, t.attrs.length ≤ 6
  | 0, k, t, ht => by simp [tokN] at ht
  | f + 1, k, t, ht => by
    unfold tokN at ht
    split at ht
    · rw [List.mem_singleton] at ht
      subst ht
      exact Nat.zero_le _
    · rename_i hne
      rcases List.mem_cons.1 ht with rfl | ht
      · exact h k hne
      · rcases List.mem_append.1 ht with ht | ht
        · obtain ⟨i, _, hi⟩ := List.mem_flatMap.1 ht
          exact tokN_six h f i t hi
        · rw [List.mem_singleton] at ht
          subst ht
          exact Nat.zero_le _

theorem tree_six {ts : List Tk} (h : TreeP ts) (k : Nat) (hne : ¬ (nodeAt ts k).name.size = 0) : (nodeAt ts k).attrs.length ≤ 6 := by
  by_cases hk : k < ts.length
  · rw [nodeAt_at hk] at hne ⊢
    obtain ⟨⟨_, hb⟩, _⟩ := h.2.2.2.2 k hk
    rw [nodeB_el hne] at hb
    simp only [Bool.and_eq_true] at hb
    by_cases q : AttrsOk ts[k].attrs
    · exact q.1
    · rw [attrsB_f q] at hb
      cases hb.2.1
  · unfold nodeAt
    rw [List.getElem?_eq_none (by omega)]
    exact Nat.zero_le _

set_option maxRecDepth 8000 in
set_option maxHeartbeats 4000000 in
theorem cShowNS (a : Option Addr) (cap : Nat) (ts : List Tk) (w : World) (hR : TkRow w a ts) (hn : ts.length ≤ 1048576) (hz : TksSz 1048576 ts) (ht : TreeP ts) :
    Calls Try.prog 18 #[.slice a ts.length cap] w fun e w' => e = .returned (.string (showAll (tokN ts ts.length 0))) ∧ Below w.heap.size w w' := by
  have C := hid (cTokS a cap ts hn hz ts.length 0 w hR (by have := ht.1; omega) (by omega))
  have HZ := hid (tokN_sz hz ts.length 0)
  have H6 := hid (tokN_six (tree_six ht) ts.length 0)
  have hln := tokN_len (ts := ts) ts.length 0 (by have := ht.1; omega)
  have hen := (endN_le (ts := ts) (k := 0) (by have := ht.1; omega)).2
  obtain ⟨L, hL⟩ : ∃ L, tokN ts ts.length 0 = L := ⟨_, rfl⟩
  have hl2 : L.length ≤ 2097152 := by rw [← hL]; omega
  rw [hL] at C HZ H6 ⊢
  clear hL hR hz ht hln hen
  generalize ts.length = n at *
  go_enter Try.func18, Try.ntmps18
  go_wp2_with fail
  refine C.out.mono ?_
  rintro e w1 ⟨a1, c1, es, rfl, hr1, hm1, _, hb1⟩
  obtain ⟨a2, c2, e2, htk⟩ := hr1.tkRow
  obtain ⟨rfl, rfl⟩ : a1 = a2 ∧ c1 = c2 := by cases e2; exact ⟨rfl, rfl⟩
  have hel : es.length = L.length := by rw [← hm1, List.length_map]
  rw [hm1] at htk
  have HTK := hid htk
  have HB1 := hid hb1
  rw [hel]
  obtain ⟨m, hm⟩ : ∃ m, L.length = m := ⟨_, rfl⟩
  have HM := hid hm
  rw [hm] at hl2 ⊢
  clear htk hb1 hr1 hm1 e2 hel hm C
  go_wp2_with fail
  go_loopw [3, 5] (fun s x wr => ∃ i : Nat, x = .int .i64 (i : Int) ∧ i ≤ m ∧ Hid (s = .string (showAll (L.take i)) ∧ Below w.heap.size w wr ∧ Below w1.heap.size w1 wr)) (fun _ x _ => m - (intOf x).toNat)
  case atStart => exact ⟨0, rfl, Nat.zero_le _, rfl, HB1.out, Below.refl _ _⟩
  case round =>
    obtain ⟨i, rfl, hi, HX⟩ := hrel
    obtain ⟨hs, hb, hb2⟩ := HX.out
    have HB := hid hb
    have HB2 := hid hb2
    have hsz := showAll_size (l := L.take i) (fun t ht => showS_size (HZ.out t (List.mem_of_mem_take ht)) (H6.out t (List.mem_of_mem_take ht)))
    rw [List.length_take] at hsz
    clear HX hb hb2
    by_cases hlt : i < m
    · have hiL : i < L.length := by rw [HM.out]; exact hlt
      have hin : (i : Int) < (m : Int) := by omega
      obtain ⟨b, o, aa, ca, rfl, hbb, k0, k1, k2, k3, kr⟩ := (HTK.out.below HB2.out) i hiL
      have hmem := List.getElem_mem hiL
      have C := hid (cL7Show L[i] aa ca wr kr (HZ.out _ hmem) (H6.out _ hmem))
      have h60 := showS_size (HZ.out _ hmem) (H6.out _ hmem)
      have HSN := hid (show showAll (L.take (i + 1)) = showAll (L.take i) ++ showS L[i] by rw [take_snocN hiL, showAll_snoc])
      clear kr
      simp only [tkV] at C
      generalize showS L[i] = X at *
      generalize L[i] = t at *
      generalize showAll (L.take i) = S at *
      subst hs
      have hf : ¬ 9223372036854775807 < S.size + X.size := by omega
      clear hmem hiL
      go_wp2_with fail
      refine C.out.mono ?_
      rintro e w2 ⟨rfl, hb3⟩
      have HB3 := hid (bb HB.out hb3)
      have HB4 := hid (bb HB2.out hb3)
      clear hb3 C k0 k1 k2 k3
      go_wp2_with fail
      go_roundw
      case rel => exact ⟨i + 1, by go_num, by omega, by rw [HSN.out], HB3.out, HB4.out⟩
      case measure => simp [intOf]; omega
    · have hie : i = m := by omega
      subst hie
      rw [show L.take i = L from List.take_of_length_le (by rw [HM.out]; exact Nat.le_refl _)] at hs
      subst hs
      clear hsz
      go_wp2_with fail
      go_ret
      exact ⟨rfl, HB.out⟩

/-- What ShowTree answers. -/
noncomputable def shownN (ts : List Tk) : ByteArray := if treeB ts = true then showAll (tokN ts ts.length 0) else ⟨#[]⟩

set_option maxHeartbeats 2000000 in
theorem cShowTreeS (a : Option Addr) (cap : Nat) (ts : List Tk) (w : World) (hR : TkRow w a ts) (hn : ts.length ≤ 1048576) (hz : TksSz 1048576 ts) :
    Calls Try.prog 10 #[.slice a ts.length cap] w fun e w' => e = .returned (.string (shownN ts)) ∧ Below w.heap.size w w' := by
  have C := hid (cTreeOkS a cap ts w hR hn hz)
  have HR := hid hR
  cases q : treeB ts
  · have e1 : shownN ts = ⟨#[]⟩ := by unfold shownN; rw [q]; rfl
    rw [e1]
    rw [q] at C
    clear hz hR e1
    generalize ts.length = n at *
    go_enter Try.func10, Try.ntmps10
    go_wp2_with fail
    refine C.out.mono ?_
    rintro e w1 ⟨rfl, hb1⟩
    have HB1 := hid hb1
    clear hb1
    go_wp2_with fail
    go_ret
    exact ⟨rfl, HB1.out⟩
  · have e1 : shownN ts = showAll (tokN ts ts.length 0) := by unfold shownN; rw [q]; rfl
    have CE := hid (fun wx h => cShowNS a cap ts wx h hn hz (treeB_P q))
    rw [e1]
    rw [q] at C
    clear hz hR e1
    generalize showAll (tokN ts ts.length 0) = E at *
    generalize ts.length = n at *
    go_enter Try.func10, Try.ntmps10
    go_wp2_with fail
    refine C.out.mono ?_
    rintro e w1 ⟨rfl, hb1⟩
    have HB1 := hid hb1
    clear hb1
    go_wp2_with fail
    refine (CE.out _ (HR.out.below HB1.out)).mono ?_
    rintro e w2 ⟨rfl, hb2⟩
    have HB2 := hid (bb HB1.out hb2)
    clear hb2
    go_wp2_with fail
    go_ret
    exact ⟨rfl, HB2.out⟩

end Go.Proofs.Ytcjeodgfpnecgaa

namespace Go.Proofs.Ytcjeodgfpnecgaa
open Go.RowKit
set_option linter.unusedVariables false
set_option linter.unusedSimpArgs false

/-- A pile's slice lies in the o-th cell of block g; what it holds lies in a row of its own. -/
structure PileAt (E : TypeId) (s : Nat) (w : World) (B g o : Nat) (cur : Array Value) (T : TypeId) (v : Value) (n : Nat) (cs : List Value) : Prop where
  ge : B ≤ g
  blk : w.heap[g]? = some (.cells cur T (0, 0))
  at_ : cur[o]? = some v
  row : w.ownsRow B E s v n cs
  ne : T ≠ E

theorem PileAt.lt {E s w B g o cur T v n cs} (h : PileAt E s w B g o cur T v n cs) : g < w.heap.size := lt_of_heap h.blk

theorem PileAt.cell {E s w B g o cur T v n cs} (h : PileAt E s w B g o cur T v n cs) : w.cell? ⟨g, o, none⟩ = some v := by
  rw [Lib.cell_of_heap h.blk]
  exact h.at_

theorem PileAt.own_ne {E s w B g o cur T v n cs} (h : PileAt E s w B g o cur T v n cs) : v.ownBlock ≠ some g := by
  intro e
  rcases h.row.2 with ⟨rfl, _⟩ | ⟨b, cap, c, rfl, _, hh, _⟩
  · cases e
  · have : b = g := Option.some.inj e
    subst this
    rw [h.blk] at hh
    injection hh with hh
    injection hh with _ h2 _
    exact h.ne h2

theorem PileAt.below {E s w w' B g o cur T v n cs} (h : PileAt E s w B g o cur T v n cs) (hb : Below w.heap.size w w') : PileAt E s w' B g o cur T v n cs :=
  ⟨h.ge, (hb.block g h.lt).trans h.blk, h.at_, ownsRow_below h.row hb, h.ne⟩

theorem own_less {w : World} {B : Nat} {E : TypeId} {s b n m cap : Nat} {xs : List Value} (h : w.ownsRow B E s (.slice (some ⟨b, 0, none⟩) n cap) n xs) (hm : m ≤ n) : w.ownsRow B E s (.slice (some ⟨b, 0, none⟩) m cap) m (xs.take (m * s)) := by
  rcases h.2 with ⟨e, _⟩ | ⟨g, c, cur, e, h1, h2, h3, h4, h5, h6⟩
  · cases e
  · injection e with e1 e2 e3
    injection e1 with e1
    injection e1 with e1 _ _
    subst e1 e3
    have hms : m * s ≤ n * s := Nat.mul_le_mul_right _ hm
    refine ⟨by rw [List.length_take, h.1]; omega, .inr ⟨b, cap, cur, rfl, h1, h2, by omega, h4, h5, ?_⟩⟩
    rw [← h6, List.take_take]
    congr 1
    omega

/-- What is set in a block that the row does not lie in. -/
theorem own_set {w : World} {B : Nat} {E : TypeId} {s n : Nat} {v : Value} {xs : List Value} (h : w.ownsRow B E s v n xs) {g : Nat} (hg : v.ownBlock ≠ some g) (o : Nat) (u : Value) : (w.setCell ⟨g, o, none⟩ u).ownsRow B E s v n xs :=
  h.kept (Lib.grownBy_setCell w g o u) (.inr hg)

/-- The pile's slice set anew. -/
theorem PileAt.mk_set {E : TypeId} {s : Nat} {w : World} {B g o : Nat} {cur : Array Value} {T : TypeId} {v : Value} (hg : B ≤ g) (hb : w.heap[g]? = some (.cells cur T (0, 0))) (ha : cur[o]? = some v) (hT : T ≠ E) {u : Value} {m : Nat} {ds : List Value} (hu : w.ownsRow B E s u m ds) (hn : u.ownBlock ≠ some g) : PileAt E s (w.setCell ⟨g, o, none⟩ u) B g o (cur.setIfInBounds o u) T u m ds := by
  refine ⟨hg, heap_setCell_same w g o cur T u hb, ?_, own_set hu hn o u, hT⟩
  have : o < cur.size := (Array.getElem?_eq_some_iff.1 ha).1
  simp [this]

theorem PileAt.set {E s w B g o cur T v n cs} (h : PileAt E s w B g o cur T v n cs) {u : Value} {m : Nat} {ds : List Value} (hu : w.ownsRow B E s u m ds) (hg : u.ownBlock ≠ some g) : PileAt E s (w.setCell ⟨g, o, none⟩ u) B g o (cur.setIfInBounds o u) T u m ds :=
  PileAt.mk_set h.ge h.blk h.at_ h.ne hu hg

theorem PileAt.drew {E s w B g o cur T v n cs} (h : PileAt E s w B g o cur T v n cs) : PileAt E s w.drew B g o cur T v n cs := ⟨h.ge, h.blk, h.at_, h.row.drew, h.ne⟩

theorem KeepB.drew {p : Nat → Prop} {w w' : World} (h : KeepB p w w') : KeepB p w w'.drew := ⟨h.os, h.tape, h.output, h.size, h.block⟩

theorem PileAt.keep {E s w w' B g o cur T v n cs x} (h : PileAt E s w B g o cur T v n cs) (hk : KeepB (fun k => k = x) w w') (h1 : g ≠ x) (h2 : v.ownBlock ≠ some x) : PileAt E s w' B g o cur T v n cs :=
  ⟨h.ge, (hk.block g h.lt h1).trans h.blk, h.at_, h.row.kept (row := some x) ⟨hk.os, hk.tape, hk.output, hk.size, fun k hk1 hk2 => hk.block k hk1 (fun e => hk2 (by rw [e]))⟩ (.inr h2), h.ne⟩

def lenV : Value → Nat
  | .slice _ n _ => n
  | _ => 0

theorem own_len {w : World} {B : Nat} {E : TypeId} {s n : Nat} {v : Value} {xs : List Value} (h : w.ownsRow B E s v n xs) : ∃ a c, v = .slice a n c := by
  rcases h.2 with ⟨rfl, rfl⟩ | ⟨g, cap, cur, rfl, _⟩
  · exact ⟨none, 0, rfl⟩
  · exact ⟨_, _, rfl⟩

theorem own_pos {w : World} {B : Nat} {E : TypeId} {s n : Nat} {v : Value} {xs : List Value} (h : w.ownsRow B E s v n xs) (hn : 0 < n) : ∃ b c, v = .slice (some ⟨b, 0, none⟩) n c ∧ b < w.heap.size ∧ B ≤ b ∧ n ≤ c ∧ ∀ j, j < n * s → w.cell? ⟨b, j, none⟩ = xs[j]? := by
  rcases h.2 with ⟨rfl, rfl⟩ | ⟨g, cap, cur, rfl, hB, hh, hc, _, hs, ht⟩
  · omega
  · refine ⟨g, cap, rfl, lt_of_heap hh, hB, hc, fun j hj => ?_⟩
    rw [Lib.cell_of_heap hh, ← ht, List.getElem?_take, if_pos hj, Array.getElem?_toList]

/-- Numbers, the top first. -/
abbrev PileI (w : World) (B g o : Nat) (cur : Array Value) (T : TypeId) (v : Value) (L : List Nat) : Prop := PileAt 2 1 w B g o cur T v L.length (intC L.reverse)

theorem rev_last (x : Nat) (L : List Nat) : (intC (x :: L).reverse)[L.length]? = some (.int .i64 (x : Int)) := by
  rw [List.reverse_cons, intC_app, List.getElem?_append_right (by rw [intC_len, List.length_reverse]; exact Nat.le_refl _)]
  simp [intC]

theorem rev_take (x : Nat) (L : List Nat) : (intC (x :: L).reverse).take (L.length * 1) = intC L.reverse := by
  rw [List.reverse_cons, intC_app, List.take_left' (by rw [intC_len, List.length_reverse, Nat.mul_one])]

theorem PileAt.less {w : World} {B g o b c n : Nat} {cur : Array Value} {T : TypeId} {x : Nat} {L : List Nat} (h : PileI w B g o cur T (.slice (some ⟨b, 0, none⟩) (x :: L).length c) (x :: L)) (hn : L.length = n) :
    PileI (w.setCell ⟨g, o, none⟩ (.slice (some ⟨b, 0, none⟩) n c)) B g o (cur.setIfInBounds o (.slice (some ⟨b, 0, none⟩) n c)) T (.slice (some ⟨b, 0, none⟩) n c) L := by
  subst hn
  have h1 := own_less (m := L.length) h.row (by rw [List.length_cons]; omega)
  rw [rev_take] at h1
  exact h.set h1 h.own_ne

set_option maxHeartbeats 1000000 in
theorem cPiSize (B g o : Nat) (cur : Array Value) (T : TypeId) (v : Value) (L : List Nat) (w : World) (h : PileI w B g o cur T v L) :
    Calls Try.prog 61 #[.pointer (some ⟨g, o, none⟩)] w fun e w' => e = .returned (.int .i64 (L.length : Nat)) ∧ w' = w := by
  have c0 := h.cell
  obtain ⟨a, c, rfl⟩ := own_len h.row
  clear h
  generalize L.length = n at *
  go_enter Try.func61, Try.ntmps61
  go_wp2
  go_ret
  exact ⟨rfl, rfl⟩

set_option maxHeartbeats 1000000 in
theorem cPiTop0 (B g o : Nat) (cur : Array Value) (T : TypeId) (v : Value) (w : World) (h : PileI w B g o cur T v []) :
    Calls Try.prog 77 #[.pointer (some ⟨g, o, none⟩)] w fun e w' => e = .returned (.tuple #[.int .i64 0, .bool false]) ∧ Below w.heap.size w w' := by
  have c0 := h.cell
  obtain ⟨a, c, rfl⟩ := own_len h.row
  clear h
  go_enter Try.func77, Try.ntmps77
  go_wp2
  go_ret2
  exact ⟨rfl, Below.refl _ _⟩

set_option maxHeartbeats 1000000 in
theorem cPiTop (B g o : Nat) (cur : Array Value) (T : TypeId) (v : Value) (x : Nat) (L : List Nat) (w : World) (h : PileI w B g o cur T v (x :: L)) (hn : L.length ≤ 1048576) :
    Calls Try.prog 77 #[.pointer (some ⟨g, o, none⟩)] w fun e w' => e = .returned (.tuple #[.int .i64 (x : Int), .bool true]) ∧ Below w.heap.size w w' := by
  have c0 := h.cell
  obtain ⟨b, c, rfl, hb, _, hc, hcs⟩ := own_pos h.row (Nat.succ_pos _)
  have c1 := hcs L.length (by rw [List.length_cons]; omega)
  rw [rev_last] at c1
  clear h hcs
  rw [List.length_cons] at c0 hc
  obtain ⟨n, hnn⟩ : ∃ n, L.length = n := ⟨_, rfl⟩
  rw [hnn] at c0 c1 hn hc
  clear hnn
  have hq : ((n + 1 : Nat) : Int) = (n : Int) + 1 := by omega
  have hd : (((n : Int) + 1) == 0) = false := by simp; omega
  go_enter Try.func77, Try.ntmps77
  go_wp2_with fail
  go_quiet (fail)
  go_wp2_with fail
  go_ret2
  exact ⟨rfl, below_drewN (Below.refl _ _) _⟩

end Go.Proofs.Ytcjeodgfpnecgaa
