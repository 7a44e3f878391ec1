/- Contracts of l8Kids, KidsOf, l8Text and TextIn of the specification. A pile: what is open, in a row of its own; contracts of the pile of numbers. Contracts of the pile of numbers: taken off, laid on, down to. -/
import Derived.Test.YtkcmagfbacmllaaM10
import Derived.OwnWalk
import Derived.Deep.QuietTactic
import Derived.BigQuiet
namespace Go.Proofs.Ytkcmagfbacmllaa
open Go.RowKit
set_option linter.unusedVariables false
set_option linter.unusedSimpArgs false

/-- Nodes up to e whose parent it is. -/
def kidsTo (ts : List Tk) (k e : Nat) : List Nat := (List.range e).filter fun i => decide (k < i) && decide (parI ts i = (k : Int))

/-- Nodes whose parent it is. -/
def kidsN (ts : List Tk) (k : Nat) : List Nat := kidsTo ts k ts.length

theorem kidsTo_first (ts : List Tk) (k : Nat) : kidsTo ts k (k + 1) = [] := by
  unfold kidsTo
  rw [List.filter_eq_nil_iff]
  intro i hi
  have := List.mem_range.1 hi
  simp
  omega

theorem kidsTo_next {ts : List Tk} {k e : Nat} (h : k < e) : kidsTo ts k (e + 1) = kidsTo ts k e ++ (if parI ts e = (k : Int) then [e] else []) := by
  unfold kidsTo
  rw [List.range_succ, List.filter_append]
  congr 1
  by_cases q : parI ts e = (k : Int)
  · simp [h, q]
  · simp [q]

theorem kidsTo_len (ts : List Tk) (k e : Nat) : (kidsTo ts k e).length ≤ e := by
  have := List.length_filter_le (fun i => decide (k < i) && decide (parI ts i = (k : Int))) (List.range e)
  rw [List.length_range] at this
  exact this

theorem kidsN_lt {ts : List Tk} {k i : Nat} (h : i ∈ kidsN ts k) : i < ts.length := List.mem_range.1 (List.mem_filter.1 h).1

/-- Numbers as cells. -/
def intC (l : List Nat) : List Value := l.map fun (i : Nat) => .int .i64 (i : Int)

theorem intC_len (l : List Nat) : (intC l).length = l.length := by simp [intC]

theorem intC_app (l m : List Nat) : intC (l ++ m) = intC l ++ intC m := by simp [intC]

theorem info64 : (Try.prog.info? 2).map (fun i => (i.zero, i.size, i.bytes)) = some (some (.int .i64 0), 1, 8) := by kernel_rfl

theorem one_cell64 (w : World) (v : Value) : ∀ j u, [v][j]? = some u → (w.alloc (.cells #[v] 2)).cell? ((⟨w.heap.size, 0, none⟩ : Addr).add j) = some u := by
  intro j u hj
  match j, hj with
  | 0, hj => simp at hj; subst hj; simp [Addr.add]

theorem one_one64 (n : Int) : ∀ u ∈ [Value.int .i64 n], u.oneCell' = true := by
  intro u hu; simp at hu; subst hu; rfl

set_option maxRecDepth 8000 in
set_option maxHeartbeats 4000000 in
theorem cKidsS (a : Option Addr) (cap : Nat) (ts : List Tk) (k : Nat) (w : World) (hR : TkRow w a ts) (hk : k < ts.length) (hn : ts.length ≤ 1048576) :
    Calls Try.prog 41 #[.slice a ts.length cap, .int .i64 (k : Int)] w fun e w' => ∃ v, e = .returned v ∧ w'.ownsRow w.heap.size 2 1 v (kidsN ts k).length (intC (kidsN ts k)) ∧ Below w.heap.size w w' := by
  have HR := hid hR
  obtain ⟨i0, hi, hz0, hz1, hz2⟩ := info_parts info64
  have HI := hid (And.intro hi (And.intro hz0 (And.intro hz1 hz2)))
  clear hi hz0 hz1 hz2 hR
  obtain ⟨V, hV⟩ : ∃ V, kidsN ts k = V := ⟨_, rfl⟩
  have HV := hid hV
  rw [hV]
  clear hV
  obtain ⟨n, hnn⟩ : ∃ n, ts.length = n := ⟨_, rfl⟩
  have HN := hid hnn
  rw [hnn] at hn hk ⊢
  clear hnn
  go_enter Try.func41, Try.ntmps41
  go_wp2
  go_loopw [5, 6] (fun v x wr => ∃ e : Nat, x = .int .i64 (e : Int) ∧ k < e ∧ e ≤ n ∧ Hid (wr.ownsRow w.heap.size 2 1 v (kidsTo ts k e).length (intC (kidsTo ts k e))) ∧ Hid (Below w.heap.size w wr)) (fun _ x _ => n - (intOf x).toNat)
  case atStart => exact ⟨k + 1, by go_num, by omega, by omega, by rw [kidsTo_first]; exact World.ownsRow_made _ _ _ (Nat.le_refl _) (by decide) rfl, (Below.refl _ _).alloc (Nat.le_refl _) _⟩
  case round =>
    obtain ⟨e, rfl, h1, h2, HO, HB⟩ := hrel
    by_cases hlt : e < n
    · have hes : e < ts.length := by rw [HN.out]; exact hlt
      have hin : (e : Int) < (n : Int) := by omega
      obtain ⟨b, o, rfl, c0, _⟩ := (HR.out.below HB.out).kindAt e hes
      have HX := hid (kidsTo_next (ts := ts) h1)
      by_cases hp : parI ts e = (k : Int)
      · rw [if_pos hp] at HX
        have hlen := kidsTo_len ts k e
        have hd : (parI ts e == (k : Int)) = true := by simpa using hp
        generalize parI ts e = P at *
        clear hp
        obtain ⟨hi, hz0, hz1, hz2⟩ := HI.out
        have hsz := HB.out.size
        have HOA := hid (HO.out.alloc (.cells #[.int .i64 (e : Int)] 2))
        have hlen2 : (intC (kidsTo ts k e)).length ≤ e := by rw [intC_len]; exact hlen
        go_wp2_with (at_builtin; refine wpList_append_own _ rfl _ _ 28 rfl w.heap.size 2 i0 (.int .i64 0) 1 8 Try.underlying28 hi hz0 hz1 hz2 rfl (by decide) _ _ _ rfl HOA.out ⟨wr.heap.size, 0, none⟩ 1 1 [.int .i64 (e : Int)] rfl rfl ?c1 ?c2 ?c3 ?c4 ?c5 ?_)
        case c1 => exact one_cell64 _ _
        case c2 => exact one_one64 _
        case c3 => unfold maxLen; omega
        case c4 => omega
        case c5 => simp; omega
        intro v' w2 hown' hgrow _
        have HO2 := hid (show w2.ownsRow w.heap.size 2 1 v' (kidsTo ts k (e + 1)).length (intC (kidsTo ts k (e + 1))) by rw [HX.out, intC_app, List.length_append]; exact hown')
        have HB2 := hid ((HB.out.alloc hsz (.cells #[.int .i64 (e : Int)] 2)).grown hgrow (by simp; omega) (fun g hg => (HOA.out.lt g hg).1))
        clear hown' hgrow
        go_wp2
        go_roundw
        case rel => exact ⟨e + 1, by go_num, by omega, by omega, HO2.out, HB2.out⟩
        case measure => simp [intOf]; omega
      · rw [if_neg hp, List.append_nil] at HX
        have hd : (parI ts e == (k : Int)) = false := by simpa using hp
        generalize parI ts e = P at *
        clear hp
        go_wp2
        go_roundw
        case rel => exact ⟨e + 1, by go_num, by omega, by omega, by rw [HX.out]; exact HO.out, HB.out⟩
        case measure => simp [intOf]; omega
    · have hee : e = n := by omega
      subst hee
      have HW := hid (show kidsTo ts k e = V by rw [← HV.out]; unfold kidsN; rw [HN.out])
      have HO2 := HO.out
      rw [HW.out] at HO2
      have HO3 := hid HO2
      clear HO2 HO
      go_wp2
      go_ret
      exact ⟨_, rfl, HO3.out, HB.out⟩

/-- A cell of a row of numbers of our own. -/
theorem row64 {w : World} {B : Nat} {v : Value} {l : List Nat} (h : w.ownsRow B 2 1 v l.length (intC l)) : (∃ a cap, v = .slice a l.length cap) ∧ ∀ i (hi : i < l.length), ∃ g cap, v = .slice (some ⟨g, 0, none⟩) l.length cap ∧ g < w.heap.size ∧ w.cell? ⟨g, i, none⟩ = some (.int .i64 (l[i] : Int)) := by
  rcases h.2 with ⟨rfl, h0⟩ | ⟨g, cap, cur, rfl, hg, hh, hn, hc, hs, ht⟩
  · have : l = [] := List.eq_nil_of_length_eq_zero h0
    subst this
    exact ⟨⟨none, 0, rfl⟩, fun i hi => absurd hi (Nat.not_lt_zero _)⟩
  · refine ⟨⟨_, _, rfl⟩, fun i hi => ⟨g, cap, rfl, lt_of_heap hh, ?_⟩⟩
    rw [Lib.cell_of_heap hh, ← Array.getElem?_toList]
    have hk : (intC l)[i]? = some (.int .i64 (l[i] : Int)) := by
      unfold intC
      rw [List.getElem?_map, List.getElem?_eq_getElem hi]
      rfl
    rw [← ht, List.getElem?_take] at hk
    split at hk
    · exact hk
    · cases hk

theorem row64_mono {w : World} {B B' n : Nat} {v : Value} {xs : List Value} {e : TypeId} (h : w.ownsRow B' e 1 v n xs) (hB : B ≤ B') : w.ownsRow B e 1 v n xs := by
  refine ⟨h.1, ?_⟩
  rcases h.2 with h' | ⟨g, cap, cur, h1, h2, h3⟩
  · exact .inl h'
  · exact .inr ⟨g, cap, cur, h1, Nat.le_trans hB h2, h3⟩

noncomputable def kidsI (ts : List Tk) (x : Int) : List Nat := if hasB ts x = true then kidsN ts x.toNat else []

set_option maxHeartbeats 2000000 in
theorem cKidsOfS (a : Option Addr) (cap : Nat) (ts : List Tk) (x : Int) (w : World) (hR : TkRow w a ts) (hn : ts.length ≤ 1048576) (hz : TksSz 1048576 ts) :
    Calls Try.prog 15 #[.slice a ts.length cap, .int .i64 x] w fun e w' => ∃ v, e = .returned v ∧ w'.ownsRow w.heap.size 2 1 v (kidsI ts x).length (intC (kidsI ts x)) ∧ Below w.heap.size w w' := by
  have C := hid (cHasS a cap ts x w hR hn hz)
  have HR := hid hR
  cases q : hasB ts x
  · have e1 : kidsI ts x = [] := by unfold kidsI; rw [q]; rfl
    rw [e1]
    rw [q] at C
    clear hz hR e1
    generalize ts.length = n at *
    go_enter Try.func15, Try.ntmps15
    go_wp2_with fail
    refine C.out.mono ?_
    rintro e w1 ⟨rfl, hb1⟩
    have HB1 := hid hb1
    have hsz := hb1.size
    clear hb1
    go_wp2_with fail
    go_ret
    exact ⟨_, rfl, World.ownsRow_made _ _ _ hsz (by decide) rfl, HB1.out.alloc hsz _⟩
  · obtain ⟨_, k, rfl, hk⟩ := hasB_t q
    have e1 : kidsI ts (k : Int) = kidsN ts k := by unfold kidsI; rw [q]; rfl
    have CE := hid (fun wx h => cKidsS a cap ts k wx h hk hn)
    rw [e1]
    rw [q] at C
    clear hz hR e1 hk
    generalize kidsN ts k = E at *
    generalize ts.length = n at *
    go_enter Try.func15, Try.ntmps15
    go_wp2_with fail
    refine C.out.mono ?_
    rintro e w1 ⟨rfl, hb1⟩
    have HB1 := hid hb1
    clear hb1
    go_wp2_with fail
    refine (CE.out _ (HR.out.below HB1.out)).mono ?_
    rintro e w2 ⟨v, rfl, ho, hb2⟩
    have HO := hid (row64_mono ho HB1.out.size)
    have HB2 := hid (bb HB1.out hb2)
    clear ho hb2
    go_wp2_with fail
    go_ret
    exact ⟨_, rfl, HO.out, HB2.out⟩

def textAt (ts : List Tk) (k : Nat) : ByteArray := match ts[k]? with | some t => t.text | none => ⟨#[]⟩

theorem textAt_at {ts : List Tk} {k : Nat} (h : k < ts.length) : textAt ts k = ts[k].text := by unfold textAt; rw [List.getElem?_eq_getElem h]

/-- The texts of these, one behind the other. -/
def joinT (ts : List Tk) (ks : List Nat) : ByteArray := ks.foldl (fun s k => s ++ textAt ts k) ⟨#[]⟩

theorem joinT_snoc (ts : List Tk) (ks : List Nat) (k : Nat) : joinT ts (ks ++ [k]) = joinT ts ks ++ textAt ts k := by simp [joinT]

theorem tree_text {ts : List Tk} (h : TreeP ts) (k : Nat) : (textAt ts k).size ≤ 60 := by
  by_cases hk : k < ts.length
  · rw [textAt_at hk]
    obtain ⟨⟨_, hb⟩, _⟩ := h.2.2.2.2 k hk
    by_cases e : ts[k].name.size = 0
    · rw [nodeB_tx e] at hb
      simp only [Bool.and_eq_true, textB, decide_eq_true_eq] at hb
      exact hb.2.2.2
    · rw [nodeB_el e] at hb
      simp only [Bool.and_eq_true, decide_eq_true_eq] at hb
      omega
  · unfold textAt
    rw [List.getElem?_eq_none (by omega)]
    exact Nat.zero_le _

theorem joinT_size {ts : List Tk} (h : ∀ k, (textAt ts k).size ≤ 60) (ks : List Nat) : (joinT ts ks).size ≤ 60 * ks.length := by
  have H : ∀ (ks : List Nat) (s : ByteArray), (ks.foldl (fun s k => s ++ textAt ts k) s).size ≤ s.size + 60 * ks.length := by
    intro ks
    induction ks with
    | nil => intro s; simp
    | cons k ks ih =>
      intro s
      have := ih (s ++ textAt ts k)
      have h2 := h k
      rw [ByteArray.size_append] at this
      simp only [List.foldl_cons, List.length_cons]
      omega
  have := H ks ⟨#[]⟩
  rw [show (⟨#[]⟩ : ByteArray).size = 0 from rfl] at this
  unfold joinT
  omega

set_option maxRecDepth 8000 in
set_option maxHeartbeats 4000000 in
theorem cTextS (a : Option Addr) (cap : Nat) (ts : List Tk) (k : Nat) (w : World) (hR : TkRow w a ts) (hk : k < ts.length) (hn : ts.length ≤ 1048576) (ht : TreeP ts) :
    Calls Try.prog 42 #[.slice a ts.length cap, .int .i64 (k : Int)] w fun e w' => e = .returned (.string (joinT ts (kidsN ts k))) ∧ Below w.heap.size w w' := by
  have HR := hid hR
  have HS := hid (joinT_size (tree_text ht))
  have HTX := hid (tree_text ht)
  have C := hid (cKidsS a cap ts k w hR hk hn)
  have HK := hid (fun i (h : i ∈ kidsN ts k) => kidsN_lt h)
  have hlen := kidsTo_len ts k ts.length
  obtain ⟨V, hV⟩ : ∃ V, kidsN ts k = V := ⟨_, rfl⟩
  have hlen2 : V.length ≤ ts.length := by rw [← hV]; exact hlen
  rw [hV] at C HK ⊢
  clear hV hR ht hlen
  obtain ⟨n, hnn⟩ : ∃ n, ts.length = n := ⟨_, rfl⟩
  have HN := hid hnn
  rw [hnn] at hn hk hlen2 C ⊢
  clear hnn
  go_enter Try.func42, Try.ntmps42
  go_wp2_with fail
  refine C.out.mono ?_
  rintro e w1 ⟨v, rfl, ho, hb1⟩
  obtain ⟨⟨av, cv, hv⟩, hrow⟩ := row64 ho
  have HRW := hid hrow
  have HB1 := hid hb1
  obtain ⟨L, hL⟩ : ∃ L, V.length = L := ⟨_, rfl⟩
  have HLL := hid hL
  rw [hL] at hv hlen2
  subst hv
  clear hrow hb1 ho C hL
  go_wp2_with fail
  go_loop [5, 7] (fun s x => ∃ i : Nat, x = .int .i64 (i : Int) ∧ i ≤ L ∧ Hid (s = .string (joinT ts (V.take i)))) (fun _ x => L - (intOf x).toNat)
  case atStart => exact ⟨0, rfl, Nat.zero_le _, rfl⟩
  case round =>
    obtain ⟨i, rfl, hi, HE⟩ := hrel
    have hse := HE.out
    have hsz := HS.out (V.take i)
    rw [List.length_take] at hsz
    by_cases hlt : i < L
    · have hiV : i < V.length := by rw [HLL.out]; exact hlt
      have hin : (i : Int) < (L : Int) := by omega
      have HX := hid (show joinT ts (V.take (i + 1)) = joinT ts (V.take i) ++ textAt ts V[i] by rw [take_snocN hiV, joinT_snoc])
      obtain ⟨g, cg, eg, hgl, c0⟩ := HRW.out i hiV
      obtain ⟨rfl, rfl⟩ : av = some ⟨g, 0, none⟩ ∧ cv = cg := by cases eg; exact ⟨rfl, rfl⟩
      have hq := HK.out V[i] (List.getElem_mem hiV)
      obtain ⟨b, o, aa, ca, ea, hb, c1, c2, c3, c4, _⟩ := (HR.out.below HB1.out) V[i] hq
      have htx := HTX.out V[i]
      rw [textAt_at hq] at htx HX
      have hqn : (V[i] : Int) < (n : Int) := by rw [HN.out] at hq; omega
      subst ea
      generalize ts[V[i]].text = T at *
      generalize V[i] = q at *
      generalize joinT ts (V.take i) = S at *
      subst hse
      clear c1 c2 c3 eg hiV
      have hf : ¬ 9223372036854775807 < S.size + T.size := by omega
      go_wp2_with fail
      go_round
      case rel => exact ⟨i + 1, by go_num, by omega, hid (by rw [HX.out])⟩
      case measure => simp [intOf]; omega
    · have hie : i = L := by omega
      subst hie
      have HW := hid (show V.take i = V from List.take_of_length_le (by rw [HLL.out]; exact Nat.le_refl _))
      rw [HW.out] at hse
      subst hse
      clear hsz
      go_wp2_with fail
      go_ret
      exact ⟨rfl, HB1.out⟩

noncomputable def textI (ts : List Tk) (x : Int) : ByteArray := if hasB ts x = true then joinT ts (kidsN ts x.toNat) else ⟨#[]⟩

set_option maxHeartbeats 2000000 in
theorem cTextInS (a : Option Addr) (cap : Nat) (ts : List Tk) (x : Int) (w : World) (hR : TkRow w a ts) (hn : ts.length ≤ 1048576) (hz : TksSz 1048576 ts) :
    Calls Try.prog 16 #[.slice a ts.length cap, .int .i64 x] w fun e w' => e = .returned (.string (textI ts x)) ∧ Below w.heap.size w w' := by
  have C := hid (cHasS a cap ts x w hR hn hz)
  have HR := hid hR
  cases q : hasB ts x
  · have e1 : textI ts x = ⟨#[]⟩ := by unfold textI; rw [q]; rfl
    rw [e1]
    rw [q] at C
    clear hz hR e1
    generalize ts.length = n at *
    go_enter Try.func16, Try.ntmps16
    go_wp2_with fail
    refine C.out.mono ?_
    rintro e w1 ⟨rfl, hb1⟩
    have HB1 := hid hb1
    clear hb1
    go_wp2_with fail
    go_ret
    exact ⟨rfl, HB1.out⟩
  · obtain ⟨ht, k, rfl, hk⟩ := hasB_t q
    have e1 : textI ts (k : Int) = joinT ts (kidsN ts k) := by unfold textI; rw [q]; rfl
    have CE := hid (fun wx h => cTextS a cap ts k wx h hk hn ht)
    rw [e1]
    rw [q] at C
    clear hz hR e1 hk ht
    generalize joinT ts (kidsN ts k) = E at *
    generalize ts.length = n at *
    go_enter Try.func16, Try.ntmps16
    go_wp2_with fail
    refine C.out.mono ?_
    rintro e w1 ⟨rfl, hb1⟩
    have HB1 := hid hb1
    clear hb1
    go_wp2_with fail
    refine (CE.out _ (HR.out.below HB1.out)).mono ?_
    rintro e w2 ⟨rfl, hb2⟩
    have HB2 := hid (bb HB1.out hb2)
    clear hb2
    go_wp2_with fail
    go_ret
    exact ⟨rfl, HB2.out⟩

end Go.Proofs.Ytkcmagfbacmllaa

namespace Go.Proofs.Ytkcmagfbacmllaa
open Go.RowKit
set_option linter.unusedVariables false
set_option linter.unusedSimpArgs false

/-- A pile's slice lies in the o-th cell of block g; what it holds lies in a row of its own. -/
structure PileAt (E : TypeId) (s : Nat) (w : World) (B g o : Nat) (cur : Array Value) (T : TypeId) (v : Value) (n : Nat) (cs : List Value) : Prop where
  ge : B ≤ g
  blk : w.heap[g]? = some (.cells cur T (0, 0))
  at_ : cur[o]? = some v
  row : w.ownsRow B E s v n cs
  ne : T ≠ E

theorem PileAt.lt {E s w B g o cur T v n cs} (h : PileAt E s w B g o cur T v n cs) : g < w.heap.size := lt_of_heap h.blk

theorem PileAt.cell {E s w B g o cur T v n cs} (h : PileAt E s w B g o cur T v n cs) : w.cell? ⟨g, o, none⟩ = some v := by
  rw [Lib.cell_of_heap h.blk]
  exact h.at_

theorem PileAt.own_ne {E s w B g o cur T v n cs} (h : PileAt E s w B g o cur T v n cs) : v.ownBlock ≠ some g := by
  intro e
  rcases h.row.2 with ⟨rfl, _⟩ | ⟨b, cap, c, rfl, _, hh, _⟩
  · cases e
  · have : b = g := Option.some.inj e
    subst this
    rw [h.blk] at hh
    injection hh with hh
    injection hh with _ h2 _
    exact h.ne h2

theorem PileAt.below {E s w w' B g o cur T v n cs} (h : PileAt E s w B g o cur T v n cs) (hb : Below w.heap.size w w') : PileAt E s w' B g o cur T v n cs :=
  ⟨h.ge, (hb.block g h.lt).trans h.blk, h.at_, ownsRow_below h.row hb, h.ne⟩

theorem own_less {w : World} {B : Nat} {E : TypeId} {s b n m cap : Nat} {xs : List Value} (h : w.ownsRow B E s (.slice (some ⟨b, 0, none⟩) n cap) n xs) (hm : m ≤ n) : w.ownsRow B E s (.slice (some ⟨b, 0, none⟩) m cap) m (xs.take (m * s)) := by
  rcases h.2 with ⟨e, _⟩ | ⟨g, c, cur, e, h1, h2, h3, h4, h5, h6⟩
  · cases e
  · injection e with e1 e2 e3
    injection e1 with e1
    injection e1 with e1 _ _
    subst e1 e3
    have hms : m * s ≤ n * s := Nat.mul_le_mul_right _ hm
    refine ⟨by rw [List.length_take, h.1]; omega, .inr ⟨b, cap, cur, rfl, h1, h2, by omega, h4, h5, ?_⟩⟩
    rw [← h6, List.take_take]
    congr 1
    omega

/-- What is set in a block that the row does not lie in. -/
theorem own_set {w : World} {B : Nat} {E : TypeId} {s n : Nat} {v : Value} {xs : List Value} (h : w.ownsRow B E s v n xs) {g : Nat} (hg : v.ownBlock ≠ some g) (o : Nat) (u : Value) : (w.setCell ⟨g, o, none⟩ u).ownsRow B E s v n xs :=
  h.kept (Lib.grownBy_setCell w g o u) (.inr hg)

/-- The pile's slice set anew. -/
theorem PileAt.mk_set {E : TypeId} {s : Nat} {w : World} {B g o : Nat} {cur : Array Value} {T : TypeId} {v : Value} (hg : B ≤ g) (hb : w.heap[g]? = some (.cells cur T (0, 0))) (ha : cur[o]? = some v) (hT : T ≠ E) {u : Value} {m : Nat} {ds : List Value} (hu : w.ownsRow B E s u m ds) (hn : u.ownBlock ≠ some g) : PileAt E s (w.setCell ⟨g, o, none⟩ u) B g o (cur.setIfInBounds o u) T u m ds := by
  refine ⟨hg, heap_setCell_same w g o cur T u hb, ?_, own_set hu hn o u, hT⟩
  have : o < cur.size := (Array.getElem?_eq_some_iff.1 ha).1
  simp [this]

theorem PileAt.set {E s w B g o cur T v n cs} (h : PileAt E s w B g o cur T v n cs) {u : Value} {m : Nat} {ds : List Value} (hu : w.ownsRow B E s u m ds) (hg : u.ownBlock ≠ some g) : PileAt E s (w.setCell ⟨g, o, none⟩ u) B g o (cur.setIfInBounds o u) T u m ds :=
  PileAt.mk_set h.ge h.blk h.at_ h.ne hu hg

theorem PileAt.drew {E s w B g o cur T v n cs} (h : PileAt E s w B g o cur T v n cs) : PileAt E s w.drew B g o cur T v n cs := ⟨h.ge, h.blk, h.at_, h.row.drew, h.ne⟩

theorem KeepB.drew {p : Nat → Prop} {w w' : World} (h : KeepB p w w') : KeepB p w w'.drew := ⟨h.os, h.tape, h.output, h.size, h.block⟩

theorem PileAt.keep {E s w w' B g o cur T v n cs x} (h : PileAt E s w B g o cur T v n cs) (hk : KeepB (fun k => k = x) w w') (h1 : g ≠ x) (h2 : v.ownBlock ≠ some x) : PileAt E s w' B g o cur T v n cs :=
  ⟨h.ge, (hk.block g h.lt h1).trans h.blk, h.at_, h.row.kept (row := some x) ⟨hk.os, hk.tape, hk.output, hk.size, fun k hk1 hk2 => hk.block k hk1 (fun e => hk2 (by rw [e]))⟩ (.inr h2), h.ne⟩

def lenV : Value → Nat
  | .slice _ n _ => n
  | _ => 0

theorem own_len {w : World} {B : Nat} {E : TypeId} {s n : Nat} {v : Value} {xs : List Value} (h : w.ownsRow B E s v n xs) : ∃ a c, v = .slice a n c := by
  rcases h.2 with ⟨rfl, rfl⟩ | ⟨g, cap, cur, rfl, _⟩
  · exact ⟨none, 0, rfl⟩
  · exact ⟨_, _, rfl⟩

theorem own_pos {w : World} {B : Nat} {E : TypeId} {s n : Nat} {v : Value} {xs : List Value} (h : w.ownsRow B E s v n xs) (hn : 0 < n) : ∃ b c, v = .slice (some ⟨b, 0, none⟩) n c ∧ b < w.heap.size ∧ B ≤ b ∧ n ≤ c ∧ ∀ j, j < n * s → w.cell? ⟨b, j, none⟩ = xs[j]? := by
  rcases h.2 with ⟨rfl, rfl⟩ | ⟨g, cap, cur, rfl, hB, hh, hc, _, hs, ht⟩
  · omega
  · refine ⟨g, cap, rfl, lt_of_heap hh, hB, hc, fun j hj => ?_⟩
    rw [Lib.cell_of_heap hh, ← ht, List.getElem?_take, if_pos hj, Array.getElem?_toList]

/-- Numbers, the top first. -/
abbrev PileI (w : World) (B g o : Nat) (cur : Array Value) (T : TypeId) (v : Value) (L : List Nat) : Prop := PileAt 2 1 w B g o cur T v L.length (intC L.reverse)

theorem rev_last (x : Nat) (L : List Nat) : (intC (x :: L).reverse)[L.length]? = some (.int .i64 (x : Int)) := by
  rw [List.reverse_cons, intC_app, List.getElem?_append_right (by rw [intC_len, List.length_reverse]; exact Nat.le_refl _)]
  simp [intC]

theorem rev_take (x : Nat) (L : List Nat) : (intC (x :: L).reverse).take (L.length * 1) = intC L.reverse := by
  rw [List.reverse_cons, intC_app, List.take_left' (by rw [intC_len, List.length_reverse, Nat.mul_one])]

theorem PileAt.less {w : World} {B g o b c n : Nat} {cur : Array Value} {T : TypeId} {x : Nat} {L : List Nat} (h : PileI w B g o cur T (.slice (some ⟨b, 0, none⟩) (x :: L).length c) (x :: L)) (hn : L.length = n) :
    PileI (w.setCell ⟨g, o, none⟩ (.slice (some ⟨b, 0, none⟩) n c)) B g o (cur.setIfInBounds o (.slice (some ⟨b, 0, none⟩) n c)) T (.slice (some ⟨b, 0, none⟩) n c) L := by
  subst hn
  have h1 := own_less (m := L.length) h.row (by rw [List.length_cons]; omega)
  rw [rev_take] at h1
  exact h.set h1 h.own_ne

set_option maxHeartbeats 1000000 in
theorem cPiSize (B g o : Nat) (cur : Array Value) (T : TypeId) (v : Value) (L : List Nat) (w : World) (h : PileI w B g o cur T v L) :
    Calls Try.prog 53 #[.pointer (some ⟨g, o, none⟩)] w fun e w' => e = .returned (.int .i64 (L.length : Nat)) ∧ w' = w := by
  have c0 := h.cell
  obtain ⟨a, c, rfl⟩ := own_len h.row
  clear h
  generalize L.length = n at *
  go_enter Try.func53, Try.ntmps53
  go_wp2
  go_ret
  exact ⟨rfl, rfl⟩

set_option maxHeartbeats 1000000 in
theorem cPiTop0 (B g o : Nat) (cur : Array Value) (T : TypeId) (v : Value) (w : World) (h : PileI w B g o cur T v []) :
    Calls Try.prog 87 #[.pointer (some ⟨g, o, none⟩)] w fun e w' => e = .returned (.tuple #[.int .i64 0, .bool false]) ∧ Below w.heap.size w w' := by
  have c0 := h.cell
  obtain ⟨a, c, rfl⟩ := own_len h.row
  clear h
  go_enter Try.func87, Try.ntmps87
  go_wp2
  go_ret2
  exact ⟨rfl, Below.refl _ _⟩

set_option maxHeartbeats 1000000 in
theorem cPiTop (B g o : Nat) (cur : Array Value) (T : TypeId) (v : Value) (x : Nat) (L : List Nat) (w : World) (h : PileI w B g o cur T v (x :: L)) (hn : L.length ≤ 1048576) :
    Calls Try.prog 87 #[.pointer (some ⟨g, o, none⟩)] w fun e w' => e = .returned (.tuple #[.int .i64 (x : Int), .bool true]) ∧ Below w.heap.size w w' := by
  have c0 := h.cell
  obtain ⟨b, c, rfl, hb, _, hc, hcs⟩ := own_pos h.row (Nat.succ_pos _)
  have c1 := hcs L.length (by rw [List.length_cons]; omega)
  rw [rev_last] at c1
  clear h hcs
  rw [List.length_cons] at c0 hc
  obtain ⟨n, hnn⟩ : ∃ n, L.length = n := ⟨_, rfl⟩
  rw [hnn] at c0 c1 hn hc
  clear hnn
  have hq : ((n + 1 : Nat) : Int) = (n : Int) + 1 := by omega
  have hd : (((n : Int) + 1) == 0) = false := by simp; omega
  go_enter Try.func87, Try.ntmps87
  go_wp2_with fail
  go_quiet (fail)
  go_wp2_with fail
  go_ret2
  exact ⟨rfl, below_drewN (Below.refl _ _) _⟩

end Go.Proofs.Ytkcmagfbacmllaa

namespace Go.Proofs.Ytkcmagfbacmllaa
open Go.RowKit
set_option linter.unusedVariables false
set_option linter.unusedSimpArgs false

set_option maxHeartbeats 2000000 in
theorem cPiTake (B g o : Nat) (cur : Array Value) (T : TypeId) (v : Value) (x : Nat) (L : List Nat) (w : World) (h : PileI w B g o cur T v (x :: L)) (hn : L.length ≤ 1048576) :
    Calls Try.prog 88 #[.pointer (some ⟨g, o, none⟩)] w fun e w' => e = .returned (.tuple #[.int .i64 (x : Int), .bool true]) ∧ (∃ v', PileI w' B g o (cur.setIfInBounds o v') T v' L ∧ v'.ownBlock = v.ownBlock) ∧ KeepB (fun k => k = g) w w' := by
  have C := hid (cPiTop B g o cur T v x L w h hn)
  obtain ⟨b, c, rfl, hb, _, hc, hcs⟩ := own_pos h.row (Nat.succ_pos _)
  clear hcs
  have HP := hid h
  clear h
  obtain ⟨n, hnn⟩ : ∃ n, L.length = n := ⟨_, rfl⟩
  have HN := hid hnn
  have hl : (x :: L).length = n + 1 := by rw [List.length_cons, hnn]
  have HL := hid hl
  rw [hl] at hc
  rw [hnn] at hn
  clear hnn hl
  go_enter Try.func88, Try.ntmps88
  go_wp2_with fail
  refine C.out.mono ?_
  rintro e w1 ⟨rfl, hb1⟩
  have HP1 := hid (HP.out.below hb1)
  have HB1 := hid hb1
  have c0 := HP1.out.cell
  have f0 := frozen_of_row w1 g o cur T HP1.out.blk
  have hlt := HP1.out.lt
  rw [HL.out] at c0
  have HS := hid (HP1.out.less HN.out)
  clear hb1 C HP
  have hq : ((n + 1 : Nat) : Int) = (n : Int) + 1 := by omega
  go_wp2_with fail
  go_region
  go_wp2_with fail
  go_ret2
  exact ⟨rfl, ⟨_, HS.out.drew, rfl⟩, (KeepB.of_below _ HB1.out).trans (KeepB.of_set (p := fun k => k = g) _ _ _ rfl).drew⟩

set_option maxHeartbeats 2000000 in
theorem cPiLay (B g o : Nat) (cur : Array Value) (T : TypeId) (v : Value) (x : Nat) (L : List Nat) (w : World) (h : PileI w B g o cur T v L) (hn : L.length ≤ 1048576) :
    Calls Try.prog 57 #[.pointer (some ⟨g, o, none⟩), .int .i64 (x : Int)] w fun e w' => e = .returned (.tuple #[]) ∧ (∃ v', PileI w' B g o (cur.setIfInBounds o v') T v' (x :: L)) ∧ Below B w w' := by
  obtain ⟨i0, hi, hz0, hz1, hz2⟩ := info_parts info64
  have c0 := h.cell
  have hlt := h.lt
  have hB : B ≤ w.heap.size := Nat.le_trans h.ge (Nat.le_of_lt hlt)
  have HP := hid (h.below ((Below.refl w.heap.size w).alloc (Nat.le_refl _) (.cells #[.int .i64 (x : Int)] 2)))
  clear h
  go_enter Try.func57, Try.ntmps57
  go_wp2_with (at_builtin; refine wpList_append_own_at _ rfl _ _ 28 rfl B 2 i0 (.int .i64 0) 1 8 Try.underlying28 hi hz0 hz1 hz2 rfl (by decide) _ _ _ rfl HP.out.row ⟨w.heap.size, 0, none⟩ 1 1 [.int .i64 (x : Int)] rfl rfl ?c1 ?c2 ?c3 ?c4 ?c5 ?_)
  case c1 => exact one_cell64 _ _
  case c2 => exact one_one64 _
  case c3 => unfold maxLen; omega
  case c4 => omega
  case c5 => simp; omega
  intro v' w2 hown' hgrow _ hv'
  have hblk := (hgrow.block g (by simp; omega) (fun e => HP.out.own_ne e.symm)).trans HP.out.blk
  have hne : v'.ownBlock ≠ some g := by
    rcases hv' with e | e
    · rw [e]; exact HP.out.own_ne
    · rw [e]; simp; omega
  have HB2 := hid ((((Below.refl B w).alloc hB (.cells #[.int .i64 (x : Int)] 2)).grown hgrow (by simp; omega) (fun k hk => (HP.out.row.lt k hk).1)).setCell (p := ⟨g, o, none⟩) HP.out.ge v')
  have HP2 := hid (PileAt.mk_set (w := w2) HP.out.ge hblk HP.out.at_ HP.out.ne hown' hne)
  have f0 := frozen_of_row w2 g o cur T hblk
  have c2 := show w2.cell? ⟨g, o, none⟩ = some v by rw [Lib.cell_of_heap hblk]; exact HP.out.at_
  obtain ⟨a', c', hvv⟩ := own_len hown'
  have HR := hid (show intC (x :: L).reverse = intC L.reverse ++ [.int .i64 (x : Int)] by rw [List.reverse_cons, intC_app]; rfl)
  subst hvv
  clear hown' hgrow hv' hblk hne c0
  go_wp2_with fail
  go_end0
  have hp := HP2.out
  rw [← HR.out] at hp
  exact ⟨rfl, ⟨_, hp⟩, HB2.out⟩

set_option maxHeartbeats 1000000 in
theorem cTreeOk1 (x : Nat) (P : Int) (b : Nat) (w : World) (hc : w.cell? ⟨b, 0, none⟩ = some (.int .i64 P)) :
    Calls Try.prog 52 #[.int .i64 (x : Int), .pointer (some ⟨b, 0, none⟩)] w fun e w' => e = .returned (.bool (decide ((x : Int) = P))) ∧ w' = w := by
  have hd : ((x : Int) == P) = decide ((x : Int) = P) := rfl
  generalize decide ((x : Int) = P) = D at *
  go_enter Try.func52, Try.ntmps52
  go_wp2
  go_ret
  exact ⟨rfl, rfl⟩

/-- What is not the parent. -/
def notP (P : Int) (x : Nat) : Bool := !decide ((x : Int) = P)

theorem dropWhile_at {α : Type} {p : α → Bool} : ∀ {l : List α} {i : Nat}, (∀ x ∈ l.take i, p x = true) → (∀ h : i < l.length, p l[i] = false) → l.dropWhile p = l.drop i
  | [], i, _, _ => by simp
  | x :: l, 0, _, h => by
    have := h (by simp)
    simp only [List.getElem_cons_zero] at this
    rw [List.dropWhile_cons, this]
    rfl
  | x :: l, i + 1, h1, h2 => by
    rw [List.dropWhile_cons, h1 x (by simp), List.drop_succ_cons]
    simp only [if_true]
    exact dropWhile_at (fun y hy => h1 y (by simp [hy])) (fun h => by have := h2 (by simpa using h); simpa using this)

theorem KeepB.below_of {p : Nat → Prop} {w w1 w' : World} (h : KeepB p w w1) (hb : Below w1.heap.size w1 w') : KeepB p w w' := h.trans (KeepB.of_below p hb)

/-- But for one cell. -/
def SameBut (o : Nat) (c c' : Array Value) : Prop := c'.size = c.size ∧ ∀ j, j ≠ o → c'[j]? = c[j]?

theorem SameBut.refl (o : Nat) (c : Array Value) : SameBut o c c := ⟨rfl, fun _ _ => rfl⟩

theorem SameBut.set {o : Nat} {c c' : Array Value} (h : SameBut o c c') (u : Value) : SameBut o c (c'.setIfInBounds o u) :=
  ⟨by rw [Array.size_setIfInBounds]; exact h.1, fun j hj => by rw [Array.getElem?_setIfInBounds_ne (fun e => hj e.symm)]; exact h.2 j hj⟩

def topI : List Nat → Int
  | [] => 0
  | x :: _ => (x : Int)

theorem cPiTopA (B g o : Nat) (cur : Array Value) (T : TypeId) (v : Value) (L : List Nat) (w : World) (h : PileI w B g o cur T v L) (hn : L.length ≤ 1000) :
    Calls Try.prog 87 #[.pointer (some ⟨g, o, none⟩)] w fun e w' => e = .returned (.tuple #[.int .i64 (topI L), .bool (decide (0 < L.length))]) ∧ Below w.heap.size w w' := by
  cases L with
  | nil => exact cPiTop0 B g o cur T v w h
  | cons x L =>
    rw [show decide (0 < (x :: L).length) = true from decide_eq_true (Nat.succ_pos _)]
    exact cPiTop B g o cur T v x L w h (by rw [List.length_cons] at hn; omega)

/-- What downTo knows. -/
structure DownI (w : World) (B g o : Nat) (cur : Array Value) (T : TypeId) (v0 : Value) (L : List Nat) (P : Int) (i : Nat) (wr : World) (v : Value) : Prop where
  no : ∀ x ∈ L.take i, notP P x = true
  pile : ∃ cur' v', PileI wr B g o cur' T v' (L.drop i) ∧ SameBut o cur cur' ∧ v'.ownBlock = v0.ownBlock
  own : wr.ownsRow w.heap.size 2 1 v i (intC (L.take i))
  keep : KeepB (fun k => k = g) w wr

set_option maxRecDepth 8000 in
set_option maxHeartbeats 4000000 in
theorem cPiDown (B g o : Nat) (cur : Array Value) (T : TypeId) (v0 : Value) (L : List Nat) (P : Int) (b : Nat) (w : World) (h : PileI w B g o cur T v0 L) (hn : L.length ≤ 1000) (hb : b < w.heap.size) (hbg : b ≠ g)
    (hc : w.cell? ⟨b, 0, none⟩ = some (.int .i64 P)) :
    Calls Try.prog 51 #[.pointer (some ⟨g, o, none⟩), .func (.func 52) #[] #[.pointer (some ⟨b, 0, none⟩)]] w fun e w' => (∃ r, e = .returned r) ∧ (∃ cur' v', PileI w' B g o cur' T v' (L.dropWhile (notP P)) ∧ SameBut o cur cur' ∧ v'.ownBlock = v0.ownBlock) ∧ KeepB (fun k => k = g) w w' := by
  obtain ⟨i0, hi, hz0, hz1, hz2⟩ := info_parts info64
  have HI := hid (And.intro hi (And.intro hz0 (And.intro hz1 hz2)))
  have HP := hid h
  have HC := hid hc
  have HBG := hid hbg
  have HBB := hid hb
  have C0 := hid (cPiTopA B g o cur T v0 L w h hn)
  clear hi hz0 hz1 hz2 h hc hbg hb
  obtain ⟨n, hnn⟩ : ∃ n, L.length = n := ⟨_, rfl⟩
  have HN := hid hnn
  rw [hnn] at hn C0
  clear hnn
  have HT0 := hid (show topI (L.drop 0) = topI L from rfl)
  generalize topI L = t0 at *
  generalize hdd : decide (0 < n) = D0 at *
  have HD0 := hid hdd
  clear hdd
  go_enter Try.func51, Try.ntmps51
  go_wp2_with fail
  refine C0.out.mono ?_
  rintro e w1 ⟨rfl, hb1⟩
  have HB1 := hid hb1
  clear hb1 C0
  go_wp2_with fail
  go_loopw [5, 6, 7] (fun v x y wr => ∃ i : Nat, i ≤ n ∧ Hid (x = .int .i64 (topI (L.drop i))) ∧ Hid (y = .bool (decide (i < n))) ∧ Hid (DownI w B g o cur T v0 L P i wr v)) (fun v _ _ _ => n - lenV v)
  case atStart => exact ⟨0, Nat.zero_le _, by rw [HT0.out]; exact rfl, by rw [HD0.out]; exact rfl, ⟨fun x hx => absurd hx (by simp), ⟨cur, v0, HP.out.below HB1.out, SameBut.refl _ _, rfl⟩, World.ownsRow_nil _ _ _ _, KeepB.of_below _ HB1.out⟩⟩
  case round =>
    obtain ⟨i, hin, HX, HY, ST⟩ := hrel
    obtain ⟨cur1, v1, hp1, hs1, ho1⟩ := ST.out.pile
    have HP1 := hid hp1
    have HS1 := hid hs1
    have HO1 := hid ho1
    clear hp1 hs1 ho1 HD0 HT0
    have hx := HX.out
    have hy := HY.out
    clear HX HY
    by_cases hlt : i < n
    case neg =>
      rw [decide_eq_false hlt] at hy
      subst hx hy
      have HE := hid (show L.dropWhile (notP P) = L.drop i from dropWhile_at ST.out.no (fun h => absurd h (by rw [HN.out]; exact hlt)))
      obtain ⟨a5, c5, rfl⟩ := own_len ST.out.own
      go_wp2_with fail
      go_ret
      exact ⟨⟨_, rfl⟩, ⟨cur1, v1, by rw [HE.out]; exact HP1.out, HS1.out, HO1.out⟩, ST.out.keep⟩
    have his : i < L.length := by rw [HN.out]; exact hlt
    have HDR := hid (List.drop_eq_getElem_cons his)
    obtain ⟨x, hxx⟩ : ∃ x, L[i] = x := ⟨_, rfl⟩
    have HXX := hid hxx
    rw [hxx] at HDR
    rw [HDR.out] at hx
    rw [decide_eq_true hlt] at hy
    have hx2 : topI (x :: L.drop (i + 1)) = (x : Int) := rfl
    rw [hx2] at hx
    subst hx hy
    clear hxx hx2
    have HPX : Hid (PileI wr B g o cur1 T v1 (x :: L.drop (i + 1))) := by rw [← HDR.out]; exact HP1.out
    have hlen : (L.drop (i + 1)).length = n - (i + 1) := by rw [List.length_drop, HN.out]
    have C1 := hid (cTreeOk1 x P b wr ((World.cell?_of_block (ST.out.keep.block b HBB.out HBG.out)).trans HC.out))
    obtain ⟨a5, c5, hv5⟩ := own_len ST.out.own
    by_cases q : (x : Int) = P
    case pos =>
      have HE := hid (show L.dropWhile (notP P) = L.drop i from dropWhile_at ST.out.no (fun h => by unfold notP; rw [HXX.out, decide_eq_true q]; rfl))
      rw [decide_eq_true q] at C1
      clear q
      subst hv5
      go_wp2_with fail
      refine C1.out.mono ?_
      rintro e w2 ⟨rfl, rfl⟩
      go_wp2_with fail
      go_ret
      exact ⟨⟨_, rfl⟩, ⟨cur1, v1, by rw [HE.out]; exact HP1.out, HS1.out, HO1.out⟩, ST.out.keep⟩
    rw [decide_eq_false q] at C1
    have HNO := hid (show ∀ y ∈ L.take (i + 1), notP P y = true from fun y hy => by
      rw [take_snocN his] at hy
      rcases List.mem_append.1 hy with h' | h'
      · exact ST.out.no y h'
      · rw [List.mem_singleton, HXX.out] at h'
        subst h'
        unfold notP
        rw [decide_eq_false q]
        rfl)
    have HTK := hid (show intC (L.take (i + 1)) = intC (L.take i) ++ [.int .i64 (x : Int)] by rw [take_snocN his, intC_app, HXX.out]; rfl)
    have CT := hid (cPiTake B g o cur1 T v1 x (L.drop (i + 1)) wr HPX.out (by rw [hlen]; omega))
    clear q HDR
    subst hv5
    go_wp2_with fail
    refine C1.out.mono ?_
    rintro e w2 ⟨rfl, rfl⟩
    go_wp2_with fail
    refine CT.out.mono ?_
    rintro e w3 ⟨rfl, ⟨v3, hp3, ho3⟩, hk3⟩
    have HP3 := hid hp3
    have HK3 := hid (ST.out.keep.trans hk3)
    have HO3 := hid (ho3.trans HO1.out)
    have hgl := HP.out.lt
    have HOW := hid ((ST.out.own.kept (row := some g) ⟨hk3.os, hk3.tape, hk3.output, hk3.size, fun k h1 h2 => hk3.block k h1 (fun e => h2 (by rw [e]))⟩ (.inr (fun e => by have := (ST.out.own.lt g e).1; omega))).alloc (.cells #[.int .i64 (x : Int)] 2))
    have HP3A := hid (HP3.out.below ((Below.refl w3.heap.size w3).alloc (Nat.le_refl _) (.cells #[.int .i64 (x : Int)] 2)))
    have hsz := HK3.out.size
    obtain ⟨hi, hz0, hz1, hz2⟩ := HI.out
    clear hp3 hk3 ho3 CT C1
    go_wp2_with (at_builtin; refine wpList_append_own_at _ rfl _ _ 28 rfl w.heap.size 2 i0 (.int .i64 0) 1 8 Try.underlying28 hi hz0 hz1 hz2 rfl (by decide) _ _ _ rfl HOW.out ⟨w3.heap.size, 0, none⟩ 1 1 [.int .i64 (x : Int)] rfl rfl ?c1 ?c2 ?c3 ?c4 ?c5 ?_)
    case c1 => exact one_cell64 _ _
    case c2 => exact one_one64 _
    case c3 => unfold maxLen; omega
    case c4 => omega
    case c5 => simp; omega
    intro v4 w4 hown' hgrow _ _
    have HOW4 := hid (show w4.ownsRow w.heap.size 2 1 v4 (i + 1) (intC (L.take (i + 1))) by rw [HTK.out]; exact hown')
    have HK4 := hid (show KeepB (fun k => k = g) w w4 from ⟨hgrow.os.trans HK3.out.os, hgrow.tape.trans HK3.out.tape, hgrow.output.trans HK3.out.output, Nat.le_trans (by simp; omega) hgrow.size, fun k h1 h2 => by
      rw [hgrow.block k (by simp; omega) (fun e => by have := (HOW.out.lt k e.symm).1; omega), Below.heap_alloc _ _ _ (by omega)]
      exact HK3.out.block k h1 h2⟩)
    have HP4 := hid (show PileI w4 B g o (cur1.setIfInBounds o v3) T v3 (L.drop (i + 1)) from ⟨HP3A.out.ge, (hgrow.block g HP3A.out.lt (fun e => by have := (HOW.out.lt g e.symm).1; omega)).trans HP3A.out.blk, HP3A.out.at_, HP3A.out.row.kept hgrow (by
      rcases h5 : v3.ownBlock with _ | k
      · exact .inl rfl
      · refine .inr (fun e => ?_)
        have h6 := (HOW.out.lt k e.symm).1
        rw [HO3.out] at h5
        have := (HP.out.row.lt k h5).2
        omega), HP3A.out.ne⟩)
    have C5 := hid (cPiTopA B g o _ T v3 (L.drop (i + 1)) w4 HP4.out (by rw [hlen]; omega))
    have hl0 : decide (0 < (L.drop (i + 1)).length) = decide (i + 1 < n) := by rw [hlen]; by_cases h : i + 1 < n <;> simp <;> omega
    rw [hl0] at C5
    obtain ⟨a4, c4, hv4⟩ := own_len hown'
    generalize htt : topI (L.drop (i + 1)) = tt at C5
    generalize hdd : decide (i + 1 < n) = dd at C5
    have HTT := hid htt
    have HDD := hid hdd
    subst hv4
    clear hown' hgrow htt hdd hl0
    go_wp2_with fail
    refine C5.out.mono ?_
    rintro e w5 ⟨rfl, hb5⟩
    have HB5 := hid hb5
    clear hb5
    go_wp2_with fail
    go_roundw
    case rel => exact ⟨i + 1, by omega, by rw [HTT.out]; exact rfl, by rw [HDD.out]; exact rfl, ⟨HNO.out, ⟨_, v3, HP4.out.below HB5.out, HS1.out.set _, HO3.out⟩, ownsRow_below HOW4.out HB5.out, HK4.out.below_of HB5.out⟩⟩
    case measure => simp [lenV]; omega

end Go.Proofs.Ytkcmagfbacmllaa
