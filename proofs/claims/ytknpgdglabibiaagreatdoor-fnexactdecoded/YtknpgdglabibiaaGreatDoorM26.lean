/- The shape of a row of nodes: of a copy among the laws' arguments, and of one that grew. Rows of numbers, as the exact law of KidsOf compares and marks them. Contract of the specification's l14Kids. -/
import Derived.Test.YtknpgdglabibiaaGreatDoorM25
import Derived.Test.YtknpgdglabibiaaGreatDoorM13
import Derived.Test.YtknpgdglabibiaaGreatDoorM24
import Derived.Test.YtknpgdglabibiaaGreatDoorM7
import Derived.Maps.AppendAt
namespace Go.Proofs.YtknpgdglabibiaaGreatDoor.Nd
open Go.RowKit
set_option linter.unusedVariables false
set_option linter.unusedSimpArgs false

def atT (ts : List Tk) (j : Nat) : Tk := match ts[j]? with | some t => t | none => ⟨0, ⟨#[]⟩, [], ⟨#[]⟩⟩

theorem atT_at {ts : List Tk} {j : Nat} (h : j < ts.length) : atT ts j = ts[j] := by unfold atT; rw [List.getElem?_eq_getElem h]

def shL (g : Nat) (G : Nat → Nat) (ts : List Tk) : Shape where
  R := g
  o := 0
  n := ts.length
  len := fun j => (atT ts j).attrs.length
  aa := fun j => some ⟨G j, 0, none⟩
  A := G
  O := fun _ => 0
  C := fun j => (atT ts j).attrs.length

theorem Laid.shape {ts : List Tk} {g : Nat} {G : Nat → Nat} {cur : Array Value} {w : World} (h : Laid ts g ts.length G cur w) (hh : w.heap[g]? = some (.cells cur 42 (0, 0))) : (shL g G ts).Ok g ∧ HoldsN (shL g G ts) w (atT ts) := by
  refine ⟨⟨Nat.le_refl _, fun j hj hl => ?_, fun i j hi hj hne _ _ e => ?_⟩, ⟨⟨cur, hh, fun j hj => ?_⟩, fun j hj => rfl, fun j hj hl => ?_⟩⟩
  · have := (h.row j hj hj).1
    exact ⟨rfl, by show g ≤ G j; omega, by show ¬ G j = g; omega⟩
  · have e : G i = G j := e
    rcases Nat.lt_or_gt_of_ne hne with h' | h'
    · have := h.later i j h' hj
      omega
    · have := h.later j i h' hi
      omega
  · obtain ⟨k0, k1, k2, k3⟩ := h.cells j hj hj
    have e := atT_at (ts := ts) hj
    rw [show (shL g G ts).o + j * 4 = j * 4 from Nat.zero_add _]
    exact ⟨by rw [e]; exact k0, by rw [e]; exact k1, by rw [show (shL g G ts).C j = ts[j].attrs.length from by show (atT ts j).attrs.length = _; rw [e], e]; exact k2, by rw [e]; exact k3⟩
  · obtain ⟨_, cu, h1, h2⟩ := h.row j hj hj
    refine ⟨cu, h1, ?_⟩
    rw [atT_at hj]
    exact h2

theorem shL_K (g : Nat) (G : Nat → Nat) (ts : List Tk) (k : Nat) : ∀ m, m ≤ ts.length → (shL g G ts).K k m = k + 3 * m + 2 * sumA (ts.take m)
  | 0, _ => rfl
  | m + 1, h => by
    show (shL g G ts).K k m + (3 + 2 * (atT ts m).attrs.length) = _
    rw [shL_K g G ts k m (by omega), take_snocN (show m < ts.length by omega), sumA_snoc, atT_at (show m < ts.length by omega)]
    omega

def shR (g : Nat) (es : List E) : Shape where
  R := g
  o := 0
  n := es.length
  len := fun j => match es[j]? with | some e => e.t.attrs.length | none => 0
  aa := fun j => match es[j]? with | some e => e.a | none => none
  A := fun j => match es[j]? with | some ⟨_, some ad, _⟩ => ad.block | _ => 0
  O := fun j => match es[j]? with | some ⟨_, some ad, _⟩ => ad.off | _ => 0
  C := fun j => match es[j]? with | some e => e.cap | none => 0

def eAt (es : List E) (j : Nat) : Tk := match es[j]? with | some e => e.t | none => ⟨0, ⟨#[]⟩, [], ⟨#[]⟩⟩

theorem eAt_map {es : List E} {ts : List Tk} (h : es.map (·.t) = ts) (j : Nat) (hj : j < ts.length) : eAt es j = ts[j] := by
  have hl : es.length = ts.length := by rw [← h, List.length_map]
  unfold eAt
  rw [List.getElem?_eq_getElem (by omega)]
  subst h
  simp

theorem shR_at (g : Nat) (es : List E) (j : Nat) (hj : j < es.length) : (shR g es).len j = es[j].t.attrs.length ∧ (shR g es).aa j = es[j].a ∧ (shR g es).C j = es[j].cap ∧ eAt es j = es[j].t
    ∧ ∀ b o, es[j].a = some ⟨b, o, none⟩ → (shR g es).A j = b ∧ (shR g es).O j = o := by
  have he := List.getElem?_eq_getElem hj
  refine ⟨?_, ?_, ?_, ?_, fun b o hb => ?_⟩
  · show (match es[j]? with | some e => e.t.attrs.length | none => 0) = _
    rw [he]
  · show (match es[j]? with | some e => e.a | none => none) = _
    rw [he]
  · show (match es[j]? with | some e => e.cap | none => 0) = _
    rw [he]
  · unfold eAt
    rw [he]
  · obtain ⟨x, hx⟩ : ∃ x, es[j] = x := ⟨_, rfl⟩
    rw [hx] at he hb
    obtain ⟨t, a, c⟩ := x
    simp only at hb
    subst hb
    exact ⟨by show (match es[j]? with | some ⟨_, some ad, _⟩ => ad.block | _ => 0) = _; rw [he], by show (match es[j]? with | some ⟨_, some ad, _⟩ => ad.off | _ => 0) = _; rw [he]⟩

theorem Row.shape {w : World} {B : Nat} {v : Value} {es : List E} (h : Row w B v es) (hne : ¬ es = []) :
    ∃ (g : Nat) (cap : Nat), v = .slice (some ⟨g, 0, none⟩) es.length cap ∧ (shR g es).Ok B ∧ HoldsN (shR g es) w (eAt es) := by
  rcases h.own.2 with ⟨_, h0⟩ | ⟨g, cap, cur, rfl, hg, hh, hn, hc, hs, ht⟩
  · exact absurd (List.eq_nil_of_length_eq_zero h0) hne
  · refine ⟨g, cap, rfl, ⟨hg, fun j hj hl => ?_, fun i j hi hj hne hl hl' => ?_⟩, ⟨⟨cur, hh, fun j hj => ?_⟩, fun j hj => ?_, fun j hj hl => ?_⟩⟩
    · obtain ⟨s1, s2, s3, s4, s5⟩ := shR_at g es j hj
      rw [s1] at hl
      obtain ⟨b, o, cu, e, hB, _⟩ := (h.ats _ (List.getElem_mem hj)).1 hl
      obtain ⟨s6, s7⟩ := s5 b o e
      rw [s2, s6, s7]
      exact ⟨e, hB, fun x => (h.ats _ (List.getElem_mem hj)).2 b o hl e (by rw [x]; rfl)⟩
    · obtain ⟨s1, s2, s3, s4, s5⟩ := shR_at g es i hi
      obtain ⟨t1, t2, t3, t4, t5⟩ := shR_at g es j hj
      rw [s1] at hl
      rw [t1] at hl'
      obtain ⟨b, o, _, e, _⟩ := (h.ats _ (List.getElem_mem hi)).1 hl
      obtain ⟨b', o', _, e', _⟩ := (h.ats _ (List.getElem_mem hj)).1 hl'
      rw [(s5 b o e).1, (t5 b' o' e').1]
      have hi : i < es.length := hi
      have hj : j < es.length := hj
      rcases Nat.lt_or_gt_of_ne hne with h' | h'
      · exact List.pairwise_iff_getElem.1 h.apart i j hi hj h' hl hl' b o b' o' e e'
      · exact fun x => List.pairwise_iff_getElem.1 h.apart j i hj hi h' hl' hl b' o' b o e' e x.symm
    · obtain ⟨s1, s2, s3, s4, s5⟩ := shR_at g es j hj
      obtain ⟨k0, k1, k2, k3⟩ := cs_get es j hj
      have hx : ∀ k u, (cs es)[k]? = some u → cur[0 + k]? = some u := by
        intro k u hk
        rw [Nat.zero_add, ← Array.getElem?_toList]
        rw [← ht, List.getElem?_take] at hk
        split at hk
        · exact hk
        · cases hk
      rw [s2, s3, s4]
      exact ⟨hx _ _ k0, hx _ _ k1, hx _ _ k2, hx _ _ k3⟩
    · obtain ⟨s1, s2, s3, s4, s5⟩ := shR_at g es j hj
      rw [s4, s1]
    · obtain ⟨s1, s2, s3, s4, s5⟩ := shR_at g es j hj
      rw [s1] at hl
      obtain ⟨b, o, cu, e, _, hhb, hcl⟩ := (h.ats _ (List.getElem_mem hj)).1 hl
      obtain ⟨s6, s7⟩ := s5 b o e
      rw [s6, s7, s4]
      exact ⟨cu, hhb, hcl⟩

theorem shR_K (g : Nat) (es : List E) (ts : List Tk) (hm : es.map (·.t) = ts) (k : Nat) : ∀ m, m ≤ ts.length → (shR g es).K k m = k + 3 * m + 2 * sumA (ts.take m)
  | 0, _ => rfl
  | m + 1, h => by
    have hl : es.length = ts.length := by rw [← hm, List.length_map]
    show (shR g es).K k m + (3 + 2 * (shR g es).len m) = _
    have e1 : es[m].t = ts[m] := by subst hm; simp
    rw [shR_K g es ts hm k m (by omega), take_snocN (show m < ts.length by omega), sumA_snoc, (shR_at g es m (by omega)).1, e1]
    omega

theorem Row.keep {w w' : World} {B : Nat} {v : Value} {es : List E} {p : Nat → Prop} (h : Row w B v es) (k : KeepB p w w') (hp : ∀ b, p b → b < B) : Row w' B v es := by
  have key : ∀ b o, B ≤ b → w.heap[b]? = some o → w'.heap[b]? = some o := fun b o hb hh => (k.block b (lt_of_heap hh) (fun x => by have := hp b x; omega)).trans hh
  refine ⟨⟨h.own.1, ?_⟩, fun e he => ⟨fun hl => ?_, (h.ats e he).2⟩, h.apart⟩
  · rcases h.own.2 with h' | ⟨g, cap, cur, h1, h2, h3, h4⟩
    · exact .inl h'
    · exact .inr ⟨g, cap, cur, h1, h2, key g _ h2 h3, h4⟩
  · obtain ⟨g, o, cu, e1, e2, e3, e4⟩ := (h.ats e he).1 hl
    exact ⟨g, o, cu, e1, e2, key g _ e2 e3, e4⟩

theorem cMarkNone (a : Option Addr) (cap k : Nat) (w : World) (hk : k ≤ 100000000) :
    Calls Tryz.prog 10 #[.slice a 0 cap, .int .i64 k] w fun e w' => e = .returned (.int .i64 k) ∧ w' = w := by
  go_enter Tryz.func10, Tryz.ntmps10
  go_wp2
  go_loopw [1, 5] (fun x y wr => x = .int .i64 k ∧ y = .int .i64 0 ∧ wr = w) (fun _ _ _ => 0)
  case atStart => exact ⟨rfl, rfl, rfl⟩
  case round =>
    obtain ⟨rfl, rfl, rfl⟩ := hrel
    go_wp2
    go_ret
    exact ⟨rfl, rfl⟩

end Go.Proofs.YtknpgdglabibiaaGreatDoor.Nd

namespace Go.Proofs.YtknpgdglabibiaaGreatDoor
open Go.RowKit
set_option linter.unusedVariables false
set_option linter.unusedSimpArgs false

/-- Numbers in a row from a on. -/
def IntRow (w : World) (a : Option Addr) (l : List Nat) : Prop := ∀ j (h : j < l.length), ∃ b o, a = some ⟨b, o, none⟩ ∧ b < w.heap.size ∧ w.cell? ⟨b, o + j, none⟩ = some (.int .i64 (l[j] : Int))

theorem IntRow.below {w w' : World} {a : Option Addr} {l : List Nat} (h : IntRow w a l) (hb : Below w.heap.size w w') : IntRow w' a l := by
  intro j hj
  obtain ⟨b, o, ha, hlt, c⟩ := h j hj
  exact ⟨b, o, ha, Nat.lt_of_lt_of_le hlt hb.size, (hb.cell (p := ⟨b, o + j, none⟩) hlt).trans c⟩

/-- A row of numbers of our own. -/
theorem own64 {w : World} {B : Nat} {v : Value} {l : List Nat} (h : w.ownsRow B 2 1 v l.length (intC l)) : ∃ a cap, v = .slice a l.length cap ∧ IntRow w a l := by
  rcases h.2 with ⟨rfl, h0⟩ | ⟨g, cap, cur, rfl, hg, hh, hn, hc, hs, ht⟩
  · have : l = [] := List.eq_nil_of_length_eq_zero h0
    subst this
    exact ⟨none, 0, rfl, fun j hj => absurd hj (Nat.not_lt_zero _)⟩
  · refine ⟨_, _, rfl, fun j hj => ⟨g, 0, rfl, lt_of_heap hh, ?_⟩⟩
    obtain ⟨g', cap', e, _, c⟩ := (row64 ⟨h.1, .inr ⟨g, cap, cur, rfl, hg, hh, hn, hc, hs, ht⟩⟩).2 j hj
    cases e
    rw [Nat.zero_add]
    exact c

theorem own64_rd {w : World} {B n c : Nat} {a : Option Addr} {l : List Nat} (h : w.ownsRow B 2 1 (.slice a n c) n (intC l)) (hn : l.length = n) : IntRow w a l := by
  subst hn
  obtain ⟨a', c', e, hr⟩ := own64 h
  cases e
  exact hr

theorem row64_keep {w w' : World} {B n : Nat} {v : Value} {xs : List Value} {p : Nat → Prop} {e : TypeId} (h : w.ownsRow B e 1 v n xs) (k : KeepB p w w') (hp : ∀ b, p b → b < B) : w'.ownsRow B e 1 v n xs := by
  refine ⟨h.1, ?_⟩
  rcases h.2 with h' | ⟨g, cap, cur, h1, h2, h3, h4⟩
  · exact .inl h'
  · exact .inr ⟨g, cap, cur, h1, h2, (k.block g (lt_of_heap h3) (fun x => by have := hp g x; omega)).trans h3, h4⟩

/-- The marks from k on. -/
def MarksI (cur : Array Value) (n k : Nat) : Prop := ∀ j, j < n → cur[j]? = some (.int .i64 ((k + j : Nat) : Int))

/-- The marks from 1 on. -/
def mkI (n : Nat) : List Nat := (List.range n).map fun j => 1 + j

theorem mkI_len (n : Nat) : (mkI n).length = n := by simp [mkI]

theorem mkI_at (n j : Nat) (h : j < (mkI n).length) : (mkI n)[j] = 1 + j := by simp [mkI]

theorem MarksI.row {w : World} {g n : Nat} {cur : Array Value} {T : TypeId} (h : MarksI cur n 1) (hh : w.heap[g]? = some (.cells cur T (0, 0))) : IntRow w (some ⟨g, 0, none⟩) (mkI n) := by
  intro j hj
  refine ⟨g, 0, rfl, lt_of_heap hh, ?_⟩
  rw [Lib.cell_of_heap hh, mkI_at n j hj, Nat.zero_add]
  rw [mkI_len] at hj
  exact h j hj

theorem kidsI_len (ts : List Tk) (x : Int) : (kidsI ts x).length ≤ ts.length := by
  unfold kidsI
  split
  · exact kidsTo_len ts _ _
  · exact Nat.zero_le _

/-- The blocks of a copy: from its own on, and there. -/
theorem Nd.Laid.hasI {ts : List Tk} {g : Nat} {G : Nat → Nat} {cur : Array Value} {w : World} (h : Nd.Laid ts g ts.length G cur w) (hh : w.heap[g]? = some (.cells cur 42 (0, 0))) : ∀ b, (Nd.shL g G ts).Has b → g ≤ b ∧ b < w.heap.size := by
  rintro b (rfl | ⟨j, hj, _, rfl⟩)
  · exact ⟨Nat.le_refl _, lt_of_heap hh⟩
  · obtain ⟨h1, cu, h2, _⟩ := h.row j hj hj
    have h3 := lt_of_heap h2
    exact ⟨by show g ≤ G j; omega, by show G j < w.heap.size; omega⟩

end Go.Proofs.YtknpgdglabibiaaGreatDoor

namespace Go.Proofs.YtknpgdglabibiaaGreatDoor
open Go.RowKit
set_option linter.unusedVariables false
set_option linter.unusedSimpArgs false

set_option maxRecDepth 8000 in
set_option maxHeartbeats 4000000 in
theorem c_spec_l14Kids (a : Option Addr) (cap : Nat) (ts : List Tk) (k : Nat) (loc : ByteArray) (w : World) (hR : TkRow w a ts) (hT : TreeP ts) (hk : k < ts.length) (hn : ts.length ≤ 1048576) (hz : TksSz 1048576 ts) :
    Calls Tryz.prog 39 #[.slice a ts.length cap, .int .i64 (k : Int), .string loc] w fun e w' => ∃ v, e = .returned v ∧ w'.ownsRow w.heap.size 2 1 v (kidsK ts k loc).length (intC (kidsK ts k loc)) ∧ Below w.heap.size w w' := by
  obtain ⟨i0, hi, hz0, hz1, hz2⟩ := info_parts info64
  have HI := hid (And.intro hi (And.intro hz0 (And.intro hz1 hz2)))
  clear hi hz0 hz1 hz2
  have CK := hid (fun wx (hb : Below w.heap.size w wx) => cKidsS a cap ts k wx (hR.below hb) hk hn)
  have CS := hid (fun (j : Nat) (hj : j < ts.length) wx (hb : Below w.heap.size w wx) => c_spec_l9Known a cap ts j loc claimS wx (hR.below hb) hT hj hn hz)
  have HL := hid (fun (q : Nat) (hq : q < (kidsN ts k).length) => kidsN_lt (List.getElem_mem hq))
  have hlk : (kidsN ts k).length ≤ ts.length := by
    unfold kidsN kidsTo
    exact Nat.le_trans (List.length_filter_le _ _) (by rw [List.length_range]; exact Nat.le_refl _)
  have HE := hid (show kidsK ts k loc = kidsP ts (kidsN ts k) loc (kidsN ts k).length by unfold kidsK kidsP; rw [List.take_length])
  rw [HE.out]
  have HRT := hid hR
  clear HE hR hT hz
  generalize kidsN ts k = L at *
  obtain ⟨n, hnn⟩ : ∃ n, ts.length = n := ⟨_, rfl⟩
  have HNN := hid hnn
  rw [hnn] at hn CK CS HL hlk ⊢
  clear hnn
  obtain ⟨m, hm⟩ : ∃ m, L.length = m := ⟨_, rfl⟩
  have HM := hid hm
  rw [hm] at CK hlk ⊢
  clear hm
  go_enter Tryz.func39, Tryz.ntmps39
  go_wp2_with fail
  have HBA := hid ((Below.refl w.heap.size w).alloc (Nat.le_refl _) (.cells #[] 2))
  refine (CK.out _ HBA.out).mono ?_
  rintro e w1 ⟨v6, rfl, ho6, hb1⟩
  have HB1 := hid (bb HBA.out hb1)
  have HO1 := hid (ownsRow_below (World.ownsRow_made (base := w.heap.size) (e := 2) (size := 1) w #[] 0 (Nat.le_refl w.heap.size) (by decide) rfl) hb1)
  rw [← HM.out] at ho6
  have hlt6 := ho6.lt
  obtain ⟨a6, c6, rfl, hr6⟩ := own64 ho6
  have HR6 := hid hr6
  have HF1 := hid (show ∀ x y, (Value.slice a6 L.length c6).ownBlock = some x → (Value.slice (some ⟨w.heap.size, 0, none⟩) 0 0).ownBlock = some y → ¬ y = x from fun x y hx hy => by
    have h := (hlt6 x hx).1
    have hy' : w.heap.size = y := Option.some.inj hy
    rw [World.size_alloc] at h
    omega)
  clear hlt6
  rw [HM.out] at HF1 ⊢
  clear hb1 ho6 hr6 CK HBA
  go_wp2_with fail
  go_loopw [7, 9] (fun v x wr => ∃ q : Nat, x = .int .i64 (q : Int) ∧ q ≤ m ∧ Hid (wr.ownsRow w.heap.size 2 1 v (kidsP ts L loc q).length (intC (kidsP ts L loc q))) ∧ Hid (IntRow wr a6 L) ∧ Hid (∀ x y, (Value.slice a6 m c6).ownBlock = some x → v.ownBlock = some y → ¬ y = x) ∧ Hid (Below w.heap.size w wr)) (fun _ x _ => m - (intOf x).toNat)
  case atStart => exact ⟨0, rfl, Nat.zero_le _, HO1.out, HR6.out, HF1.out, HB1.out⟩
  case round =>
    clear HB1 HO1 HR6 HF1
    obtain ⟨q, rfl, hq, HO, HR, HF, HB⟩ := hrel
    by_cases hlt : q < m
    · have hql : q < L.length := by rw [HM.out]; exact hlt
      have hqm : (q : Int) < (m : Int) := by omega
      obtain ⟨b, o, rfl, hb, c1⟩ := HR.out q hql
      have hjn := HL.out q hql
      have CS1 := hid (fun wx hb => CS.out L[q] hjn wx hb)
      have HX := hid (kidsP_next (ts := ts) (loc := loc) hql)
      obtain ⟨j, hj⟩ : ∃ j, L[q] = j := ⟨_, rfl⟩
      rw [hj] at c1 CS1 HX hjn
      clear hj
      have hjs : j < ts.length := by rw [HNN.out]; exact hjn
      obtain ⟨tb, tp, taa, tca, rfl, htb, q0, q1, q2, q3, hTA⟩ := HRT.out.below HB.out j hjs
      have E := empty_is ts[j].name
      have HKB := hid (show kidB ts loc j = (!decide (ts[j].name.size = 0) && knownN ts j loc claimS) by unfold kidB; rw [nameI_at hjs])
      have hji : (j : Int) < (n : Int) := by omega
      generalize ts[j].name = nm at *
      generalize ts[j].attrs.length = ta at *
      generalize ts[j].kind = tk at *
      generalize ts[j].text = tx at *
      clear hTA hjs
      generalize kidB ts loc j = K at *
      generalize knownN ts j loc claimS = KN at *
      generalize decide (nm.size = 0) = P at *
      go_upto_region 6 with fail
      go_cut [37] from 20 to 37 (fun v wv => v = .bool K ∧ Hid (Below wr.heap.size wr wv))
      case first =>
        cases P with
        | true =>
          go_wp2_with fail
          go_meet
          exact ⟨by rw [HKB.out]; rfl, Below.refl _ _⟩
        | false =>
          go_wp2_with fail
          refine (CS1.out _ HB.out).mono ?_
          rintro e1 w2 ⟨rfl, hb2⟩
          have HB2 := hid hb2
          clear hb2
          go_wp2_with fail
          go_meet
          exact ⟨by rw [HKB.out]; rfl, HB2.out⟩
      obtain ⟨rfl, HC⟩ := hcut
      obtain ⟨w2, hw2⟩ : ∃ W, W = wc := ⟨_, rfl⟩
      subst hw2
      have hb2 := HC.out
      clear HC q0 q1 q2 q3 E HKB
      have HB2 := hid (bb HB.out hb2)
      have HO2 := hid (ownsRow_below HO.out hb2)
      have HR2 := hid (HR.out.below hb2)
      have c2 := (hb2.cell (p := ⟨b, o + q, none⟩) hb).trans c1
      clear hb2 HO HB CS1 c1
      cases K with
      | false =>
        go_wp2_with fail
        go_roundw
        case rel => exact ⟨q + 1, by go_num, by omega, by rw [show kidsP ts L loc (q + 1) = kidsP ts L loc q by rw [HX.out]; exact List.append_nil _]; exact HO2.out, HR2.out, HF.out, HB2.out⟩
        case measure => simp [intOf]; omega
      | true =>
        have hlen := kidsP_len ts L loc q
        obtain ⟨hi, hz0, hz1, hz2⟩ := HI.out
        have hsz := HB2.out.size
        have HOA := hid (HO2.out.alloc (.cells #[.int .i64 (j : Int)] 2))
        have hlen2 : (intC (kidsP ts L loc q)).length ≤ q := by rw [intC_len]; exact hlen
        have H3 := hid (show (kidsP ts L loc q).length + 1 ≤ maxLen by unfold maxLen; omega)
        have H4 := hid (show ((kidsP ts L loc q).length + 1) * 8 ≤ 140737488355328 by omega)
        have H5 := hid (show w.heap.size ≤ (w2.alloc (.cells #[.int .i64 (j : Int)] 2)).heap.size by rw [World.size_alloc]; omega)
        go_wp2_with (at_builtin; refine wpList_append_own_at _ rfl _ _ 72 rfl w.heap.size 2 i0 (.int .i64 0) 1 8 Tryz.underlying72 hi hz0 hz1 hz2 rfl (by decide) _ _ _ rfl HOA.out ⟨w2.heap.size, 0, none⟩ 1 1 [.int .i64 (j : Int)] rfl rfl (one_cell64 _ _) (one_one64 _) H3.out H4.out H5.out ?_)
        intro v' w3 hown' hgrow _ hat
        have HO3 := hid (show w3.ownsRow w.heap.size 2 1 v' (kidsP ts L loc (q + 1)).length (intC (kidsP ts L loc (q + 1))) by rw [HX.out, intC_app, List.length_append]; exact hown')
        have HB3 := hid ((HB2.out.alloc hsz (.cells #[.int .i64 (j : Int)] 2)).grown hgrow (by simp; omega) (fun g hg => (HOA.out.lt g hg).1))
        have HR3 := hid (show IntRow w3 (some ⟨b, o, none⟩) L from fun i h => by
          obtain ⟨b', o', e', hlt', c'⟩ := HR2.out i h
          cases e'
          refine ⟨b, o, rfl, Nat.lt_of_lt_of_le hlt' (Nat.le_trans (by simp) hgrow.size), ?_⟩
          have c7 := ((Below.refl w2.heap.size w2).alloc (Nat.le_refl _) (.cells #[.int .i64 (j : Int)] 2)).cell (p := ⟨b, o + i, none⟩) hlt'
          rw [World.cell?_of_block (hgrow.block b (by simp; omega) (fun e => HF.out b b rfl e.symm rfl)), c7]
          exact c')
        have HF3 := hid (show ∀ x y, (Value.slice (some ⟨b, o, none⟩) m c6).ownBlock = some x → v'.ownBlock = some y → ¬ y = x from fun x y hx hy => by
          rcases hat with h | h
          · exact HF.out x y hx (h.symm.trans hy)
          · rw [h] at hy
            cases hx
            cases hy
            have h9 := (HR2.out q hql)
            obtain ⟨b', o', e', hlt', _⟩ := h9
            cases e'
            simp
            omega)
        clear hown' hgrow hat
        go_wp2_with fail
        go_roundw
        case rel => exact ⟨q + 1, by go_num, by omega, HO3.out, HR3.out, HF3.out, HB3.out⟩
        case measure => simp [intOf]; omega
    · have hqe : q = m := by omega
      subst hqe
      go_wp2_with fail
      go_ret
      exact ⟨_, rfl, HO.out, HB.out⟩

end Go.Proofs.YtknpgdglabibiaaGreatDoor
