/- What an element has, as shapes: contract of (shaper).inside, given (shaper).node's. A node as a shape: contract of (shaper).node. A branch grafted under one that declares what it meant (mathematics alone). -/
import Derived.Test.YtmghipjpgoghlaaGreatM25
import Derived.Test.YtmghipjpgoghlaaGreatM29
import Derived.Test.YtmghipjpgoghlaaGreatM22
import Derived.Test.YtmghipjpgoghlaaGreatM27
import Derived.Test.YtmghipjpgoghlaaGreatM28
import Derived.Test.YtmghipjpgoghlaaGreatM12
import Derived.Maps.AppendAt
import Derived.Deep.RegionHeld3
namespace Go.Proofs.YtmghipjpgoghlaaGreat
open Go.RowKit
set_option linter.unusedVariables false
set_option linter.unusedSimpArgs false

/-- What node answers, with so much room. -/
def NodeC (ts : List Tk) (a : Option Addr) (cap : Nat) (but : Int) (f : Nat) : Prop :=
  ∀ (k : Nat) (sd l2 pl : List At) (F F2 : FuncId) (C C2 : Array Value) (w : World), TkRow w a ts → k < ts.length → ts.length ≤ f + k → ¬ (k : Int) = but → outAts ts k = (nodeAt ts k).attrs ++ pl → SaidR l2 sd → Asks F C w pl → Asks F2 C2 w l2 →
    Calls Tryz.prog 39 #[.agg #[.slice a ts.length cap, .int .i64 but], .int .i64 (k : Int), .func (.func F) #[] C, .func (.func F2) #[] C2] w fun e w' =>
      ∃ v, e = .returned v ∧ ShAt (fun g => w.heap.size ≤ g) w' f v (canonN ts but f k sd) ∧ Below w.heap.size w w'

/-- A row of shapes of one's own; none of them lies in the row's own block. -/
def ShRow (w : World) (B f : Nat) (a : Option Addr) (c : Nat) (ss : List ByteArray) : Prop := ∃ us : List Value, us.length = ss.length ∧ w.ownsRow B 66 1 (.slice a ss.length c) ss.length us ∧
  ∀ i (h : i < ss.length) u, us[i]? = some u → ShAt (fun g => B ≤ g ∧ ¬ (Value.slice a ss.length c).ownBlock = some g) w f u ss[i]

theorem ShRow.nil (w : World) (B f : Nat) : ShRow w B f none 0 [] := ⟨[], rfl, World.ownsRow_nil _ _ _ _, fun i h => absurd h (Nat.not_lt_zero _)⟩

theorem ShRow.below {w w' : World} {B f : Nat} {a : Option Addr} {c : Nat} {ss : List ByteArray} (h : ShRow w B f a c ss) (hb : Below w.heap.size w w') : ShRow w' B f a c ss := by
  obtain ⟨us, h1, h2, h3⟩ := h
  exact ⟨us, h1, ownsRow_below h2 hb, fun i hi u hu => (h3 i hi u hu).below hb⟩

theorem ShAt.cell {X : Nat → Prop} {w : World} {f : Nat} {v : Value} {s : ByteArray} (h : ShAt X w f v s) : v.oneCell' = true := by
  cases f with
  | zero => exact h.elim
  | succ f =>
    obtain ⟨_, ⟨t, rfl, _⟩ | ⟨_, _, _, _, _, _, _, _, _, _, rfl, _⟩⟩ := h <;> rfl

theorem ShAt.face {X : Nat → Prop} {w : World} {f : Nat} {v : Value} {s : ByteArray} (h : ShAt X w f v s) : ∃ T x, v = .iface T x := by
  cases f with
  | zero => exact h.elim
  | succ f =>
    obtain ⟨_, ⟨t, rfl, _⟩ | ⟨_, _, _, _, _, _, _, _, _, _, rfl, _⟩⟩ := h
    · exact ⟨_, _, rfl⟩
    · exact ⟨_, _, rfl⟩

theorem ShRow.kids {w : World} {B f : Nat} {a : Option Addr} {c : Nat} {ss : List ByteArray} (h : ShRow w B f a c ss) : KidsAt (fun g => B ≤ g) w f a ss := by
  obtain ⟨us, h1, h2, h3⟩ := h
  intro i hi
  rcases h2.2 with ⟨_, h0⟩ | ⟨g, cap, cur, e, q1, q2, q3, q4, q5, q6⟩
  · omega
  · injection e with e1 e2 e3
    subst e1
    have hu : us[i]? = some us[i] := List.getElem?_eq_getElem (by omega)
    have hc := World.ownsRow.cellAt h2 i (by omega)
    refine ⟨g, 0, us[i], rfl, q1, lt_of_heap q2, by rw [Nat.zero_add, hc]; exact hu, (h3 i hi _ hu).keep (fun _ _ h => h.1) (Nat.le_refl _) (fun _ _ _ => rfl)⟩

theorem ShRow.more {W w' : World} {B f : Nat} {a : Option Addr} {c : Nat} {ss : List ByteArray} {us : List Value} {u v' : Value} {s : ByteArray} (h1 : us.length = ss.length) (h3 : ∀ i (h : i < ss.length) u, us[i]? = some u → ShAt (fun g => B ≤ g ∧ ¬ (Value.slice a ss.length c).ownBlock = some g) W f u ss[i])
    (hu : ShAt (fun g => B ≤ g ∧ ¬ (Value.slice a ss.length c).ownBlock = some g) W f u s) (hown : w'.ownsRow B 66 1 v' (ss.length + 1) (us ++ [u])) (hg : W.grownBy w' (Value.slice a ss.length c).ownBlock) (hat : v'.ownBlock = (Value.slice a ss.length c).ownBlock ∨ v'.ownBlock = some W.heap.size) :
    ∃ a' c', v' = .slice a' (ss ++ [s]).length c' ∧ ShRow w' B f a' c' (ss ++ [s]) := by
  have e2 : (ss ++ [s]).length = ss.length + 1 := by simp
  have keepA : ∀ {x : Value} {y : ByteArray}, ShAt (fun g => B ≤ g ∧ ¬ (Value.slice a ss.length c).ownBlock = some g) W f x y → ShAt (fun g => B ≤ g ∧ ¬ v'.ownBlock = some g) w' f x y := fun h =>
    h.keep (fun g hg2 hX => ⟨hX.1, fun e => by
      rcases hat with q | q
      · exact hX.2 (q ▸ e)
      · rw [q] at e; injection e with e; omega⟩) hg.size (fun g hg2 hX => hg.block g hg2 (fun e => hX.2 e.symm))
  rcases hown.2 with ⟨_, h0⟩ | ⟨g, c', cu, hv, hr⟩
  · omega
  · refine ⟨some ⟨g, 0, none⟩, c', by rw [e2]; exact hv, us ++ [u], by simp [h1], by rw [e2, ← hv]; exact hown, fun i hi x hx => ?_⟩
    rw [e2, ← hv]
    by_cases hl : i < ss.length
    · rw [List.getElem?_append_left (by omega)] at hx
      rw [List.getElem_append_left hl]
      exact keepA (h3 i hl x hx)
    · have hi' : i = ss.length := by rw [e2] at hi; omega
      subst hi'
      rw [List.getElem?_append_right (by omega), h1, Nat.sub_self] at hx
      cases hx
      simp only [List.getElem_append_right (Nat.le_refl _), Nat.sub_self, List.getElem_cons_zero]
      exact keepA hu

noncomputable def kidSS (ts : List Tk) (but : Int) (f : Nat) (sd : List At) (l : List Nat) : List ByteArray := (l.filter (notB but)).map fun j => canonN ts but f j sd

theorem kidSS_next (ts : List Tk) (but : Int) (f : Nat) (sd : List At) {l : List Nat} {i : Nat} (h : i < l.length) : kidSS ts but f sd (l.take (i + 1)) = kidSS ts but f sd (l.take i) ++ (if ((l[i] : Nat) : Int) = but then [] else [canonN ts but f l[i] sd]) := by
  unfold kidSS
  rw [take_snocN h, List.filter_append, List.map_append]
  congr 1
  by_cases hq : ((l[i] : Nat) : Int) = but
  · rw [if_pos hq, List.filter_cons, if_neg (by unfold notB; rw [decide_eq_true hq]; decide)]
    rfl
  · rw [if_neg hq, List.filter_cons, if_pos (by unfold notB; rw [decide_eq_false hq]; rfl)]
    rfl

theorem infoSh : (Tryz.prog.info? 66).map (fun i => (i.zero, i.size, i.bytes)) = some (some .nilIface, 1, 16) := by kernel_rfl

theorem kid_out {ts : List Tk} (hT : TreeP ts) {k j : Nat} (hj : j ∈ kidsN ts k) : j < ts.length ∧ k < j ∧ outAts ts j = (nodeAt ts j).attrs ++ outAts ts k := by
  have h1 := kidsN_lt hj
  have h2 := (List.mem_filter.1 hj).2
  simp only [Bool.and_eq_true, decide_eq_true_eq] at h2
  have ht : ts[j]? = some ts[j] := List.getElem?_eq_getElem h1
  obtain ⟨p, hp, hpk, _, e⟩ := outAts_up hT ht (by omega)
  have e1 : parI ts j = ts[j].kind := by unfold parI; rw [ht]
  have : p = k := by rw [← e1, h2.2] at hp; omega
  subst this
  exact ⟨h1, h2.1, by rw [nodeAt_at h1]; exact e⟩

def IntR (w : World) (a : Option Addr) (l : List Nat) : Prop := ∀ j (h : j < l.length), ∃ b o, a = some ⟨b, o, none⟩ ∧ b < w.heap.size ∧ w.cell? ⟨b, o + j, none⟩ = some (.int .i64 (l[j] : Int))

theorem has_of {ts : List Tk} {k : Nat} (hT : TreeP ts) (hk : k < ts.length) : hasB ts (k : Int) = true := by
  rw [hasB_eq rfl, treeB_t hT, decide_eq_true (by omega), decide_eq_true (by omega)]
  rfl

theorem IntR.below {w w' : World} {a : Option Addr} {l : List Nat} (h : IntR w a l) (hb : Below w.heap.size w w') : IntR w' a l := by
  intro j hj
  obtain ⟨b, o, ha, hlt, c⟩ := h j hj
  exact ⟨b, o, ha, Nat.lt_of_lt_of_le hlt hb.size, (hb.cell (p := ⟨b, o + j, none⟩) hlt).trans c⟩

theorem IntR.of {w : World} {B : Nat} {v : Value} {l : List Nat} (h : w.ownsRow B 2 1 v l.length (intC l)) : ∃ a cap, v = .slice a l.length cap ∧ IntR w a l := by
  rcases h.2 with ⟨rfl, h0⟩ | ⟨g, cap, cur, rfl, hg, hh, hn, hc, hs, ht⟩
  · have : l = [] := List.eq_nil_of_length_eq_zero h0
    subst this
    exact ⟨none, 0, rfl, fun j hj => absurd hj (Nat.not_lt_zero _)⟩
  · refine ⟨_, _, rfl, fun j hj => ⟨g, 0, rfl, lt_of_heap hh, ?_⟩⟩
    have hc := World.ownsRow.cellAt (show w.ownsRow B 2 1 (.slice (some ⟨g, 0, none⟩) l.length cap) l.length (intC l) from ⟨h.1, .inr ⟨g, cap, cur, rfl, hg, hh, hn, hc, hs, ht⟩⟩) j (by omega)
    rw [Nat.zero_add, hc]
    unfold intC
    rw [List.getElem?_map, List.getElem?_eq_getElem hj]
    rfl

set_option maxRecDepth 8000 in
set_option maxHeartbeats 4000000 in
theorem cInside (ts : List Tk) (a : Option Addr) (cap : Nat) (but : Int) (f : Nat) (CN : NodeC ts a cap but f) (hT : TreeP ts) (hz : TksSz 1048576 ts) (k : Nat) (sd l2 : List At) (F F2 : FuncId) (C C2 : Array Value) (w : World) (hR : TkRow w a ts) (hk : k < ts.length) (hf : ts.length ≤ f + k + 1) (hS : SaidR l2 sd) (hA : Asks F C w (outAts ts k)) (hA2 : Asks F2 C2 w l2) :
    Calls Tryz.prog 76 #[.agg #[.slice a ts.length cap, .int .i64 but], .int .i64 (k : Int), .func (.func F) #[] C, .func (.func F2) #[] C2] w fun e w' =>
      ∃ a3 c3, e = .returned (.slice a3 (kidSS ts but f sd (kidsN ts k)).length c3) ∧ KidsAt (fun g => w.heap.size ≤ g) w' f a3 (kidSS ts but f sd (kidsN ts k)) ∧ Below w.heap.size w w' := by
  have h50 : ts.length ≤ 50 := hT.2.1
  obtain ⟨i0, hi, hz0, hz1, hz2⟩ := info_parts infoSh
  have HI := hid (And.intro hi (And.intro hz0 (And.intro hz1 hz2)))
  clear hi hz0 hz1 hz2
  have HB0 := hid ((Below.refl w.heap.size w).alloc (Nat.le_refl _) (.cells #[.slice a ts.length cap, .int .i64 but] 68))
  have M0 := hid (heap_alloc_new w (.cells #[.slice a ts.length cap, .int .i64 but] 68))
  have CK := hid (fun wx (hb : Below w.heap.size w wx) => cKidsOfI a cap ts (k : Int) wx (hR.below hb) (by omega) hz)
  have hki : kidsI ts (k : Int) = kidsN ts k := by
    unfold kidsI
    rw [if_pos (has_of hT hk)]
    rfl
  rw [hki] at CK
  have HKM := hid (show ∀ j ∈ kidsN ts k, j < ts.length ∧ k < j ∧ outAts ts j = (nodeAt ts j).attrs ++ outAts ts k from fun j hj => kid_out hT hj)
  have HKL := hid (show (kidsN ts k).length ≤ 50 from Nat.le_trans (kidsTo_len ts k ts.length) h50)
  have CC := hid (fun (j : Nat) (hj : j ∈ kidsN ts k) (hne : ¬ (j : Int) = but) (wx : World) (hb : Below w.heap.size w wx) => CN j sd l2 (outAts ts k) F F2 C C2 wx (hR.below hb) (HKM.out j hj).1 (by have := (HKM.out j hj).2.1; omega) hne (HKM.out j hj).2.2 hS (hA.below hb) (hA2.below hb))
  have HNX := hid (fun (i : Nat) (h : i < (kidsN ts k).length) => kidSS_next ts but f sd h)
  have HSZ := hid (show kidSS ts but f sd ((kidsN ts k).take 0) = [] from rfl)
  have HLE := hid (show ∀ i, (kidSS ts but f sd ((kidsN ts k).take i)).length ≤ i from fun i => by
    unfold kidSS
    rw [List.length_map]
    have h1 := List.length_filter_le (notB but) ((kidsN ts k).take i)
    rw [List.length_take] at h1
    omega)
  have HFIN := hid (show kidSS ts but f sd ((kidsN ts k).take (kidsN ts k).length) = kidSS ts but f sd (kidsN ts k) by rw [List.take_length])
  obtain ⟨S, hS'⟩ : ∃ S, kidSS ts but f sd (kidsN ts k) = S := ⟨_, rfl⟩
  rw [hS'] at HFIN ⊢
  obtain ⟨KS, hKS⟩ : ∃ KS, kidsN ts k = KS := ⟨_, rfl⟩
  rw [hKS] at CK HKL CC HNX HSZ HLE HFIN
  clear hki HKM hKS hS' CN hz hR hS hA hA2 hT hk hf h50
  generalize ts.length = tn at *
  go_enter Tryz.func76, Tryz.ntmps76
  go_wp2_with fail
  refine (CK.out _ HB0.out).mono ?_
  rintro e w2 ⟨vk, rfl, hok, hb2⟩
  obtain ⟨ak, ck, rfl, hik⟩ := IntR.of hok
  have HIK := hid hik
  have HB2 := hid (bb HB0.out hb2)
  have M2 := hid (blk_below M0.out hb2)
  clear hok hik hb2 CK HB0 M0
  obtain ⟨n, hnn⟩ : ∃ n, KS.length = n := ⟨_, rfl⟩
  have HN := hid hnn
  have hn : n ≤ 50 := by rw [← hnn]; exact HKL.out
  rw [hnn] at HFIN ⊢
  clear hnn HKL
  go_wp2_with fail
  go_loopw [9, 17] (fun v9 v17 wr => ∃ (j : Nat) (a8 : Option Addr) (c8 : Nat) (ss : List ByteArray), v17 = .int .i64 (j : Int) ∧ j ≤ n ∧ v9 = .slice a8 ss.length c8 ∧ ss.length ≤ j ∧ Hid (ss = kidSS ts but f sd (KS.take j)) ∧ Hid (ShRow wr w2.heap.size f a8 c8 ss) ∧ Hid (Below w2.heap.size w2 wr)) (fun _ v17 _ => n - (intOf v17).toNat)
  case atStart => exact ⟨0, none, 0, [], rfl, Nat.zero_le _, rfl, Nat.zero_le _, HSZ.out.symm, ShRow.nil _ _ _, Below.refl _ _⟩
  case round =>
    obtain ⟨j, a8, c8, ss, rfl, hj, rfl, hss, HK, HSR, HB⟩ := hrel
    obtain ⟨⟨d0, d1⟩, _⟩ := box2e (blk_below M2.out HB.out)
    by_cases hjl : j < n
    · have hjt : j < KS.length := by rw [HN.out]; exact hjl
      have hjn : (j : Int) < (n : Int) := by omega
      obtain ⟨b, o, rfl, hb, c1⟩ := (HIK.out.below HB.out) j hjt
      have HTS := hid (HNX.out j hjt)
      rw [← HK.out] at HTS
      have HCJ := hid (CC.out KS[j] (List.getElem_mem hjt))
      obtain ⟨q, hq⟩ : ∃ q, KS[j] = q := ⟨_, rfl⟩
      rw [hq] at c1 HTS HCJ
      clear hq
      have HBW := hid (show Below w.heap.size w wr from HB2.out.trans (HB.out.mono HB2.out.size))
      by_cases hqb : (q : Int) = but
      · have hd : ((q : Int) != but) = false := by simp [hqb]
        have HE := hid (show ss = kidSS ts but f sd (KS.take (j + 1)) by rw [HTS.out, if_pos hqb, List.append_nil])
        clear hqb HCJ
        obtain ⟨nk, hnk⟩ : ∃ nk, ss.length = nk := ⟨_, rfl⟩
        have HNK := hid hnk
        rw [hnk] at hss ⊢
        clear hnk
        go_wp2_with fail
        go_roundw
        case rel => exact ⟨j + 1, a8, c8, ss, by go_num, by omega, by rw [HNK.out], by rw [HNK.out]; omega, HE.out, HSR.out, HB.out⟩
        case measure => simp [intOf]; omega
      · have hd : ((q : Int) != but) = true := by simp [hqb]
        have HE := hid (show ss ++ [canonN ts but f q sd] = kidSS ts but f sd (KS.take (j + 1)) by rw [HTS.out, if_neg hqb])
        have HU := hid (HCJ.out hqb wr HBW.out)
        generalize canonN ts but f q sd = y at *
        clear hqb HCJ
        obtain ⟨us, u1, u2, u3⟩ := HSR.out
        have HUS := hid u1
        have HO := hid u2
        have HU3 := hid u3
        clear u1 u2 u3 HSR
        obtain ⟨nk, hnk⟩ : ∃ nk, ss.length = nk := ⟨_, rfl⟩
        have HNK := hid hnk
        rw [hnk] at hss HO ⊢
        clear hnk
        have HLT := hid (show ∀ x, (Value.slice a8 nk c8).ownBlock = some x → x < wr.heap.size from fun x hx => (HO.out.lt x hx).2)
        go_wp2_with fail
        refine HU.out.mono ?_
        rintro e w3 ⟨vs, rfl, hvs, hb3⟩
        obtain ⟨VT, vx, rfl⟩ := hvs.face
        have HB3 := hid (bb HB.out hb3)
        have HO3 := hid (ownsRow_below HO.out hb3)
        have HB4 := hid ((Below.refl w3.heap.size w3).alloc (Nat.le_refl _) (.cells #[.iface VT vx] 66))
        have HVC := hid (show ∀ u ∈ [Value.iface VT vx], u.oneCell' = true from fun u hu => by rw [List.mem_singleton.1 hu]; exact hvs.cell)
        have HV4 := hid (show ShAt (fun g => w2.heap.size ≤ g ∧ ¬ (Value.slice a8 nk c8).ownBlock = some g) (w3.alloc (.cells #[.iface VT vx] 66)) f (.iface VT vx) y from
          hvs.keep (fun g _ hX => ⟨Nat.le_trans HB.out.size hX, fun e => by have := HLT.out g e; omega⟩) HB4.out.size (fun g hg _ => HB4.out.block g hg))
        have HU4 := hid (show ∀ i (h : i < ss.length) u, us[i]? = some u → ShAt (fun g => w2.heap.size ≤ g ∧ ¬ (Value.slice a8 ss.length c8).ownBlock = some g) (w3.alloc (.cells #[.iface VT vx] 66)) f u ss[i] from fun i h u hu => ((HU3.out i h u hu).below hb3).below HB4.out)
        have hsz := HB3.out.size
        clear hb3 hvs HU HO HU3 HLT d0 d1 c1
        go_wp2_with (at_builtin; refine wpList_append_own_at _ rfl _ _ 100 rfl w2.heap.size 66 i0 .nilIface 1 16 Tryz.underlying100 HI.out.1 HI.out.2.1 HI.out.2.2.1 HI.out.2.2.2 rfl (by decide) _ _ _ rfl (HO3.out.alloc _) ⟨w3.heap.size, 0, none⟩ 1 1 [.iface VT vx] rfl rfl (one_cell _ _ _) HVC.out (by unfold maxLen; omega) (by omega) (by simp; omega) ?_)
        intro v' w7 hown' hgrow _ hat
        have HB7 := hid ((HB3.out.alloc hsz _).grown hgrow (by simp; omega) (fun k hk => (HO3.out.lt k hk).1))
        rw [← HNK.out] at hown' hgrow hat HV4
        obtain ⟨a9, c9, rfl, ho9⟩ := ShRow.more HUS.out HU4.out HV4.out hown' hgrow (by rw [show (w3.alloc (.cells #[Value.iface VT vx] 66)).heap.size = w3.heap.size + 1 by simp]; exact hat)
        have HO9 := hid ho9
        clear hown' hgrow ho9 hat
        have HL9 := hid (show (ss ++ [y]).length ≤ j + 1 by rw [List.length_append, HNK.out]; show _ + 1 ≤ _; omega)
        generalize ss ++ [y] = ss9 at *
        go_wp2_with fail
        go_roundw
        case rel => exact ⟨j + 1, a9, c9, ss9, by go_num, by omega, rfl, HL9.out, HE.out, HO9.out, HB7.out⟩
        case measure => simp [intOf]; omega
    · have hjn : j = n := by omega
      subst hjn
      have HE := hid (show ss = S by rw [← HFIN.out]; exact HK.out)
      have HBW := hid (show Below w.heap.size w wr from HB2.out.trans (HB.out.mono HB2.out.size))
      have HKD := hid (show KidsAt (fun g => w.heap.size ≤ g) wr f a8 S from by
        rw [← HE.out]
        intro i hi
        obtain ⟨g, o, u, q1, q2, q3, q4, q5⟩ := HSR.out.kids i hi
        exact ⟨g, o, u, q1, Nat.le_trans HB2.out.size q2, q3, q4, q5.keep (fun _ _ h => Nat.le_trans HB2.out.size h) (Nat.le_refl _) (fun _ _ _ => rfl)⟩)
      have HLN := hid (show ss.length = S.length by rw [HE.out])
      generalize ss.length = nk at *
      clear d0 d1
      go_wp2_with fail
      go_ret
      exact ⟨a8, c8, by rw [← HLN.out]; rfl, HKD.out, HBW.out⟩

end Go.Proofs.YtmghipjpgoghlaaGreat

namespace Go.Proofs.YtmghipjpgoghlaaGreat
open Go.RowKit
set_option linter.unusedVariables false
set_option linter.unusedSimpArgs false

theorem right_of {ts : List Tk} (hN : NamesP ts) {k : Nat} (hk : k < ts.length) (hne : ¬ (nodeAt ts k).name.size = 0) : (outAts ts k).all rightB = true := by
  rw [nodeAt_at hk] at hne
  have h := hN.2 k ts[k] (List.getElem?_eq_getElem hk)
  rcases h with h | ⟨h, _⟩
  · exact absurd h hne
  · cases q : (outAts ts k).all rightB with
    | true => rfl
    | false => rw [meanF_not q] at h; cases h

theorem canon_small {ts : List Tk} (hT : TreeP ts) (hz : TksSz 1048576 ts) (but : Int) (f k : Nat) (sd : List At) (hk : k < ts.length) : (canonN ts but f k sd).size ≤ 4000000000 := by
  have h1 := canon_size hT hz but f k sd hk
  have h2 := (endN_le hk).2
  have h50 : ts.length ≤ 50 := hT.2.1
  have h3 : 70000000 * (endN ts k - k) ≤ 70000000 * 50 := Nat.mul_le_mul_left _ (by omega)
  omega

theorem NewAts.rowX {w : World} {B B' : Nat} {a : Option Addr} {c : Nat} {l : List At} (h : NewAts w B a c l) (hB : B' ≤ B) : RowX (fun g => B' ≤ g) w a l := by
  refine ⟨h.row, fun g o h0 e => ?_⟩
  rcases h with ⟨rfl, rfl, rfl⟩ | ⟨g', rfl, h1, h2⟩
  · cases e
  · injection e with e
    injection e with e
    subst e
    exact Nat.le_trans hB h1

theorem KidsAt.widen {w : World} {B B' f : Nat} {a3 : Option Addr} {ss : List ByteArray} (h : KidsAt (fun g => B ≤ g) w f a3 ss) (hB : B' ≤ B) : KidsAt (fun g => B' ≤ g) w f a3 ss := fun i hi => by
  obtain ⟨g, o, u, q1, q2, q3, q4, q5⟩ := h i hi
  exact ⟨g, o, u, q1, Nat.le_trans hB q2, q3, q4, q5.keep (fun _ _ h => Nat.le_trans hB h) (Nat.le_refl _) (fun _ _ _ => rfl)⟩

theorem NewAts.mono {w : World} {B B' : Nat} {a : Option Addr} {c : Nat} {l : List At} (h : NewAts w B a c l) (hB : B' ≤ B) : NewAts w B' a c l := by
  rcases h with h | ⟨g', e, h1, h2⟩
  · exact .inl h
  · exact .inr ⟨g', e, Nat.le_trans hB h1, h2⟩

set_option maxRecDepth 8000 in
set_option maxHeartbeats 4000000 in
theorem cNode1 (ts : List Tk) (a : Option Addr) (cap : Nat) (but : Int) (f : Nat) (CN : NodeC ts a cap but f) (hN : NamesP ts) (hz : TksSz 1048576 ts) : NodeC ts a cap but (f + 1) := by
  intro k sd l2 pl F F2 C C2 w hR hk hf hb hpl hS hA hA2
  have hT := hN.1
  obtain ⟨gb, go, aa, ca, rfl, hgb, q0, q1, q2, q3, hra⟩ := hR k hk
  have hz' := nodeAt_sz hz k
  have h50 : ts.length ≤ 50 := hT.2.1
  have hra' : AtRow w aa (nodeAt ts k).attrs := by rw [nodeAt_at hk]; exact hra
  rw [← nodeAt_at hk] at q0 q1 q2 q3
  have hkn : (k : Int) < (ts.length : Int) := by omega
  have HB0 := hid (((Below.refl w.heap.size w).alloc (Nat.le_refl _) (.cells #[.slice (some ⟨gb, go, none⟩) ts.length cap, .int .i64 but] 68)))
  have CT := hid (fun wx => cIsText (nodeAt ts k).kind (nodeAt ts k).name aa (nodeAt ts k).attrs.length ca (nodeAt ts k).text wx hz'.1)
  have M0 := hid (heap_alloc_new w (.cells #[.slice (some ⟨gb, go, none⟩) ts.length cap, .int .i64 but] 68))
  have hs0 : (w.alloc (.cells #[.slice (some ⟨gb, go, none⟩) ts.length cap, .int .i64 but] 68)).heap.size = w.heap.size + 1 := by simp
  obtain ⟨w0, hw0⟩ : ∃ w0, w.alloc (.cells #[.slice (some ⟨gb, go, none⟩) ts.length cap, .int .i64 but] 68) = w0 := ⟨_, rfl⟩
  rw [hw0] at HB0 M0 hs0
  have p0 := (HB0.out.cell (p := ⟨gb, go + k * 4, none⟩) hgb).trans q0
  have p1 := (HB0.out.cell (p := ⟨gb, go + k * 4 + 1, none⟩) hgb).trans q1
  have p2 := (HB0.out.cell (p := ⟨gb, go + k * 4 + 2, none⟩) hgb).trans q2
  have p3 := (HB0.out.cell (p := ⟨gb, go + k * 4 + 3, none⟩) hgb).trans q3
  obtain ⟨⟨x0, x1⟩, _⟩ := box2e M0.out
  have HB1 := hid (HB0.out.alloc HB0.out.size (.cells #[.int .i64 (nodeAt ts k).kind, .string (nodeAt ts k).name, .slice aa (nodeAt ts k).attrs.length ca, .string (nodeAt ts k).text] 33))
  have M1 := hid (heap_alloc_new w0 (.cells #[.int .i64 (nodeAt ts k).kind, .string (nodeAt ts k).name, .slice aa (nodeAt ts k).attrs.length ca, .string (nodeAt ts k).text] 33))
  have MS := hid (blk_alloc M0.out (.cells #[.int .i64 (nodeAt ts k).kind, .string (nodeAt ts k).name, .slice aa (nodeAt ts k).attrs.length ca, .string (nodeAt ts k).text] 33))
  have HCS := hid (canon_small hT hz but (f + 1) k sd hk)
  have HW0 := hid hw0
  have HS0 := hid hs0
  by_cases hne : (nodeAt ts k).name.size = 0
  · have HTX := hid (canonN_text (f := f) (sd := sd) rfl hb hne)
    rw [decide_eq_true hne] at CT
    have HTZ := hid hz'.2.2.2
    clear hra hra' hz' hne CN hN hz hR hk hf hb hpl hS hA hA2 hT h50 q0 q1 q2 q3 hgb MS hs0 hw0
    generalize ts.length = n at *
    generalize (nodeAt ts k).kind = tk at *
    generalize (nodeAt ts k).name = tn at *
    generalize (nodeAt ts k).attrs.length = ta at *
    generalize (nodeAt ts k).text = tx at *
    have hw0 := HW0.out
    go_enter Tryz.func39, Tryz.ntmps39
    go_wp2_with fail
    refine (CT.out _).mono ?_
    rintro e w1 ⟨rfl, hb1⟩
    have HB2 := hid (bb HB1.out hb1)
    obtain ⟨⟨y0, y1, y2, y3⟩, _⟩ := box4 (blk_below M1.out hb1)
    clear hb1 CT hw0
    go_wp2_with fail
    go_ret
    exact ⟨_, rfl, ⟨HCS.out, .inl ⟨tx, rfl, HTZ.out, HTX.out⟩⟩, HB2.out⟩
  · have hr := right_of hN hk hne
    have h6 := six_at hT k hne
    obtain ⟨O, hO⟩ : ∃ O, sortG (ltA (outAts ts k)) ((nodeAt ts k).attrs.filter nodeclB) = O := ⟨_, rfl⟩
    obtain ⟨D, hD⟩ : ∃ D, dclP (outAts ts k) l2 (needL (nodeAt ts k).name O) = D := ⟨_, rfl⟩
    obtain ⟨ss, hss⟩ : ∃ ss, kidSS ts but f (saidL ts k sd (nodeAt ts k)) (kidsN ts k) = ss := ⟨_, rfl⟩
    have EI := el_is (f := f) hT hz rfl hb hne hr hS hO hD hss
    have ho : OrdB (ltA (outAts ts k)) := by rw [lt_ahead hr]; exact ahead_ord ts k
    have CNE := hid (fun wx (hbx : Below w.heap.size w wx) => cNearer aa ca (nodeAt ts k).attrs F C pl wx (hA.below hbx) (hra'.below hbx) hz'.2.2.1 hz'.2.1)
    rw [← hpl] at CNE
    have COT := hid (fun (C' : Array Value) wx (hbx : Below w.heap.size w wx) (hA' : Asks 112 C' wx (outAts ts k)) => cOtherAttrs aa ca (nodeAt ts k).attrs 112 C' (outAts ts k) wx ho hA' (hra'.below hbx) hz'.2.2.1 h6)
    rw [hO] at COT
    have CPR := hid (fun (ao : Option Addr) (co : Nat) wx (hr : AtRow wx ao O) => cNeeded (nodeAt ts k).name ao co O wx hr EI.osz EI.olen hz'.1)
    have CND := hid (fun (v : Value) (C' : Array Value) wx (hbx : Below w.heap.size w wx) (hrd : Rd wx 1 v (needL (nodeAt ts k).name O).length (keyV (needL (nodeAt ts k).name O))) (hA' : Asks 112 C' wx (outAts ts k)) => cNewDecl v (needL (nodeAt ts k).name O) 112 F2 C' C2 (outAts ts k) l2 wx hrd hA' (hA2.below hbx) EI.psz EI.plen)
    rw [hD] at CND
    have CN2 := hid (fun (ad : Option Addr) (cd : Nat) wx (hbx : Below w.heap.size w wx) (hrow : AtRow wx ad D) => cNearer ad cd D F2 C2 l2 wx (hA2.below hbx) hrow EI.dsz (by have := EI.dlen; omega))
    have CIN := hid (fun (C' C'' : Array Value) wx (hbx : Below w.heap.size w wx) (hA' : Asks 112 C' wx (outAts ts k)) (hA'' : Asks 112 C'' wx (D ++ l2)) => cInside ts (some ⟨gb, go, none⟩) cap but f CN hT hz k (saidL ts k sd (nodeAt ts k)) (D ++ l2) 112 112 C' C'' wx (hR.below hbx) hk (by omega) EI.said hA' hA'')
    rw [hss] at CIN
    have HSH := hid (show ∀ (ad : Option Addr) (cd : Nat) (ao : Option Addr) (co : Nat) (a3 : Option Addr) (c3 : Nat) (wx : World), NewAts wx w.heap.size ad cd D → NewAts wx w.heap.size ao co O → KidsAt (fun g => w.heap.size ≤ g) wx f a3 ss → ShAt (fun g => w.heap.size ≤ g) wx (f + 1) (.iface 102 (.agg #[.string (nodeAt ts k).name, .slice ad D.length cd, .slice ao O.length co, .slice a3 ss.length c3])) (canonN ts but (f + 1) k sd) from
      fun ad cd ao co a3 c3 wx h1 h2 h3 => ⟨HCS.out, .inr ⟨(nodeAt ts k).name, ad, cd, D, ao, co, O, a3, c3, ss, rfl, hz'.1, h1.rowX (Nat.le_refl _), EI.dsz, EI.dlen, h2.rowX (Nat.le_refl _), EI.osz, by have := EI.olen; omega, by
        rw [← hss]
        unfold kidSS
        rw [List.length_map]
        have g1 := List.length_filter_le (notB but) (kidsN ts k)
        have g2 := kidsTo_len ts k ts.length
        have g3 : (kidsN ts k).length ≤ ts.length := g2
        omega, h3, EI.text⟩⟩)
    rw [decide_eq_false hne] at CT
    clear EI hO hD hss ho h6 hr hra hra' hz' hne CN hN hz hR hk hf hb hpl hS hA hA2 hT h50 q0 q1 q2 q3 hgb hs0 hw0 HCS
    generalize canonN ts but (f + 1) k sd = RES at *
    generalize needL (nodeAt ts k).name O = ND at *
    generalize ts.length = n at *
    generalize (nodeAt ts k).kind = tk at *
    generalize (nodeAt ts k).name = tn at *
    generalize (nodeAt ts k).attrs.length = ta at *
    generalize (nodeAt ts k).text = tx at *
    generalize D.length = nD at *
    generalize O.length = nO at *
    generalize ss.length = nS at *
    have hw0 := HW0.out
    go_enter Tryz.func39, Tryz.ntmps39
    go_wp2_with fail
    refine (CT.out _).mono ?_
    rintro e w1 ⟨rfl, hb1⟩
    have HB2 := hid (bb HB1.out hb1)
    have M2 := hid (blk_below M1.out hb1)
    have MS2 := hid (blk_below MS.out hb1)
    obtain ⟨⟨y0, y1, y2, y3⟩, _⟩ := box4 M2.out
    clear hb1 CT hw0 p0 p1 p2 p3 x0 x1 HB0 HB1 M0 M1 MS
    go_wp2_with fail
    refine (CNE.out _ HB2.out).mono ?_
    rintro e w2 ⟨C', rfl, hA3, hb3⟩
    have HB3 := hid (bb HB2.out hb3)
    have M3 := hid (blk_below M2.out hb3)
    have MS3 := hid (blk_below MS2.out hb3)
    have HA3 := hid hA3
    clear hA3 hb3 y0 y1 y2 y3 M2 MS2 HB2 CNE
    obtain ⟨⟨y0, y1, y2, y3⟩, _⟩ := box4 M3.out
    go_wp2_with fail
    refine (COT.out _ _ HB3.out HA3.out).mono ?_
    rintro e w3 ⟨ao, co, rfl, hno, hb4⟩
    have HB4 := hid (bb HB3.out hb4)
    have M4 := hid (blk_below M3.out hb4)
    have MS4 := hid (blk_below MS3.out hb4)
    have HA4 := hid (HA3.out.below hb4)
    have HNO := hid (hno.mono HB3.out.size)
    clear hno hb4 y0 y1 y2 y3 M3 MS3 HB3 HA3 COT
    obtain ⟨⟨y0, y1, y2, y3⟩, _⟩ := box4 M4.out
    go_wp2_with fail
    refine (CPR.out ao co _ HNO.out.row).mono ?_
    rintro e w4 ⟨vp, rfl, hrd, hb5⟩
    have HB5 := hid (bb HB4.out hb5)
    have M5 := hid (blk_below M4.out hb5)
    have MS5 := hid (blk_below MS4.out hb5)
    have HA5 := hid (HA4.out.below hb5)
    have HNO5 := hid (HNO.out.below hb5)
    have HRD := hid hrd
    clear hrd hb5 y0 y1 y2 y3 M4 MS4 HB4 HA4 HNO CPR
    go_wp2_with fail
    refine (CND.out vp _ _ HB5.out HRD.out HA5.out).mono ?_
    rintro e w5 ⟨ad, cd, rfl, hnd, hb6⟩
    have HB6 := hid (bb HB5.out hb6)
    have M6 := hid (blk_below M5.out hb6)
    have MS6 := hid (blk_below MS5.out hb6)
    have HA6 := hid (HA5.out.below hb6)
    have HNO6 := hid (HNO5.out.below hb6)
    have HND := hid (hnd.mono HB5.out.size)
    clear hnd hb6 M5 MS5 HB5 HA5 HNO5 HRD CND
    go_wp2_with fail
    have HBc := hid ((Below.refl w5.heap.size w5).drew)
    have HSX := hid (show ∀ W', Below w5.heap.size w5 W' → W'.cell? ⟨w.heap.size, 0, none⟩ = some (.slice (some ⟨gb, go, none⟩) n cap) ∧ W'.cell? ⟨w.heap.size, 1, none⟩ = some (.int .i64 but) from fun W' hb => (box2e (blk_below MS6.out hb)).1)
    go_region_held3 (fun w' => w'.cell? ⟨w.heap.size, 0, none⟩ = some (.slice (some ⟨gb, go, none⟩) n cap) ∧ w'.cell? ⟨w.heap.size, 1, none⟩ = some (.int .i64 but)) (exact HSX.out _ HBc.out)
      (first
        | (go_at_call 69; refine (CN2.out ad cd _ (bb HB6.out HBc.out) (HND.out.row.below HBc.out)).mono ?_; rintro e w6 ⟨C'', rfl, hA7, hb7⟩; have HA7 := hid hA7; replace HBc := hid (bb HBc.out hb7); clear hA7 hb7)
        | (go_at_call 76; refine (CIN.out _ _ _ (bb HB6.out HBc.out) (HA6.out.below HBc.out) HA7.out).mono ?_; rintro e w7 ⟨a3, c3, rfl, hk3, hb8⟩; have HK3 := hid (show KidsAt (fun g => w.heap.size ≤ g) w7 f a3 ss from hk3.widen (bb HB6.out HBc.out).size); replace HBc := hid (bb HBc.out hb8); clear hk3 hb8))
    obtain ⟨⟨y0, y1, y2, y3⟩, _⟩ := box4 (blk_below M6.out HBc.out)
    have HB9 := hid (bb HB6.out HBc.out)
    have HFIN := hid (HSH.out ad cd ao co a3 c3 _ (HND.out.below HBc.out) (HNO6.out.below HBc.out) HK3.out)
    clear HBc
    go_wp2_with fail
    go_ret
    exact ⟨_, rfl, HFIN.out, HB9.out⟩

end Go.Proofs.YtmghipjpgoghlaaGreat

namespace Go.Proofs.YtmghipjpgoghlaaGreat
open Go.RowKit
set_option linter.unusedVariables false

def rootS : ByteArray := ⟨#[114, 111, 111, 116]⟩

def pS : ByteArray := ⟨#[112]⟩
def qS : ByteArray := ⟨#[113]⟩

/-- What is declared of a prefix there. -/
noncomputable def rlF (ts : List Tk) (x : Int) (q : ByteArray) : List At :=
  if (meanI ts x q).isSome && (!decide (((meanI ts x q).getD ⟨#[]⟩).size = 0) || decide (q.size = 0)) then [⟨nmD q, (meanI ts x q).getD ⟨#[]⟩⟩] else []

noncomputable def rlA (ts : List Tk) (x : Int) (l : List ByteArray) : List At := l.flatMap (rlF ts x)

theorem rlA_next (ts : List Tk) (x : Int) {l : List ByteArray} {i : Nat} (h : i < l.length) : rlA ts x (l.take (i + 1)) = rlA ts x (l.take i) ++ rlF ts x l[i] := by
  unfold rlA
  rw [take_snocN h, List.flatMap_append]
  simp

def pqL : List ByteArray := [⟨#[]⟩, pS, qS]

theorem pq_ok : ∀ q ∈ pqL, PreOk q := by
  intro q hq
  simp only [pqL, List.mem_cons, List.not_mem_nil, or_false] at hq
  rcases hq with rfl | rfl | rfl
  · exact .inl rfl
  · exact .inr (by decide +kernel)
  · exact .inr (by decide +kernel)

theorem rl_look {ts : List Tk} {x : Int} (l : List ByteArray) (hl : ∀ q ∈ l, PreOk q) {p : ByteArray} {y : At} (h : (rlA ts x l).find? (declB p) = some y) : meanI ts x p = some y.value := by
  have h1 := List.mem_of_find?_eq_some h
  have h2 := List.find?_some h
  unfold rlA at h1
  obtain ⟨q, hq, hy⟩ := List.mem_flatMap.1 h1
  unfold rlF at hy
  split at hy
  · rename_i hc
    rw [List.mem_singleton] at hy
    subst hy
    unfold declB at h2
    rw [decide_eq_true_eq, nmD_decl (hl q hq)] at h2
    injection h2 with h2
    subst h2
    rw [Bool.and_eq_true] at hc
    obtain ⟨v, hv⟩ := Option.isSome_iff_exists.1 hc.1
    rw [hv]
    rfl
  · exact absurd hy List.not_mem_nil

theorem rl_none {ts : List Tk} {x : Int} (h : (meanI ts x ⟨#[]⟩).isSome = true) : ((rlA ts x pqL).find? (declB ⟨#[]⟩)).isSome = true := by
  have e : rlF ts x ⟨#[]⟩ = [⟨nmD ⟨#[]⟩, (meanI ts x ⟨#[]⟩).getD ⟨#[]⟩⟩] := by
    unfold rlF
    rw [h]
    have : decide ((⟨#[]⟩ : ByteArray).size = 0) = true := rfl
    rw [this, Bool.or_true]
    rfl
  rw [List.find?_isSome]
  refine ⟨⟨nmD ⟨#[]⟩, (meanI ts x ⟨#[]⟩).getD ⟨#[]⟩⟩, ?_, ?_⟩
  · unfold rlA
    refine List.mem_flatMap.2 ⟨⟨#[]⟩, by simp [pqL], ?_⟩
    rw [e]
    simp
  · unfold declB
    rw [nmD_decl (.inl rfl)]
    simp

theorem out_root_in {b : List Tk} (hB : TreeP b) : ∀ j, j < b.length → ∀ x ∈ outAts b 0, x ∈ outAts b j := by
  intro j
  induction j using Nat.strongRecOn with
  | _ j ih =>
    intro hj x hx
    by_cases h0 : j = 0
    · subst h0; exact hx
    · obtain ⟨p, _, hp, _, e⟩ := outAts_up hB (List.getElem?_eq_getElem hj) h0
      rw [e]
      exact List.mem_append_right _ (ih p hp (by omega) x hx)

theorem look_left {A B C : List At} {p : ByteArray} {x : At} (h : A.find? (declB p) = some x) : lookL (A ++ B) p = lookL (A ++ C) p := by
  unfold lookL
  rw [List.find?_append, List.find?_append, h]
  rfl

/-- It is written the same there. -/
theorem else_same {ts : List Tk} {k : Nat} (hk : k < ts.length) (hc : canB ts (k : Int) (-1) = true) {R : Tk} (hR : R.attrs = rlA ts (k : Int) pqL) (hg : graftB [R] (branchL ts k) 0 = true) (hN : namesB (graftL [R] (branchL ts k) 0) = true) :
    canonI (graftL [R] (branchL ts k) 0) 1 (-1) = canonI ts (k : Int) (-1) := by
  have hc' := hc
  unfold canB at hc'
  simp only [Bool.and_eq_true] at hc'
  obtain ⟨c1, c2, _⟩ := hc'
  have hNt : NamesP ts := by unfold namesB at c1; simpa using c1
  have hT := hNt.1
  have hkn : ¬ (nodeAt ts k).name.size = 0 := by
    intro q
    have h2 := c2
    unfold elemB at h2
    rw [Bool.and_eq_true] at h2
    have h5 := h2.2
    rw [show ((k : Int).toNat) = k from rfl, nameI_at hk, ← nodeAt_at hk, decide_eq_true q] at h5
    cases h5
  have hel : elN ts k := ⟨hk, by rw [← nodeAt_at hk]; exact hkn⟩
  have hB := branch_tree hT hk hel
  have hg' := hg
  unfold graftB at hg'
  simp only [Bool.and_eq_true] at hg'
  obtain ⟨g1, g2, g3⟩ := hg'
  have hRt : TreeP [R] := (elemB_t g1).1
  have e0 : endN [R] 0 = 1 := by have := endN_le (ts := [R]) (k := 0) (by simp); simp at this; omega
  rw [show ((0 : Int).toNat) = 0 from rfl, e0] at g3
  have eG : graftL [R] (branchL ts k) 0 = putL [R] 1 0 (branchL ts k) := by
    unfold graftL
    rw [treeB_t hRt, hg, if_pos rfl, if_pos rfl, show ((0 : Int).toNat) = 0 from rfl, e0]
  rw [eG] at hN ⊢
  have hNu : NamesP (putL [R] 1 0 (branchL ts k)) := by unfold namesB at hN; simpa using hN
  obtain ⟨us, hus⟩ : ∃ us, putL [R] 1 0 (branchL ts k) = us := ⟨_, rfl⟩
  have hbr : branchL us 1 = branchL ts k := by rw [← hus]; exact put_branch (by simp) hB (fun t ht => by simp at ht)
  have hul : us.length = 1 + (branchL ts k).length := by rw [← hus, putL_len (by simp)]; simp
  have hbl := branchL_len hk
  have hen := endN_le hk
  have h1l : 1 < us.length := by omega
  have u0 : us[0]? = some R := by rw [← hus]; exact put_low (by simp) (by omega) rfl
  obtain ⟨b0, hb0⟩ : ∃ t, (branchL ts k)[0]? = some t := ⟨_, List.getElem?_eq_getElem (show 0 < (branchL ts k).length by omega)⟩
  have u1 : us[1]? = some (shK 0 b0) := by
    rw [← hus]
    have := put_mid (ts := [R]) (e := 1) (par := 0) (by simp) (show 0 < (branchL ts k).length by omega) hb0
    simpa [inF] using this
  rw [hus] at hN hNu ⊢
  have hU := hNu.1
  have cU : canB us 1 (-1) = true := by
    unfold canB
    rw [hN]
    have h2 : elemB us 1 = true := by
      unfold elemB
      have h3 : hasB us (1 : Int) = true := has_of (k := 1) hU h1l
      rw [h3]
      have h4 : nameI us (1 : Int).toNat = (nodeAt ts k).name := by
        rw [show ((1 : Int).toNat) = 1 from rfl]
        unfold nameI
        rw [u1]
        have := (branch_node hk (j := 0) (by omega)).1
        rw [Nat.add_zero] at this
        rw [this]
        unfold nodeAt
        rw [hb0]
        rfl
      rw [h4, decide_eq_false hkn]
      rfl
    rw [h2, decide_eq_true (show (-1 : Int) ≤ -1 ∧ (-1 : Int) ≤ (us.length : Int) - 1 by omega)]
    rfl
  rw [canonI_yes cU, canonI_yes hc, show ((1 : Int).toNat) = 1 from rfl, show ((k : Int).toNat) = k from rfl]
  have oU : ∀ j, j < (branchL ts k).length → outAts us (1 + j) = outAts (branchL ts k) j ++ rlA ts (k : Int) pqL := by
    intro j hj
    have hend : endN us 1 - 1 = (branchL ts k).length := by rw [← hbr, branchL_len h1l]
    have := out_branch hU h1l (j := j) (by omega)
    rw [this, hbr]
    congr 1
    obtain ⟨p, e1, e2, _, e3⟩ := outAts_up hU u1 (by omega)
    have hp : p = 0 := by omega
    subst hp
    have e4 : outAts us 1 = (shK 0 b0).attrs ++ upAts us (chainF us (1 + 1)).tail := by
      have h5 := out_branch hU h1l (j := 0) (by omega)
      rw [Nat.add_zero, hbr, outAts_root hb0] at h5
      exact h5
    rw [e4, outAts_root u0] at e3
    rw [← hR]
    exact List.append_cancel_left e3
  have oT : ∀ j, j < (branchL ts k).length → outAts ts (k + j) = outAts (branchL ts k) j ++ upAts ts (chainF ts (k + 1)).tail := fun j hj => out_branch hT hk (by omega)
  have hmv := canon_moved hT hU hk h1l hbr (fun j hj hn p hp => ?_) ts.length []
  · rw [hmv]
    exact canon_fuel _ _ 1 [] h1l (by omega) (by omega)
  · -- what a prefix means there
    have nT := branch_node hk (j := j) (by omega)
    have hend : endN us 1 - 1 = (branchL ts k).length := by rw [← hbr, branchL_len h1l]
    have nU := branch_node h1l (j := j) (by omega)
    rw [hbr] at nU
    have hkj : k + j < ts.length := by omega
    have h1j : 1 + j < us.length := by omega
    have rT : (outAts ts (k + j)).all rightB = true := right_of hNt hkj (by rw [nT.1]; exact hn)
    have rU : (outAts us (1 + j)).all rightB = true := right_of hNu h1j (by rw [nU.1]; exact hn)
    have rK : (outAts ts k).all rightB = true := right_of hNt hk hkn
    have sU : (meanF us (1 + j) p).isSome = true := by
      have hEl := hNu.2 (1 + j) us[1 + j] (List.getElem?_eq_getElem h1j)
      rw [← nodeAt_at h1j] at hEl
      rcases hEl with h | ⟨h, _, h3⟩
      · rw [nU.1] at h; exact absurd h hn
      · rcases (pre_strict _ _).2 p |>.1 hp with rfl | ⟨x, hx, hcx, rfl⟩
        · rw [← nU.1]; exact h
        · exact h3.1 x (by rw [nU.2.1]; exact hx) hcx
    unfold mnF
    rw [meanF_look rU, oU j hj] at sU
    rw [meanF_look rT, meanF_look rU, oT j hj, oU j hj]
    cases hf : (outAts (branchL ts k) j).find? (declB p) with
    | some x => rw [look_left hf (C := rlA ts (k : Int) pqL)]
    | none =>
      rw [lookL_none _ hf] at sU ⊢
      rw [lookL_none _ hf]
      have hf0 : (outAts (branchL ts k) 0).find? (declB p) = none := by
        rw [List.find?_eq_none] at hf ⊢
        exact fun x hx => hf x (out_root_in hB j hj x hx)
      have eM : meanI ts (k : Int) p = lookL (upAts ts (chainF ts (k + 1)).tail) p := by
        unfold meanI
        rw [c2, if_pos rfl, show ((k : Int).toNat) = k from rfl, meanF_look rK]
        have := oT 0 (by omega)
        rw [Nat.add_zero] at this
        rw [this, lookL_none _ hf0]
      cases hr : (rlA ts (k : Int) pqL).find? (declB p) with
      | some y =>
        have e5 := rl_look pqL pq_ok hr
        have e6 : lookL (rlA ts (k : Int) pqL) p = some y.value := by unfold lookL; rw [hr]
        rw [e6, ← eM, e5]
      | none =>
        have e6 : lookL (rlA ts (k : Int) pqL) p = if p.size = 0 then some ⟨#[]⟩ else none := by unfold lookL; rw [hr]
        rw [e6] at sU
        split at sU
        · rename_i h0
          have hpe := empty_of p h0
          have h7 : (meanI ts (k : Int) ⟨#[]⟩).isSome = true := by
            rw [← hpe, eM]
            unfold lookL
            split
            · rfl
            · rw [if_pos h0]; rfl
          have h8 := rl_none h7
          rw [hpe] at hr
          rw [hr] at h8
          cases h8
        · cases sU

end Go.Proofs.YtmghipjpgoghlaaGreat
