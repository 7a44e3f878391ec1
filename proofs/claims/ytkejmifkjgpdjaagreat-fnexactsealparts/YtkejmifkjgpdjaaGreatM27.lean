/- Contracts of EndOf, KidsOf and TextIn of the program. Contract of KidsOf of the program. Seals in the program: contracts of slices.Index and slices.Contains over the three names, justAttrs, digitsOk, sealAt. -/
import Derived.Test.YtkejmifkjgpdjaaGreatM26
import Derived.Test.YtkejmifkjgpdjaaGreatM21
import Derived.Test.YtkejmifkjgpdjaaGreatM18
namespace Go.Proofs.YtkejmifkjgpdjaaGreat
open Go.RowKit
set_option linter.unusedVariables false
set_option linter.unusedSimpArgs false

end Go.Proofs.YtkejmifkjgpdjaaGreat

namespace Go.Proofs.YtkejmifkjgpdjaaGreat
open Go.RowKit
set_option linter.unusedVariables false
set_option linter.unusedSimpArgs false

theorem kid_ahead {ts : List Tk} (h : TreeP ts) {i k : Nat} (hi : i < ts.length) (hp : parI ts i = (k : Int)) : k < i := by
  rcases Nat.eq_zero_or_pos i with h0 | h0
  · subst h0
    rw [h.2.2.1] at hp
    omega
  · rcases (h.2.2.2.2 i hi).2.1 with h' | ⟨p, hm, e, _⟩
    · omega
    · obtain ⟨j, rfl⟩ : ∃ j, i = j + 1 := ⟨i - 1, by omega⟩
      have := (linked_all j (fun m hm => (h.2.2.2.2 m (by omega)).2.1)).2 p hm
      omega

theorem kidsTo_step {ts : List Tk} {k e : Nat} (h : parI ts e = (k : Int) → k < e) : kidsTo ts k (e + 1) = kidsTo ts k e ++ (if parI ts e = (k : Int) then [e] else []) := by
  unfold kidsTo
  rw [List.range_succ, List.filter_append]
  congr 1
  by_cases q : parI ts e = (k : Int)
  · simp [h q, q]
  · simp [q]

set_option maxRecDepth 8000 in
set_option maxHeartbeats 4000000 in
theorem cKidsOfI (a : Option Addr) (cap : Nat) (ts : List Tk) (x : Int) (w : World) (hR : TkRow w a ts) (hn : ts.length ≤ 1048576) (hz : TksSz 1048576 ts) :
    Calls Tryz.prog 91 #[.slice a ts.length cap, .int .i64 x] w fun e w' => ∃ v, e = .returned v ∧ w'.ownsRow w.heap.size 2 1 v (kidsI ts x).length (intC (kidsI ts x)) ∧ Below w.heap.size w w' := by
  have C := hid (cThere a cap ts x w hR hn hz)
  have HR := hid hR
  have HZ := hid hz
  cases q : hasB ts x
  · have e1 : kidsI ts x = [] := by unfold kidsI; rw [q]; rfl
    rw [e1]
    rw [q] at C
    clear hz hR e1
    generalize ts.length = n at *
    go_enter Tryz.func91, Tryz.ntmps91
    go_wp2_with fail
    refine C.out.mono ?_
    rintro e w1 ⟨rfl, hb1⟩
    have HB1 := hid hb1
    clear hb1
    go_wp2_with fail
    go_ret
    exact ⟨_, rfl, World.ownsRow_nil _ _ _ _, HB1.out⟩
  obtain ⟨hT, k, rfl, hk⟩ := hasB_t q
  have e1 : kidsI ts (k : Int) = kidsN ts k := by unfold kidsI; rw [q]; rfl
  obtain ⟨i0, hi, hz0, hz1, hz2⟩ := info_parts info64
  have HI := hid (And.intro hi (And.intro hz0 (And.intro hz1 hz2)))
  have HAH := hid (fun i (h : i < ts.length) => kid_ahead hT h (k := k))
  rw [e1]
  rw [q] at C
  clear hz hR e1 q hT hi hz0 hz1 hz2
  obtain ⟨V, hV⟩ : ∃ V, kidsN ts k = V := ⟨_, rfl⟩
  have HV := hid hV
  rw [hV]
  clear hV
  obtain ⟨n, hnn⟩ : ∃ n, ts.length = n := ⟨_, rfl⟩
  have HN := hid hnn
  rw [hnn] at hn hk C ⊢
  clear hnn
  go_enter Tryz.func91, Tryz.ntmps91
  go_wp2_with fail
  refine C.out.mono ?_
  rintro e w1 ⟨rfl, hb1⟩
  have HB1 := hid hb1
  clear hb1 C
  go_wp2_with fail
  go_loopw [5, 14] (fun v x wr => ∃ e : Nat, x = .int .i64 (e : Int) ∧ e ≤ n ∧ Hid (wr.ownsRow w.heap.size 2 1 v (kidsTo ts k e).length (intC (kidsTo ts k e))) ∧ Hid (Below w.heap.size w wr)) (fun _ x _ => n - (intOf x).toNat)
  case atStart => exact ⟨0, rfl, Nat.zero_le _, World.ownsRow_nil _ _ _ _, HB1.out⟩
  case round =>
    clear HB1
    obtain ⟨e, rfl, h2, HO, HB⟩ := hrel
    by_cases hlt : e < n
    case neg =>
      have hee : e = n := by omega
      subst hee
      have HW := hid (show kidsTo ts k e = V by rw [← HV.out]; unfold kidsN; rw [HN.out])
      have HO2 := HO.out
      rw [HW.out] at HO2
      have HO3 := hid HO2
      clear HO2 HO
      go_wp2_with fail
      go_ret
      exact ⟨_, rfl, HO3.out, HB.out⟩
    have hes : e < ts.length := by rw [HN.out]; exact hlt
    have hin : (e : Int) < (n : Int) := by omega
    have HX := hid (kidsTo_step (ts := ts) (k := k) (HAH.out e hes))
    have HPI := hid (parI_at hes)
    obtain ⟨b, o, aa, ca, rfl, hb, c0, c1, c2, c3, cr⟩ := HR.out.below HB.out e hes
    clear cr
    rw [HPI.out] at HX
    have HOB := hid (HO.out.alloc (.cells #[.int .i64 ts[e].kind, .string ts[e].name, .slice aa ts[e].attrs.length ca, .string ts[e].text] 44))
    have HBB := hid (HB.out.alloc HB.out.size (.cells #[.int .i64 ts[e].kind, .string ts[e].name, .slice aa ts[e].attrs.length ca, .string ts[e].text] 44))
    have hsz := HB.out.size
    have hlen := kidsTo_len ts k e
    by_cases hp : ts[e].kind = (k : Int)
    · rw [if_pos hp] at HX
      have hd : (ts[e].kind == (k : Int)) = true := by simpa using hp
      clear HPI hp
      generalize ts[e].kind = P at *
      generalize ts[e].name = nm at *
      generalize ts[e].attrs.length = al at *
      generalize ts[e].text = tx at *
      obtain ⟨hi, hz0, hz1, hz2⟩ := HI.out
      have HOA := hid (HOB.out.alloc (.cells #[.int .i64 (e : Int)] 2))
      have hlen2 : (intC (kidsTo ts k e)).length ≤ e := by rw [intC_len]; exact hlen
      have HL2 := hid hlen2
      obtain ⟨a5, c5, hv5⟩ := own_len HO.out
      clear hlen2
      subst hv5
      obtain ⟨kl, hkl⟩ : ∃ kl, (kidsTo ts k e).length = kl := ⟨_, rfl⟩
      rw [hkl] at hlen HOA HO HOB ⊢
      have HKL := hid hkl
      clear hkl
      go_wp2_with (at_builtin; refine wpList_append_own _ rfl _ _ 78 rfl w.heap.size 2 i0 (.int .i64 0) 1 8 Tryz.underlying78 hi hz0 hz1 hz2 rfl (by decide) _ _ _ rfl HOA.out ⟨wr.heap.size + 1, 0, none⟩ 1 1 [.int .i64 (e : Int)] rfl rfl ?c1 ?c2 ?c3 ?c4 ?c5 ?_)
      case c1 =>
        have := one_cell64 (wr.alloc (.cells #[.int .i64 P, .string nm, .slice aa al ca, .string tx] 44)) (.int .i64 (e : Int))
        rw [show (wr.alloc (.cells #[.int .i64 P, .string nm, .slice aa al ca, .string tx] 44)).heap.size = wr.heap.size + 1 by simp] at this
        exact this
      case c2 => exact one_one64 _
      case c3 => unfold maxLen; omega
      case c4 => omega
      case c5 => simp; omega
      intro v' w2 hown' hgrow _
      have HO2 := hid (show w2.ownsRow w.heap.size 2 1 v' (kidsTo ts k (e + 1)).length (intC (kidsTo ts k (e + 1))) by rw [HX.out, intC_app, List.length_append, HKL.out]; exact hown')
      have HB2 := hid ((HBB.out.alloc (by simp; omega) (.cells #[.int .i64 (e : Int)] 2)).grown hgrow (by simp; omega) (fun g hg => (HOA.out.lt g hg).1))
      clear hown' hgrow
      go_wp2_with fail
      go_roundw
      case rel => exact ⟨e + 1, by go_num, by omega, HO2.out, HB2.out⟩
      case measure => simp [intOf]; omega
    · rw [if_neg hp, List.append_nil] at HX
      have hd : (ts[e].kind == (k : Int)) = false := by simpa using hp
      clear hp HPI
      generalize ts[e].kind = P at *
      generalize ts[e].name = nm at *
      generalize ts[e].attrs.length = al at *
      generalize ts[e].text = tx at *
      go_wp2_with fail
      go_roundw
      case rel => exact ⟨e + 1, by go_num, by omega, by rw [HX.out]; exact HOB.out, HBB.out⟩
      case measure => simp [intOf]; omega

end Go.Proofs.YtkejmifkjgpdjaaGreat

namespace Go.Proofs.YtkejmifkjgpdjaaGreat
open Go.RowKit
set_option linter.unusedVariables false
set_option linter.unusedSimpArgs false

/-- A row of texts. -/
def NmRow (w : World) (g : Nat) (l : List ByteArray) : Prop := g < w.heap.size ∧ ∀ i (h : i < l.length), w.cell? ⟨g, i, none⟩ = some (.string l[i])

theorem NmRow.below {w w' : World} {g : Nat} {l : List ByteArray} (h : NmRow w g l) (hb : Below w.heap.size w w') : NmRow w' g l :=
  ⟨Nat.lt_of_lt_of_le h.1 hb.size, fun i hi => (hb.cell (p := ⟨g, i, none⟩) h.1).trans (h.2 i hi)⟩

/-- The three names. -/
def threeL : List ByteArray := [refS, sumS, signS]

theorem three_row (w : World) : NmRow (w.alloc (.cells #[.string refS, .string sumS, .string signS] 9)) w.heap.size threeL := by
  refine ⟨by rw [World.size_alloc]; exact Nat.lt_succ_self _, ?_⟩
  have h := heap_alloc_new w (.cells #[.string refS, .string sumS, .string signS] 9)
  intro i hi
  have hi' : i < 3 := hi
  have : i = 0 ∨ i = 1 ∨ i = 2 := by omega
  rcases this with rfl | rfl | rfl <;> (unfold World.cell?; rw [h]; rfl)

noncomputable def hasN (l : List ByteArray) (s : ByteArray) : Bool := open Classical in decide (s ∈ l)

theorem hasN_t {l : List ByteArray} {s : ByteArray} (h : s ∈ l) : hasN l s = true := by unfold hasN; simp [h]

theorem hasN_f {l : List ByteArray} {s : ByteArray} (h : ¬ s ∈ l) : hasN l s = false := by unfold hasN; simp [h]

theorem hasN_just (x : At) : hasN threeL x.name = justN x := by
  rw [Bool.eq_iff_iff, just_is]
  unfold hasN threeL
  simp

set_option maxRecDepth 4000 in
set_option maxHeartbeats 2000000 in
theorem cIndexN (g cap : Nat) (l : List ByteArray) (s : ByteArray) (w : World) (hR : NmRow w g l) (hn : l.length ≤ 1048576) :
    Calls Tryz.prog 139 #[.slice (some ⟨g, 0, none⟩) l.length cap, .string s] w fun e w' => ∃ r : Int, e = .returned (.int .i64 r) ∧ decide (0 ≤ r) = hasN l s ∧ Below w.heap.size w w' := by
  obtain ⟨V, hV⟩ : ∃ V, hasN l s = V := ⟨_, rfl⟩
  have HF : Hid (¬ s ∈ l → V = false) := fun h => by rw [← hV]; exact hasN_f h
  have HT : Hid (s ∈ l → V = true) := fun h => by rw [← hV]; exact hasN_t h
  rw [hV]
  clear hV
  have HR := hid hR
  clear hR
  obtain ⟨n, hnn⟩ : ∃ n, l.length = n := ⟨_, rfl⟩
  have HN := hid hnn
  rw [hnn] at hn ⊢
  clear hnn
  go_enter Tryz.func139, Tryz.ntmps139
  go_wp2_with fail
  go_loopw [8] (fun k wr => ∃ i : Nat, k = .int .i64 (i : Int) ∧ i ≤ n ∧ Hid (¬ s ∈ l.take i) ∧ Hid (Below w.heap.size w wr)) (fun k _ => n - (intOf k).toNat)
  case atStart => exact ⟨0, rfl, Nat.zero_le _, by show ¬ _; simp, Below.refl _ _⟩
  case round =>
    obtain ⟨i, rfl, hi, HO, HB⟩ := hrel
    by_cases hlt : i < n
    · have his : i < l.length := by rw [HN.out]; exact hlt
      have c1 := (HR.out.below HB.out).2 i his
      have hin : (i : Int) < (n : Int) := by omega
      have hin0 : (0 : Int) ≤ (i : Int) := by omega
      have q1 := str_beq s l[i]
      have HTK := hid (take_snocN his)
      have HYES := hid (show s = l[i] → V = true from fun e1 => HT.out (by rw [e1]; exact List.getElem_mem his))
      have HNO := hid (show ¬ s = l[i] → ¬ s ∈ l.take (i + 1) from fun h hm => by
        rw [HTK.out] at hm
        rcases List.mem_append.1 hm with h' | h'
        · exact HO.out h'
        · rw [List.mem_singleton] at h'
          exact h h')
      generalize l[i] = m' at *
      by_cases e1 : s = m'
      · rw [decide_eq_true e1] at q1
        have HV := hid (HYES.out e1)
        clear HNO HYES e1 HTK
        go_wp2_with fail
        go_ret
        exact ⟨_, rfl, by rw [HV.out]; exact decide_eq_true hin0, HB.out⟩
      · rw [decide_eq_false e1] at q1
        have HN2 := hid (HNO.out e1)
        clear HNO HYES e1 HTK
        go_wp2_with fail
        go_roundw
        case rel => exact ⟨i + 1, by go_num, by omega, HN2.out, HB.out⟩
        case measure => simp [intOf]; omega
    · have hie : i = n := by omega
      subst hie
      have HV := hid (HF.out (by
        have h := HO.out
        rw [List.take_of_length_le (by rw [HN.out]; exact Nat.le_refl _)] at h
        exact h))
      go_wp2_with fail
      go_ret
      exact ⟨_, rfl, by rw [HV.out]; rfl, HB.out⟩

set_option maxHeartbeats 2000000 in
theorem cContainsN (g cap : Nat) (l : List ByteArray) (s : ByteArray) (w : World) (hR : NmRow w g l) (hn : l.length ≤ 1048576) :
    Calls Tryz.prog 120 #[.slice (some ⟨g, 0, none⟩) l.length cap, .string s] w fun e w' => e = .returned (.bool (hasN l s)) ∧ Below w.heap.size w w' := by
  have C := hid (cIndexN g cap l s w hR hn)
  clear hR
  generalize hasN l s = V at *
  generalize l.length = n at *
  go_enter Tryz.func120, Tryz.ntmps120
  go_wp2_with fail
  refine C.out.mono ?_
  rintro e w1 ⟨r, rfl, hr, hb1⟩
  have HB1 := hid hb1
  clear hb1 C
  go_wp2_with fail
  go_ret
  exact ⟨rfl, HB1.out⟩

/-- The first attrs are right by name, and so many of them are no declarations. -/
def JustTo (l : List At) (n : Nat) : Prop := (ownA l).all justN = true ∧ (ownA l).length = n

theorem justTo_nil : JustTo [] 0 := ⟨rfl, rfl⟩

theorem JustTo.skip {l : List At} {y : At} {n : Nat} (h : JustTo l n) (hd : (declF y).isSome = true) : JustTo (l ++ [y]) n := by
  unfold JustTo
  rw [ownA_skip hd]
  exact h

theorem JustTo.more {l : List At} {y : At} {n : Nat} (h : JustTo l n) (hd : declF y = none) (hs : justN y = true) : JustTo (l ++ [y]) (n + 1) := by
  unfold JustTo
  rw [ownA_more hd, List.all_append, List.length_append, h.1, h.2]
  simp [hs]

theorem JustTo.is {l : List At} {n : Nat} (h : JustTo l n) : justL l = decide (n = 3) := by
  unfold justL
  rw [h.1, h.2, Bool.true_and]

theorem justL_bad {l : List At} {y : At} (hm : y ∈ l) (hd : declF y = none) (hs : justN y = false) : justL l = false := by
  unfold justL
  have h : (ownA l).all justN = false := by
    rw [List.all_eq_false]
    exact ⟨y, List.mem_filter.2 ⟨hm, by rw [hd]; rfl⟩, by rw [hs]; decide⟩
  rw [h]
  rfl

set_option maxRecDepth 4000 in
set_option maxHeartbeats 4000000 in
theorem cJustAttrs (a : Option Addr) (cap : Nat) (l : List At) (g : Nat) (w : World) (hR : AtRow w a l) (hz : AtSz 1048576 l) (hn : l.length ≤ 1048576) (hG : NmRow w g threeL) :
    Calls Tryz.prog 92 #[.slice a l.length cap, .slice (some ⟨g, 0, none⟩) 3 3] w fun e w' => e = .returned (.bool (justL l)) ∧ Below w.heap.size w w' := by
  obtain ⟨V, hV⟩ : ∃ V, justL l = V := ⟨_, rfl⟩
  have HV := hid hV
  rw [hV]
  clear hV
  have HR := hid hR
  have HZ := hid hz
  have CC := hid (fun (y : At) wx (hb : Below w.heap.size w wx) => cContainsN g 3 threeL y.name wx (hG.below hb) (by decide))
  have CC' := hid (show ∀ (y : At) (wx : World), Below w.heap.size w wx → (Calls Tryz.prog 120 #[.slice (some ⟨g, 0, none⟩) 3 3, .string y.name] wx fun e w' => e = .returned (.bool (justN y)) ∧ Below wx.heap.size wx w') from fun y wx hb => by rw [← hasN_just y]; exact CC.out y wx hb)
  clear hR hz hG CC
  obtain ⟨n, hnn⟩ : ∃ n, l.length = n := ⟨_, rfl⟩
  have HN := hid hnn
  rw [hnn] at hn ⊢
  clear hnn
  go_enter Tryz.func92, Tryz.ntmps92
  go_wp2_with fail
  go_loopw [5, 12] (fun v5 v6 wr => ∃ (j m : Nat), v5 = .int .i64 (m : Int) ∧ v6 = .int .i64 (j : Int) ∧ j ≤ n ∧ m ≤ j ∧ Hid (JustTo (l.take j) m) ∧ Hid (Below w.heap.size w wr)) (fun _ v6 _ => n - (intOf v6).toNat)
  case atStart => exact ⟨0, 0, rfl, rfl, Nat.zero_le _, Nat.zero_le _, by rw [List.take_zero]; exact justTo_nil, Below.refl _ _⟩
  case round =>
    obtain ⟨j, m, rfl, rfl, hj, hm, HK, HB⟩ := hrel
    by_cases hjl : j < n
    · have hjt : j < l.length := by rw [HN.out]; exact hjl
      have hjn : (j : Int) < (n : Int) := by omega
      obtain ⟨b2, o2, rfl, hb2, e1, e2⟩ := (HR.out.below HB.out) j hjt
      have HTS := hid (take_snocN hjt)
      have HSZ := hid (HZ.out _ (List.getElem_mem hjt))
      have HME := hid (List.getElem_mem hjt)
      obtain ⟨y, hy⟩ : ∃ y, l[j] = y := ⟨_, rfl⟩
      rw [hy] at e1 e2 HTS HSZ HME
      have CD := hid (fun wx => cDeclaredBy y wx HSZ.out.1)
      have HBX := hid ((Below.refl wr.heap.size wr).alloc (Nat.le_refl _) (.cells #[.string y.name, .string y.value] 62))
      have HBOX := hid (box_two wr (.string y.name) (.string y.value) 62)
      clear hy
      go_wp2_with fail
      refine (CD.out _).mono ?_
      rintro e w4 ⟨rfl, hb4⟩
      have HB4 := hid (bb HB.out (bb HBX.out hb4))
      have d1 := (hb4.cell (p := ⟨wr.heap.size, 0, none⟩) HBOX.out.2.2).trans HBOX.out.1
      have d2 := (hb4.cell (p := ⟨wr.heap.size, 1, none⟩) HBOX.out.2.2).trans HBOX.out.2.1
      clear hb4 HBX HBOX CD e1 e2 hb2 HB
      cases hd : declF y with
      | some q =>
        have HS := hid (HK.out.skip (show (declF y).isSome = true by rw [hd]; rfl))
        rw [← HTS.out] at HS
        clear hd d1 d2
        go_wp2_with fail
        go_roundw
        case rel => exact ⟨j + 1, m, rfl, by go_num, by omega, by omega, HS.out, HB4.out⟩
        case measure => simp [intOf]; omega
      | none =>
        have HD := hid hd
        clear hd
        go_wp2_with fail
        refine (CC'.out y _ HB4.out).mono ?_
        rintro e w5 ⟨rfl, hb5⟩
        have HB5 := hid (bb HB4.out hb5)
        clear hb5 d1 d2
        cases hw : justN y with
        | true =>
          have HS := hid (HK.out.more HD.out hw)
          rw [← HTS.out] at HS
          clear hw
          go_wp2_with fail
          go_roundw
          case rel => exact ⟨j + 1, m + 1, by go_num, by go_num, by omega, by omega, HS.out, HB5.out⟩
          case measure => simp [intOf]; omega
        | false =>
          have HX := hid (HV.out.symm.trans (justL_bad HME.out HD.out hw))
          clear hw
          go_wp2_with fail
          go_ret
          exact ⟨by rw [HX.out]; rfl, HB5.out⟩
    · have hje : j = n := by omega
      subst hje
      have HX := hid (show V = decide (m = 3) by
        rw [← HV.out]
        have h := HK.out
        rw [List.take_of_length_le (by rw [HN.out]; exact Nat.le_refl _)] at h
        exact h.is)
      have he : ((m : Int) == 3) = decide (m = 3) := by
        by_cases q : m = 3
        · subst q; rfl
        · rw [decide_eq_false q]; simp; omega
      generalize decide (m = 3) = Y at *
      go_wp2_with fail
      go_ret
      exact ⟨by rw [HX.out]; rfl, HB.out⟩

set_option maxHeartbeats 1000000 in
theorem cDigitsOk (b : ByteArray) (w : World) (hb : b.size ≤ 1048576) :
    Calls Tryz.prog 93 #[.string b] w fun e w' => e = .returned (.bool (tenB b)) ∧ w' = w := by
  have C := hid (cNumI b w hb)
  unfold tenB
  generalize (numOf b.data.toList).1 = X at *
  generalize (numOf b.data.toList).2 = Y at *
  go_enter Tryz.func93, Tryz.ntmps93
  go_wp2_with fail
  refine C.out.mono ?_
  rintro e w1 ⟨rfl, rfl⟩
  clear C
  go_wp2_with fail
  go_ret
  exact ⟨rfl, rfl⟩

end Go.Proofs.YtkejmifkjgpdjaaGreat
