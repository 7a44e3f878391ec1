/- Which of two attrs stands ahead: contract of the specification's l11Ahead. Texts into a list that rises, once: contract of the specification's l11Put. What the nearest one says of a prefix: contract of the specification's l11Last. -/
import Derived.Test.YtkejmifkjgpdjaaGreatM14
import Derived.Test.YtkejmifkjgpdjaaGreatM19
import Derived.Test.YtkejmifkjgpdjaaGreatM1
import Derived.Test.YtkejmifkjgpdjaaGreatM7
namespace Go.Proofs.YtkejmifkjgpdjaaGreat
open Go.RowKit
set_option linter.unusedVariables false
set_option linter.unusedSimpArgs false

/-- Is the one text ahead of the other? -/
def ltB (a b : ByteArray) : Bool := Op.bytesLess a.toList b.toList

/-- What an attr's prefix means there; nothing where it has none. -/
noncomputable def atMean (ts : List Tk) (k : Nat) (x : At) : ByteArray := if (preS x.name).size = 0 then ⟨#[]⟩ else (meanF ts k (preS x.name)).getD ⟨#[]⟩

/-- By meanings, then by locals. -/
noncomputable def aheadF (ts : List Tk) (k : Nat) (x y : At) : Bool := open Classical in ltB (atMean ts k x) (atMean ts k y) || (decide (atMean ts k x = atMean ts k y) && ltB (locS x.name) (locS y.name))

/-- What follows from the three comparisons. -/
theorem ahead_of {ts : List Tk} {k : Nat} {x y : At} {M N : ByteArray} (h1 : atMean ts k x = M) (h2 : atMean ts k y = N) : aheadF ts k x y = (Op.bytesLess M.toList N.toList || ((M.toList == N.toList) && Op.bytesLess (locS x.name).toList (locS y.name).toList)) := by
  unfold aheadF
  rw [h1, h2, str_beq]
  unfold ltB
  congr 2

theorem e_lit : (⟨#[]⟩ : ByteArray).toList = [] := by rw [ByteArray.toList_eq]

set_option maxRecDepth 4000 in
set_option maxHeartbeats 4000000 in
theorem c_spec_l11Ahead (a : Option Addr) (cap : Nat) (ts : List Tk) (k : Nat) (x y : At) (w : World) (hR : TkRow w a ts) (hT : TreeP ts) (hk : k < ts.length) (hn : ts.length ≤ 1048576) (hz : TksSz 1048576 ts) (hx : x.name.size ≤ 1048576) (hy : y.name.size ≤ 1048576) :
    Calls Tryz.prog 42 #[.slice a ts.length cap, .int .i64 (k : Int), .agg #[.string x.name, .string x.value], .agg #[.string y.name, .string y.value]] w fun e w' => e = .returned (.bool (aheadF ts k x y)) ∧ Below w.heap.size w w' := by
  have HB := hid (((Below.refl w.heap.size w).alloc (Nat.le_refl _) (.cells #[.string x.name, .string x.value] 62)))
  have CP := hid (fun wx => cPartsX x.name wx hx)
  have CQ := hid (fun wx => cPartsX y.name wx hy)
  have CM := hid (fun wx (hb : Below w.heap.size w wx) => c_spec_l9Meaning a cap ts k (preS x.name) wx (hR.below hb) hT hk hn hz (preS_sz hx))
  have CN := hid (fun wx (hb : Below w.heap.size w wx) => c_spec_l9Meaning a cap ts k (preS y.name) wx (hR.below hb) hT hk hn hz (preS_sz hy))
  have A := hid (fun (M N : ByteArray) (h1 : atMean ts k x = M) (h2 : atMean ts k y = N) => ahead_of h1 h2)
  have E1 := empty_is (preS x.name)
  have E2 := empty_is (preS y.name)
  have M1 := hid (show (preS x.name).size = 0 → atMean ts k x = ⟨#[]⟩ from fun h => by unfold atMean; rw [if_pos h])
  have M2 := hid (show ¬ (preS x.name).size = 0 → atMean ts k x = (meanF ts k (preS x.name)).getD ⟨#[]⟩ from fun h => by unfold atMean; rw [if_neg h])
  have N1 := hid (show (preS y.name).size = 0 → atMean ts k y = ⟨#[]⟩ from fun h => by unfold atMean; rw [if_pos h])
  have N2 := hid (show ¬ (preS y.name).size = 0 → atMean ts k y = (meanF ts k (preS y.name)).getD ⟨#[]⟩ from fun h => by unfold atMean; rw [if_neg h])
  have Z := aheadF ts k x y
  obtain ⟨V, hV⟩ : ∃ V, aheadF ts k x y = V := ⟨_, rfl⟩
  rw [hV] at A ⊢
  have eh : (w.alloc (.cells #[.string x.name, .string x.value] 62)).heap.size = w.heap.size + 1 := by simp
  have hbx := box_two (w.alloc (.cells #[.string x.name, .string x.value] 62)) (.string y.name) (.string y.value) 62
  rw [eh] at hbx
  have HBX := hid hbx
  clear hV hR hT hk hn hz hx hy eh hbx Z
  go_enter Tryz.func42, Tryz.ntmps42
  go_wp2_with fail
  refine (CP.out _).mono ?_
  rintro e w1 ⟨rfl, hb1⟩
  have HBY := hid (HB.out.alloc HB.out.size (.cells #[.string y.name, .string y.value] 62))
  have HX := hid (bb HBY.out hb1)
  have d1 := (hb1.cell (p := ⟨w.heap.size + 1, 0, none⟩) HBX.out.2.2).trans HBX.out.1
  clear hb1 HBX HB HBY CP
  go_wp2_with fail
  refine (CQ.out _).mono ?_
  rintro e w2 ⟨rfl, hb2⟩
  have HX2 := hid (bb HX.out hb2)
  clear hb2 HX d1 CQ
  generalize preS x.name = P at *
  generalize preS y.name = Q at *
  generalize locS x.name = L at *
  generalize locS y.name = R at *
  by_cases hp : P.size = 0
  · have HM := hid (M1.out hp)
    rw [decide_eq_true hp] at E1
    clear hp
    by_cases hq : Q.size = 0
    · have HN := hid (N1.out hq)
      rw [decide_eq_true hq] at E2
      clear hq
      have HA := A.out _ _ HM.out HN.out
      simp only [e_lit] at HA
      have HA := hid HA
      clear A HM HN CM CN M1 M2 N1 N2
      have HF := hid (show V = Op.bytesLess L.toList R.toList by rw [HA.out]; rfl)
      clear HA
      go_wp2_with fail
      go_ret
      exact ⟨by rw [HF.out]; rfl, HX2.out⟩
    · have HN := hid (N2.out hq)
      rw [decide_eq_false hq] at E2
      clear hq
      go_wp2_with fail
      refine (CN.out _ HX2.out).mono ?_
      rintro e w9 ⟨rfl, hb9⟩
      have HX9 := hid (bb HX2.out hb9)
      clear hb9
      have HA := A.out _ _ HM.out HN.out
      simp only [e_lit] at HA
      have HA := hid HA
      generalize (meanF ts k Q).getD ⟨#[]⟩ = N at *
      clear A HM HN CM CN M1 M2 N1 N2
      cases c1 : Op.bytesLess [] N.toList with
      | true =>
        have HF := hid (show V = true by rw [HA.out, c1]; rfl)
        go_wp2_with fail
        go_ret
        exact ⟨by rw [HF.out]; rfl, HX9.out⟩
      | false =>
        cases c2 : ([] == N.toList) with
        | false =>
          have HF := hid (show V = false by rw [HA.out, c1, c2]; rfl)
          go_wp2_with fail
          go_ret
          exact ⟨by rw [HF.out]; rfl, HX9.out⟩
        | true =>
          have HF := hid (show V = Op.bytesLess L.toList R.toList by rw [HA.out, c1, c2]; rfl)
          go_wp2_with fail
          go_ret
          exact ⟨by rw [HF.out]; rfl, HX9.out⟩
  · have HM := hid (M2.out hp)
    rw [decide_eq_false hp] at E1
    clear hp
    go_wp2_with fail
    refine (CM.out _ HX2.out).mono ?_
    rintro e w3 ⟨rfl, hb3⟩
    have HX3 := hid (bb HX2.out hb3)
    clear hb3
    by_cases hq : Q.size = 0
    · have HN := hid (N1.out hq)
      rw [decide_eq_true hq] at E2
      clear hq
      have HA := A.out _ _ HM.out HN.out
      simp only [e_lit] at HA
      generalize (meanF ts k P).getD ⟨#[]⟩ = M at *
      clear A HM HN CM CN M1 M2 N1 N2
      have c1 : Op.bytesLess M.toList [] = false := by cases M.toList <;> rfl
      have c3 : (M.toList == []) = M.toList.isEmpty := by cases M.toList <;> rfl
      rw [c1, c3] at HA
      cases c2 : M.toList.isEmpty with
      | false =>
        have HF := hid (show V = false by rw [HA, c2]; rfl)
        clear HA
        go_wp2_with fail
        go_ret
        exact ⟨by rw [HF.out]; rfl, HX3.out⟩
      | true =>
        have HF := hid (show V = Op.bytesLess L.toList R.toList by rw [HA, c2]; rfl)
        clear HA
        go_wp2_with fail
        go_ret
        exact ⟨by rw [HF.out]; rfl, HX3.out⟩
    · have HN := hid (N2.out hq)
      rw [decide_eq_false hq] at E2
      clear hq
      go_wp2_with fail
      refine (CN.out _ HX3.out).mono ?_
      rintro e w9 ⟨rfl, hb9⟩
      have HX9 := hid (bb HX3.out hb9)
      clear hb9
      have HA := A.out _ _ HM.out HN.out
      have HA := hid HA
      generalize (meanF ts k P).getD ⟨#[]⟩ = M at *
      generalize (meanF ts k Q).getD ⟨#[]⟩ = N at *
      clear A HM HN CM CN M1 M2 N1 N2
      cases c1 : Op.bytesLess M.toList N.toList with
      | true =>
        have HF := hid (show V = true by rw [HA.out, c1]; rfl)
        go_wp2_with fail
        go_ret
        exact ⟨by rw [HF.out]; rfl, HX9.out⟩
      | false =>
        cases c2 : (M.toList == N.toList) with
        | false =>
          have HF := hid (show V = false by rw [HA.out, c1, c2]; rfl)
          go_wp2_with fail
          go_ret
          exact ⟨by rw [HF.out]; rfl, HX9.out⟩
        | true =>
          have HF := hid (show V = Op.bytesLess L.toList R.toList by rw [HA.out, c1, c2]; rfl)
          go_wp2_with fail
          go_ret
          exact ⟨by rw [HF.out]; rfl, HX9.out⟩

end Go.Proofs.YtkejmifkjgpdjaaGreat

namespace Go.Proofs.YtkejmifkjgpdjaaGreat
open Go.RowKit
set_option linter.unusedVariables false
set_option linter.unusedSimpArgs false

/-- How many stand ahead of it. -/
def lowN (l : List ByteArray) (s : ByteArray) : Nat := (l.takeWhile fun x => ltB x s).length

theorem lowN_is {l : List ByteArray} {s : ByteArray} {k : Nat} (hk : k ≤ l.length) (h1 : ∀ x ∈ l.take k, ltB x s = true) (h2 : ∀ h : k < l.length, ltB l[k] s = false) : lowN l s = k := by
  unfold lowN
  induction l generalizing k with
  | nil =>
    have : k = 0 := by simpa using hk
    subst this
    rfl
  | cons x l ih =>
    cases k with
    | zero =>
      have h := h2 (by simp)
      simp only [List.getElem_cons_zero] at h
      rw [List.takeWhile_cons, h]
      rfl
    | succ k =>
      rw [List.takeWhile_cons, h1 x (by simp)]
      simp only [if_true, List.length_cons]
      rw [ih (by simpa using hk) (fun y hy => h1 y (by simp [hy])) (fun h => by have := h2 (by simpa using h); simpa using this)]

/-- With it, in its place. -/
noncomputable def putS (l : List ByteArray) (s : ByteArray) : List ByteArray := open Classical in if l[lowN l s]? = some s then l else l.take (lowN l s) ++ s :: l.drop (lowN l s)

theorem putS_there {l : List ByteArray} {s : ByteArray} {k : Nat} (h : lowN l s = k) (h1 : l[k]? = some s) : putS l s = l := by unfold putS; rw [h, if_pos h1]

theorem putS_new {l : List ByteArray} {s : ByteArray} {k : Nat} (h : lowN l s = k) (h1 : ¬ l[k]? = some s) : putS l s = l.take k ++ s :: l.drop k := by unfold putS; rw [h, if_neg h1]

theorem putS_len (l : List ByteArray) (s : ByteArray) : (putS l s).length ≤ l.length + 1 ∧ l.length ≤ (putS l s).length := by
  unfold putS
  split
  · omega
  · rw [List.length_append, List.length_cons, List.length_take, List.length_drop]
    omega

theorem putS_mem {l : List ByteArray} {s x : ByteArray} (h : x ∈ putS l s) : x ∈ l ∨ x = s := by
  unfold putS at h
  split at h
  · exact .inl h
  · rcases List.mem_append.1 h with h' | h'
    · exact .inl (List.mem_of_mem_take h')
    · rcases List.mem_cons.1 h' with h'' | h''
      · exact .inr h''
      · exact .inl (List.mem_of_mem_drop h'')

theorem infoS : (Tryz.prog.info? 9).map (fun i => (i.zero, i.size, i.bytes)) = some (some (.string ⟨#[]⟩), 1, 16) := by kernel_rfl

theorem keyV_app (l m : List ByteArray) : keyV (l ++ m) = keyV l ++ keyV m := by simp [keyV]

theorem sl_fromS (b o L cap k : Nat) (h : k ≤ L) (hL : L ≤ cap) (W : World) : (Instr.slice 24 (.slice (some ⟨b, o, none⟩) L cap) (some (.int .i64 k)) none none).run Tryz.prog W = .ok (.slice (some (if cap = k then ⟨b, o, none⟩ else ⟨b, o + k * 1, none⟩)) (L - k) (cap - k)) W := by
  have h' : (k : Int) ≤ L := by omega
  have h2 : (L : Int) ≤ cap := by omega
  go_simp
  by_cases e : cap = k <;> simp [e, Addr.add]

theorem sl_uptoS (b o L cap k : Nat) (h : k ≤ L) (hL : L ≤ cap) (W : World) : (Instr.slice 24 (.slice (some ⟨b, o, none⟩) L cap) none (some (.int .i64 k)) none).run Tryz.prog W = .ok (.slice (some ⟨b, o, none⟩) k cap) W := by
  have h' : (k : Int) ≤ L := by omega
  have h2 : (k : Int) ≤ cap := by omega
  have h3 : ¬ cap < k := by omega
  go_simp

set_option maxRecDepth 8000 in
set_option maxHeartbeats 4000000 in
theorem c_spec_l11Put (l : List ByteArray) (v : Value) (s : ByteArray) (w : World) (hR : Rd w 1 v l.length (keyV l)) (hn : l.length ≤ 100000) :
    Calls Tryz.prog 41 #[v, .string s] w fun e w' => ∃ v', e = .returned v' ∧ Rd w' 1 v' (putS l s).length (keyV (putS l s)) ∧ Below w.heap.size w w' := by
  obtain ⟨b, o, c, rfl, hb, hc, _⟩ := hR.at_
  obtain ⟨i0, hi, hz0, hz1, hz2⟩ := info_parts infoS
  have HI := hid (And.intro hi (And.intro hz0 (And.intro hz1 hz2)))
  have HR := hid hR
  clear hi hz0 hz1 hz2 hR hb
  obtain ⟨n, hnn⟩ : ∃ n, l.length = n := ⟨_, rfl⟩
  have HN := hid hnn
  rw [hnn] at hn hc HR ⊢
  clear hnn
  go_enter Tryz.func41, Tryz.ntmps41
  go_wp2_with fail
  go_loop [5] (fun x => ∃ k : Nat, x = .int .i64 (k : Int) ∧ k ≤ n ∧ Hid (∀ x ∈ l.take k, ltB x s = true)) (fun x => n - (intOf x).toNat)
  case atStart => exact ⟨0, rfl, Nat.zero_le _, fun x hx => absurd hx (by simp)⟩
  case round =>
    obtain ⟨k, rfl, hk, HA⟩ := hrel
    have hkn : (k : Int) ≤ (n : Int) := by omega
    by_cases hlt : k < n
    case neg =>
      have hkE : k = n := by omega
      have HPE := hid (putS_new (lowN_is (by rw [HN.out]; exact hk) HA.out (fun h => absurd h (by rw [HN.out]; exact hlt))) (show ¬ l[k]? = some s by rw [List.getElem?_eq_none (by rw [HN.out]; omega)]; exact fun h => by cases h))
      have hkl : ¬ (k : Int) < (n : Int) := by omega
      clear hkE
      have HRF := hid (HR.out.from hk)
      have HRU := hid (HR.out.upto hk)
      simp only [Nat.mul_one] at HRF HRU
      rw [show (keyV l).drop k = keyV (l.drop k) by simp [keyV]] at HRF
      rw [show (keyV l).take k = keyV (l.take k) by simp [keyV]] at HRU
      have hfr := sl_fromS b o n c k hk hc
      simp only [Nat.mul_one] at hfr
      have hup := sl_uptoS b o n c k hk hc
      generalize (if c = k then (⟨b, o, none⟩ : Addr) else ⟨b, o + k, none⟩) = A1 at *
      obtain ⟨hi, hz0, hz1, hz2⟩ := HI.out
      have HB1 := hid ((Below.refl w.heap.size w).alloc (Nat.le_refl _) (.cells #[] 9))
      have HO1 := hid (own_new w 9 1)
      have HF1 := hid (HRF.out.below HB1.out)
      go_wp2_with (at_builtin; refine wpL_own _ rfl _ _ _ rfl 9 i0 _ 1 16 Tryz.underlying24 hi hz0 hz1 hz2 rfl (by decide) w.heap.size w.heap.size 0 0 (n - k) [] (keyV (l.drop k)) _ rfl rfl HO1.out HF1.out (keyV_cell _) (by omega) (by omega) HB1.out.size (n - k) (by omega) (keyV (l.drop k)) rfl ?_)
      intro g2 c2 w2 ho2 hb2
      have HB2 := hid (HB1.out.trans hb2)
      have HRS := hid (Rd.own ho2)
      clear ho2 hb2 hfr HO1 HF1
      have HB3 := hid ((Below.refl w2.heap.size w2).alloc (Nat.le_refl _) (.cells #[] 9))
      have HO3 := hid (own_new w2 9 1)
      have HU3 := hid ((HRU.out.below HB2.out).below HB3.out)
      go_wp2_with (at_builtin; refine wpL_own _ rfl _ _ _ rfl 9 i0 _ 1 16 Tryz.underlying24 hi hz0 hz1 hz2 rfl (by decide) w2.heap.size w2.heap.size 0 0 k [] (keyV (l.take k)) _ rfl rfl HO3.out HU3.out (keyV_cell _) (by omega) (by omega) HB3.out.size k (by omega) (keyV (l.take k)) rfl ?_)
      intro g4 c4 w4 ho4 hb4
      have HB4 := hid (HB3.out.trans hb4)
      have HO4 := hid ho4
      clear ho4 hb4 hup HO3 HU3
      have HB5 := hid ((Below.refl w4.heap.size w4).alloc (Nat.le_refl _) (.cells #[.string s] 9))
      have HO5 := hid (ownsRow_below HO4.out HB5.out)
      have HN5 := hid (Rd.new w4 9 1 [.string s] 1 rfl)
      go_wp2_with (at_builtin; refine wpL_own _ rfl _ _ _ rfl 9 i0 _ 1 16 Tryz.underlying24 hi hz0 hz1 hz2 rfl (by decide) w2.heap.size g4 c4 k 1 (keyV (l.take k)) [.string s] _ rfl rfl HO5.out HN5.out (keyV_cell [s]) (by omega) (by omega) (Nat.le_trans HB4.out.size HB5.out.size) (k + 1) rfl (keyV (l.take k ++ [s])) (by rw [keyV_app]; rfl) ?_)
      intro g6 c6 w6 ho6 hb6
      have HB6 := hid ((HB4.out.trans (HB5.out.mono HB4.out.size)).trans hb6)
      have HO6 := hid ho6
      clear ho6 hb6 HO5 HN5 HO4
      have HR6 := hid (HRS.out.below HB6.out)
      go_wp2_with (at_builtin; refine wpL_own _ rfl _ _ _ rfl 9 i0 _ 1 16 Tryz.underlying24 hi hz0 hz1 hz2 rfl (by decide) w2.heap.size g6 c6 (k + 1) (n - k) (keyV (l.take k ++ [s])) (keyV (l.drop k)) _ rfl rfl HO6.out HR6.out (keyV_cell _) (by omega) (by omega) HB6.out.size (n + 1) (by omega) (keyV (l.take k ++ s :: l.drop k)) (by rw [← keyV_app, List.append_assoc]; rfl) ?_)
      intro g8 c8 w8 ho8 hb8
      have HB8 := hid (HB2.out.trans ((HB6.out.trans hb8).mono HB2.out.size))
      have HR8 := hid (Rd.own ho8)
      clear ho8 hb8
      have HLN := hid (show (l.take k ++ s :: l.drop k).length = n + 1 by
        rw [List.length_append, List.length_cons, List.length_take, List.length_drop, HN.out]
        omega)
      go_wp2_with fail
      go_ret
      exact ⟨_, rfl, by rw [HPE.out, HLN.out]; exact HR8.out, HB8.out⟩
    have hks : k < l.length := by rw [HN.out]; exact hlt
    have hkl : (k : Int) < (n : Int) := by omega
    obtain ⟨b', o', c', e', hb, _, hcell⟩ := HR.out.key hks
    obtain ⟨rfl, rfl⟩ : b = b' ∧ o = o' := by cases e'; exact ⟨rfl, rfl⟩
    clear e'
    cases hq : ltB l[k] s with
    | true =>
      have HA2 := hid (show ∀ x ∈ l.take (k + 1), ltB x s = true from fun x hx => by
        rw [take_snocN hks] at hx
        rcases List.mem_append.1 hx with h' | h'
        · exact HA.out x h'
        · rw [List.mem_singleton.1 h']; exact hq)
      unfold ltB at hq
      generalize l[k] = y at *
      go_wp2_with fail
      go_round
      case rel => exact ⟨k + 1, by go_num, by omega, HA2.out⟩
      case measure => simp [intOf]; omega
    | false =>
      have HLW := hid (lowN_is (by rw [HN.out]; exact hk) HA.out (fun h => hq))
      have HLG := hid (List.getElem?_eq_getElem hks)
      unfold ltB at hq
      cases hqe : (l[k].toList == s.toList) with
      | true =>
        have hes : l[k] = s := by
          rw [str_beq] at hqe
          simpa using hqe
        have HPE := hid (putS_there HLW.out (show l[k]? = some s by rw [HLG.out, hes]))
        clear hes
        generalize l[k] = y at *
        go_wp2_with fail
        go_ret
        exact ⟨_, rfl, by rw [HPE.out, HN.out]; exact HR.out, Below.refl _ _⟩
      | false =>
        have HPE := hid (putS_new HLW.out (show ¬ l[k]? = some s by
          rw [HLG.out]
          intro h
          have := Option.some.inj h
          rw [this, str_beq] at hqe
          simp at hqe))
        generalize l[k] = y at *
        have HRF := hid (HR.out.from hk)
        have HRU := hid (HR.out.upto hk)
        simp only [Nat.mul_one] at HRF HRU
        rw [show (keyV l).drop k = keyV (l.drop k) by simp [keyV]] at HRF
        rw [show (keyV l).take k = keyV (l.take k) by simp [keyV]] at HRU
        have hfr := sl_fromS b o n c k hk hc
        simp only [Nat.mul_one] at hfr
        have hup := sl_uptoS b o n c k hk hc
        generalize (if c = k then (⟨b, o, none⟩ : Addr) else ⟨b, o + k, none⟩) = A1 at *
        obtain ⟨hi, hz0, hz1, hz2⟩ := HI.out
        have HB1 := hid ((Below.refl w.heap.size w).alloc (Nat.le_refl _) (.cells #[] 9))
        have HO1 := hid (own_new w 9 1)
        have HF1 := hid (HRF.out.below HB1.out)
        go_wp2_with (at_builtin; refine wpL_own _ rfl _ _ _ rfl 9 i0 _ 1 16 Tryz.underlying24 hi hz0 hz1 hz2 rfl (by decide) w.heap.size w.heap.size 0 0 (n - k) [] (keyV (l.drop k)) _ rfl rfl HO1.out HF1.out (keyV_cell _) (by omega) (by omega) HB1.out.size (n - k) (by omega) (keyV (l.drop k)) rfl ?_)
        intro g2 c2 w2 ho2 hb2
        have HB2 := hid (HB1.out.trans hb2)
        have HRS := hid (Rd.own ho2)
        clear ho2 hb2 hfr HO1 HF1
        have HB3 := hid ((Below.refl w2.heap.size w2).alloc (Nat.le_refl _) (.cells #[] 9))
        have HO3 := hid (own_new w2 9 1)
        have HU3 := hid ((HRU.out.below HB2.out).below HB3.out)
        go_wp2_with (at_builtin; refine wpL_own _ rfl _ _ _ rfl 9 i0 _ 1 16 Tryz.underlying24 hi hz0 hz1 hz2 rfl (by decide) w2.heap.size w2.heap.size 0 0 k [] (keyV (l.take k)) _ rfl rfl HO3.out HU3.out (keyV_cell _) (by omega) (by omega) HB3.out.size k (by omega) (keyV (l.take k)) rfl ?_)
        intro g4 c4 w4 ho4 hb4
        have HB4 := hid (HB3.out.trans hb4)
        have HO4 := hid ho4
        clear ho4 hb4 hup HO3 HU3
        have HB5 := hid ((Below.refl w4.heap.size w4).alloc (Nat.le_refl _) (.cells #[.string s] 9))
        have HO5 := hid (ownsRow_below HO4.out HB5.out)
        have HN5 := hid (Rd.new w4 9 1 [.string s] 1 rfl)
        go_wp2_with (at_builtin; refine wpL_own _ rfl _ _ _ rfl 9 i0 _ 1 16 Tryz.underlying24 hi hz0 hz1 hz2 rfl (by decide) w2.heap.size g4 c4 k 1 (keyV (l.take k)) [.string s] _ rfl rfl HO5.out HN5.out (keyV_cell [s]) (by omega) (by omega) (Nat.le_trans HB4.out.size HB5.out.size) (k + 1) rfl (keyV (l.take k ++ [s])) (by rw [keyV_app]; rfl) ?_)
        intro g6 c6 w6 ho6 hb6
        have HB6 := hid ((HB4.out.trans (HB5.out.mono HB4.out.size)).trans hb6)
        have HO6 := hid ho6
        clear ho6 hb6 HO5 HN5 HO4
        have HR6 := hid (HRS.out.below HB6.out)
        go_wp2_with (at_builtin; refine wpL_own _ rfl _ _ _ rfl 9 i0 _ 1 16 Tryz.underlying24 hi hz0 hz1 hz2 rfl (by decide) w2.heap.size g6 c6 (k + 1) (n - k) (keyV (l.take k ++ [s])) (keyV (l.drop k)) _ rfl rfl HO6.out HR6.out (keyV_cell _) (by omega) (by omega) HB6.out.size (n + 1) (by omega) (keyV (l.take k ++ s :: l.drop k)) (by rw [← keyV_app, List.append_assoc]; rfl) ?_)
        intro g8 c8 w8 ho8 hb8
        have HB8 := hid (HB2.out.trans ((HB6.out.trans hb8).mono HB2.out.size))
        have HR8 := hid (Rd.own ho8)
        clear ho8 hb8
        have HLN := hid (show (l.take k ++ s :: l.drop k).length = n + 1 by
          rw [List.length_append, List.length_cons, List.length_take, List.length_drop, HN.out]
          omega)
        go_wp2_with fail
        go_ret
        exact ⟨_, rfl, by rw [HPE.out, HLN.out]; exact HR8.out, HB8.out⟩

end Go.Proofs.YtkejmifkjgpdjaaGreat

namespace Go.Proofs.YtkejmifkjgpdjaaGreat
open Go.RowKit
set_option linter.unusedVariables false
set_option linter.unusedSimpArgs false

/-- What the last of these says of it. -/
noncomputable def lastF (l : List At) (p : ByteArray) : Option ByteArray := open Classical in (l.reverse.find? fun x => decide (x.name = p)).map (·.value)

theorem last_hit {l : List At} {p : ByteArray} {i : Nat} (h : i < l.length) (h1 : l[i].name = p) (h2 : ∀ x ∈ l.drop (i + 1), ¬ x.name = p) : lastF l p = some l[i].value := by
  unfold lastF
  have e : l.reverse = (l.drop (i + 1)).reverse ++ (l[i] :: (l.take i).reverse) := by
    conv => lhs; rw [← List.take_append_drop i l, List.drop_eq_getElem_cons h]
    rw [List.reverse_append, List.reverse_cons, List.append_assoc]
    rfl
  rw [e, List.find?_append]
  have e2 : (l.drop (i + 1)).reverse.find? (fun x => decide (x.name = p)) = none := by
    rw [List.find?_eq_none]
    intro x hx
    rw [List.mem_reverse] at hx
    simp [h2 x hx]
  rw [e2, List.find?_cons]
  simp [h1]

theorem last_none {l : List At} {p : ByteArray} (h : ∀ x ∈ l, ¬ x.name = p) : lastF l p = none := by
  unfold lastF
  rw [show l.reverse.find? (fun x => decide (x.name = p)) = none by
    rw [List.find?_eq_none]
    intro x hx
    rw [List.mem_reverse] at hx
    simp [h x hx]]
  rfl

set_option maxRecDepth 4000 in
set_option maxHeartbeats 2000000 in
theorem c_spec_l11Last (a : Option Addr) (cap : Nat) (l : List At) (p : ByteArray) (w : World) (hR : AtRow w a l) (hn : l.length ≤ 1048576) :
    Calls Tryz.prog 43 #[.slice a l.length cap, .string p] w fun e w' => e = .returned (.tuple #[.string ((lastF l p).getD ⟨#[]⟩), .bool (lastF l p).isSome]) ∧ Below w.heap.size w w' := by
  obtain ⟨V, hV⟩ : ∃ V, lastF l p = V := ⟨_, rfl⟩
  have HV := hid hV
  rw [hV]
  clear hV
  have HR := hid hR
  clear hR
  obtain ⟨n, hnn⟩ : ∃ n, l.length = n := ⟨_, rfl⟩
  have HN := hid hnn
  rw [hnn] at hn ⊢
  clear hnn
  go_enter Tryz.func43, Tryz.ntmps43
  go_wp2_with fail
  go_loopw [6] (fun k wr => ∃ i : Nat, k = .int .i64 ((i : Int) - 1) ∧ i ≤ n ∧ Hid (∀ x ∈ l.drop i, ¬ x.name = p) ∧ Hid (Below w.heap.size w wr)) (fun k _ => (intOf k + 1).toNat)
  case atStart => exact ⟨n, rfl, Nat.le_refl _, by show ∀ x ∈ _, _; rw [List.drop_of_length_le (by rw [HN.out]; exact Nat.le_refl _)]; exact fun x hx => absurd hx List.not_mem_nil, Below.refl _ _⟩
  case round =>
    obtain ⟨i, rfl, hi, HO, HB⟩ := hrel
    cases i with
    | zero =>
      have HF := hid (show V = none by rw [← HV.out]; exact last_none HO.out)
      have e0 : ((0 : Nat) : Int) - 1 = -1 := rfl
      rw [e0]
      go_wp2_with fail
      go_ret2
      exact ⟨by rw [HF.out]; rfl, HB.out⟩
    | succ i =>
      have e0 : ((i + 1 : Nat) : Int) - 1 = (i : Int) := by omega
      rw [e0]
      have his : i < l.length := by rw [HN.out]; exact hi
      have hin : (i : Int) < (n : Int) := by omega
      have hi0 : (0 : Int) ≤ (i : Int) := by omega
      obtain ⟨b, o, rfl, hb, c1, c2⟩ := HR.out.below HB.out i his
      have HIT := hid (show l[i].name = p → V = some l[i].value from fun h => by rw [← HV.out]; exact last_hit his h HO.out)
      have HNX := hid (show ¬ l[i].name = p → ∀ x ∈ l.drop i, ¬ x.name = p from fun h x hx => by
        rw [List.drop_eq_getElem_cons his] at hx
        rcases List.mem_cons.1 hx with rfl | h'
        · exact h
        · exact HO.out x h')
      have hd := str_beq l[i].name p
      obtain ⟨X, hX⟩ : ∃ X, l[i].name = X := ⟨_, rfl⟩
      obtain ⟨Y, hY⟩ : ∃ Y, l[i].value = Y := ⟨_, rfl⟩
      rw [hX] at c1 hd HIT HNX
      rw [hY] at c2 HIT
      clear hX hY
      by_cases hq : X = p
      · have HF := hid (HIT.out hq)
        rw [decide_eq_true hq] at hd
        clear hq HIT HNX
        go_wp2_with fail
        go_ret2
        exact ⟨by rw [HF.out]; rfl, HB.out⟩
      · have HN2 := hid (HNX.out hq)
        rw [decide_eq_false hq] at hd
        clear hq HIT HNX
        go_wp2_with fail
        go_roundw
        case rel => exact ⟨i, by go_num, by omega, HN2.out, HB.out⟩
        case measure => simp [intOf]

end Go.Proofs.YtkejmifkjgpdjaaGreat
