/- Contracts of the draws of a great number below another; the bytes that a draw is made of. The law FnCanon, walked. -/
import Derived.Test.YteninofjeidljaaGreatRows
import Derived.Test.YteninofjeidljaaGreatM1
import Derived.Test.YteninofjeidljaaGreatM34
import Derived.Test.YteninofjeidljaaGreatM32
import Derived.Test.YteninofjeidljaaGreatM37
import Derived.OpenShut
import Derived.WalkKit
import Derived.Deep.CutRange
namespace Go.Proofs.YteninofjeidljaaGreat

open Go.RowKit

set_option linter.unusedVariables false

set_option linter.unusedSimpArgs false

theorem code_of {w : World} {a : Option Addr} {len cap : Nat} {zs : List Int}
    (h : (a = none ∧ len = 0 ∧ cap = 0 ∧ zs = []) ∨ ∃ x, a = some x ∧ len ≤ cap ∧ cap ≤ maxLen ∧ zs.length = cap ∧ (∀ i, i < zs.length → w.cell? (x.add i) = some (.int .u8 (zs.getD i 0))) ∧ ∀ n ∈ zs, (Lit.int .u8 n).wf = true) : CodeRow w a len := by
  rcases h with ⟨_, h, _⟩ | ⟨x, rfl, hl, _, hz, hc, _⟩
  · exact .inl h
  · by_cases h0 : len = 0
    · exact .inl h0
    · obtain ⟨cb, co, rfl, hcells⟩ := ints_at hc (by omega)
      refine .inr ⟨cb, co, fun j => zs.getD j 0, rfl, ?_, fun j hj => hcells j (by omega)⟩
      have h1 := hcells 0 (by omega)
      rcases Nat.lt_or_ge cb w.heap.size with h' | h'
      · exact h'
      · simp [World.cell?, Array.getElem?_eq_none h'] at h1

theorem code_below {w w2 : World} {a : Option Addr} {len : Nat} (h : CodeRow w a len) (hb : Below w.heap.size w w2) : CodeRow w2 a len := by
  rcases h with h | ⟨cb, co, z, h1, h2, h3⟩
  · exact .inl h
  · exact .inr ⟨cb, co, z, h1, Nat.lt_of_lt_of_le h2 hb.size, fun j hj => (hb.cell (p := ⟨cb, co + j, none⟩) h2).trans (h3 j hj)⟩

theorem cBig_no (a : Option Addr) (len cap : Nat) (w : World) (h : len ≤ 4096) : Calls Tryz.prog 5 #[.slice a len cap] w fun e w' => e = .returned (.bool false) ∧ w' = w := by
  have h1 : decide ((4096 : Int) < (len : Int)) = false := by simp; omega
  go_enter Tryz.func5, Tryz.ntmps5
  go_wp2
  go_ret
  exact ⟨rfl, rfl⟩

theorem cBig_yes (a : Option Addr) (len cap : Nat) (w : World) (h : ¬ len ≤ 4096) : Calls Tryz.prog 5 #[.slice a len cap] w fun e w' => e = .returned (.bool true) ∧ w' = w := by
  have h1 : decide ((4096 : Int) < (len : Int)) = true := by simp; omega
  go_enter Tryz.func5, Tryz.ntmps5
  go_wp2
  go_ret
  exact ⟨rfl, rfl⟩

end Go.Proofs.YteninofjeidljaaGreat

namespace Go.Proofs.YteninofjeidljaaGreat

open Go.RowKit

set_option linter.unusedVariables false

set_option linter.unusedSimpArgs false

theorem sz_bigF {ts : List Tk} (h : TksSz 30 ts) : TksSz 1048576 ts := fun t ht => by
  obtain ⟨h1, h2, h3, h4⟩ := h t ht
  exact ⟨by omega, by omega, fun x hx => ⟨by have := (h3 x hx).1; omega, by have := (h3 x hx).2; omega⟩, by omega⟩

theorem canonI_small {ts : List Tk} (hz : TksSz 1048576 ts) (x y : Int) : (canonI ts x y).size ≤ maxLen := by
  unfold maxLen
  cases h : canB ts x y with
  | false => rw [canonI_no h]; exact Nat.zero_le _
  | true =>
    obtain ⟨hN, ⟨k, rfl, hk, he⟩, _, _⟩ := canB_parts h
    rw [canonI_yes h]
    have := canon_small hN.1 hz y ts.length k [] hk
    exact Nat.le_trans this (by decide)

/-- When it can't be written. -/
theorem canB_not {ts : List Tk} {x y : Int} (h : namesB ts = false ∨ x < 0 ∨ (ts.length : Int) ≤ x ∨ (∃ k : Nat, x = (k : Int) ∧ k < ts.length ∧ (nameI ts k).size = 0) ∨ (ts.length : Int) ≤ y ∨ y = x) : canB ts x y = false := by
  cases q : canB ts x y with
  | false => rfl
  | true =>
    obtain ⟨hN, ⟨k, rfl, hk, he⟩, hy, hne⟩ := canB_parts q
    rcases h with h | h | h | ⟨k', h, hk', h0⟩ | h | h
    · rw [namesB_t hN] at h; cases h
    · omega
    · omega
    · have : k' = k := by omega
      subst this
      rw [nameI_at hk] at h0
      exact absurd h0 he.2
    · omega
    · exact absurd h hne

theorem canB_yes {ts : List Tk} {k : Nat} {y : Int} (h1 : namesB ts = true) (hk : k < ts.length) (h2 : ¬ (nameI ts k).size = 0) (h3 : -1 ≤ y) (h4 : ¬ (ts.length : Int) ≤ y) (h5 : ¬ y = (k : Int)) : canB ts (k : Int) y = true := by
  have hN : NamesP ts := by
    by_cases q : NamesP ts
    · exact q
    · rw [namesB_f q] at h1; cases h1
  rw [nameI_at hk] at h2
  exact canB_mk hN ⟨hk, h2⟩ ⟨h3, by omega⟩ h5

set_option maxRecDepth 8000 in
set_option maxHeartbeats 16000000 in
theorem law_canon (a : Option Addr) (len cap : Nat) (w : World) (hcr : CodeRow w a len) :
    Calls Tryz.prog 4 #[.slice a len cap] w fun e w' => e = .returned (.bool true) ∧ Below w.heap.size w w' := by
  by_cases hl : len ≤ 4096
  case neg =>
    have CB := hid (fun wx => cBig_yes a len cap wx hl)
    clear hcr
    go_enter Tryz.func4, Tryz.ntmps4
    go_wp2_with fail
    refine (CB.out _).mono ?_
    rintro e w1 ⟨rfl, rfl⟩
    go_wp2_with fail
    go_ret
    exact ⟨rfl, Below.refl _ _⟩
  have CB := hid (fun wx => cBig_no a len cap wx hl)
  have HCR := hid hcr
  clear hcr
  go_enter Tryz.func4, Tryz.ntmps4
  go_wp2_with fail
  refine (CB.out _).mono ?_
  rintro e w1 ⟨rfl, rfl⟩
  clear CB
  go_wp2_with fail
  refine (cDrawCanon a len cap _ hl HCR.out).mono ?_
  rintro e w2 ⟨a2, c2, ts, x, y, rfl, hr2, hn2, hz2, ⟨hx1, hx2⟩, ⟨hy1, hy2⟩, ⟨hc2, hc2m⟩, hb2⟩
  have hzb := sz_bigF hz2
  have CI := hid (fun wx (h : TkRow wx a2 ts) => cCanonJ a2 c2 ts x y wx h (by omega) hzb)
  have CS := hid (fun wx (h : TkRow wx a2 ts) => cCanonS a2 c2 ts x y wx h (by omega) hzb)
  have CN := hid (fun wx (h : TkRow wx a2 ts) => cNamesOkS a2 c2 ts wx h (by omega) hzb)
  have CE := hid (fun wx (h : TkRow wx a2 ts) => cEndOfS a2 c2 ts x wx h (by omega) hzb)
  have CP := hid (fun wx (h : TkRow wx a2 ts) => cPrunedS a2 c2 ts y wx h hc2 hc2m (by omega) hzb)
  have CR := hid (fun wx => cReadTreeS (canonI ts x y) wx (canonI_small hzb x y))
  have HNO := hid (fun h : canB ts x y = false => canonI_no h)
  have HKN := hid (fun h => canB_not (ts := ts) (x := x) (y := y) h)
  have HKY := hid (fun (k : Nat) (h : x = (k : Int)) (h1 : namesB ts = true) (hk : k < ts.length) (h2 : ¬ (nameI ts k).size = 0) (h4 : ¬ (ts.length : Int) ≤ y) (h5 : ¬ y = x) => show canB ts x y = true from by subst h; exact canB_yes h1 hk h2 hy1 h4 h5)
  have HYES := hid (fun h : canB ts x y = true => And.intro (canB_parts h) (canon_law h (fun t ht => (hz2 t ht).2.2.2)))
  have HNM := hid (fun (k : Nat) (hk : k < ts.length) wx (h : TkRow wx a2 ts) => name_row h hk)
  have hlen : (0 : Int) ≤ (ts.length : Int) ∧ (ts.length : Int) ≤ 11 := by omega
  obtain ⟨V, hV⟩ : ∃ V, canonI ts x y = V := ⟨_, rfl⟩
  rw [hV] at CI CS CR HNO HYES
  have hVV : (V.toList != V.toList) = false := by simp
  have EV := empty_is V
  have HR2 := hid hr2
  have HB2 := hid hb2
  have HCR2 := hid (code_below HCR.out hb2)
  obtain ⟨n, hnn⟩ : ∃ n, ts.length = n := ⟨_, rfl⟩
  have HN := hid hnn
  rw [hnn] at CI CS CN CE CP HNM hlen HKN HKY ⊢
  clear hr2 hn2 hz2 hc2 hc2m hb2 hV hnn hzb HCR
  go_wp2_with fail
  refine (CI.out _ HR2.out).mono ?_
  rintro e w3 ⟨rfl, hb3⟩
  have HR3 := hid (HR2.out.below hb3)
  have HB3 := hid (bb HB2.out hb3)
  have HCR3 := hid (code_below HCR2.out hb3)
  clear hb3 HR2 HB2 HCR2 CI
  go_wp2_with fail
  refine (cDrawCanonAllY a len cap _ hl HCR3.out).mono ?_
  rintro e w4 ⟨a4, c4, us, rfl, hr4, hn4, hz4, hb4⟩
  have hzu := sz_bigF hz4
  have CAI := hid (fun wx (h : TkRow wx a4 us) => cCanonAllJ a4 c4 us wx h (by omega) hzu)
  have CAS := hid (fun wx (h : TkRow wx a4 us) => cCanonAllS a4 c4 us wx h (by omega) hzu)
  have HR4 := hid (HR3.out.below hb4)
  have HU4 := hid hr4
  have HB4 := hid (bb HB3.out hb4)
  obtain ⟨U, hU⟩ : ∃ U, canonI us 0 (-1) = U := ⟨_, rfl⟩
  rw [hU] at CAI CAS
  have hUU : (U.toList != U.toList) = false := by simp
  clear hr4 hn4 hz4 hb4 hzu hU HR3 HB3 HCR3
  generalize us.length = m at *
  go_wp2_with fail
  refine (CS.out _ HR4.out).mono ?_
  rintro e w5 ⟨rfl, hb5⟩
  have HR5 := hid (HR4.out.below hb5)
  have HU5 := hid (HU4.out.below hb5)
  have HB5 := hid (bb HB4.out hb5)
  clear hb5 HR4 HU4 HB4 CS
  go_wp2_with fail
  refine (CAI.out _ HU5.out).mono ?_
  rintro e w6 ⟨rfl, hb6⟩
  have HR6 := hid (HR5.out.below hb6)
  have HU6 := hid (HU5.out.below hb6)
  have HB6 := hid (bb HB5.out hb6)
  clear hb6 HR5 HU5 HB5 CAI
  go_wp2_with fail
  refine (CAS.out _ HU6.out).mono ?_
  rintro e w7 ⟨rfl, hb7⟩
  have HR7 := hid (HR6.out.below hb7)
  have HB7 := hid (bb HB6.out hb7)
  clear hb7 HR6 HU6 HB6 CAS hUU
  go_upto_region 8 with fail
  obtain ⟨K, hK⟩ : ∃ K, canB ts x y = K := ⟨_, rfl⟩
  rw [hK] at HNO HYES HKN HKY
  clear hK
  have hy0 : decide (y < -1) = false := by simp; omega
  obtain ⟨B1, hB1⟩ : ∃ B1, namesB ts = B1 := ⟨_, rfl⟩
  rw [hB1] at CN HKN HKY
  clear hB1
  go_cut [74] from 39 to 74 (fun v wv => v = .bool (!K) ∧ Hid (TkRow wv a2 ts ∧ Below w1.heap.size w1 wv))
  case first =>
    clear CE CP CR HNO HYES EV hVV
    cases B1 with
    | false =>
      have hK := HKN.out (.inl rfl)
      subst hK
      clear HKN HKY HNM
      go_wp2_with fail
      refine (CN.out _ HR7.out).mono ?_
      rintro e w8 ⟨rfl, hb8⟩
      have H8 := hid (And.intro (HR7.out.below hb8) (bb HB7.out hb8))
      clear hb8
      go_wp2_with fail
      go_meet
      exact ⟨rfl, H8.out⟩
    | true =>
      go_wp2_with fail
      refine (CN.out _ HR7.out).mono ?_
      rintro e w8 ⟨rfl, hb8⟩
      have HR8 := hid (HR7.out.below hb8)
      have H8 := hid (And.intro (HR7.out.below hb8) (bb HB7.out hb8))
      clear hb8 CN HR7 HB7
      by_cases h1 : x < 0
      · have hK := HKN.out (.inr (.inl h1))
        subst hK
        have d1 : decide (x < 0) = true := decide_eq_true h1
        clear HKN HKY HNM h1
        go_wp2_with fail
        go_meet
        exact ⟨rfl, H8.out⟩
      have d1 : decide (x < 0) = false := decide_eq_false h1
      by_cases h2 : (n : Int) ≤ x
      · have hK := HKN.out (.inr (.inr (.inl h2)))
        subst hK
        have d2 : decide ((n : Int) ≤ x) = true := decide_eq_true h2
        clear HKN HKY HNM h1 h2
        go_wp2_with fail
        go_meet
        exact ⟨rfl, H8.out⟩
      have d2 : decide ((n : Int) ≤ x) = false := decide_eq_false h2
      obtain ⟨k, rfl⟩ : ∃ k : Nat, x = (k : Int) := ⟨x.toNat, by omega⟩
      have hk : k < n := by omega
      have hkn : (k : Int) < (n : Int) := by omega
      obtain ⟨b, o, rfl, c1⟩ := HNM.out k hk _ HR8.out
      have E := empty_is (nameI ts k)
      by_cases h3 : (nameI ts k).size = 0
      · have hK := HKN.out (.inr (.inr (.inr (.inl ⟨k, rfl, hk, h3⟩))))
        subst hK
        rw [decide_eq_true h3] at E
        clear HKN HKY HNM h1 h2 h3 d1 d2
        have d1 : decide ((k : Int) < 0) = false := by simp
        have d2 : decide ((n : Int) ≤ (k : Int)) = false := by simp; omega
        generalize nameI ts k = NM at *
        go_wp2_with fail
        go_meet
        exact ⟨rfl, H8.out⟩
      rw [decide_eq_false h3] at E
      by_cases h4 : (n : Int) ≤ y
      · have hK := HKN.out (.inr (.inr (.inr (.inr (.inl h4)))))
        subst hK
        have d4 : decide ((n : Int) ≤ y) = true := decide_eq_true h4
        clear HKN HKY HNM h1 h2 h3 h4
        generalize nameI ts k = NM at *
        go_wp2_with fail
        go_meet
        exact ⟨rfl, H8.out⟩
      have d4 : decide ((n : Int) ≤ y) = false := decide_eq_false h4
      by_cases h5 : y = (k : Int)
      · have hK := HKN.out (.inr (.inr (.inr (.inr (.inr h5)))))
        subst hK
        subst h5
        have d5 : ((k : Int) == (k : Int)) = true := by simp
        clear HKN HKY HNM h1 h2 h3 h4
        generalize nameI ts k = NM at *
        go_wp2_with fail
        go_meet
        exact ⟨rfl, H8.out⟩
      · have hK := HKY.out k rfl (by trivial) hk h3 (by omega) h5
        subst hK
        have d5 : (y == (k : Int)) = false := by simp; exact h5
        have d2n : decide (n ≤ k) = false := by simp; exact hk
        clear HKN HKY HNM h1 h2 h3 h4 h5
        generalize nameI ts k = NM at *
        go_wp2_with fail
        go_meet
        exact ⟨rfl, H8.out⟩
  obtain ⟨rfl, HS8⟩ := hcut
  clear CN HKN HKY HNM HR7 HB7 hVV
  cases K with
  | false =>
    have hE := HNO.out rfl
    rw [hE] at EV ⊢
    clear CE CP CR HNO HYES hE
    go_wp2_with fail
    go_ret
    exact ⟨rfl, HS8.out.2⟩
  | true =>
    obtain ⟨⟨hN, ⟨k, rfl, hk, he⟩, hy, hne⟩, hV0, hRD, hPR⟩ := HYES.out rfl
    rw [decide_eq_false hV0] at EV
    have HPR := hid hPR
    have HRD := hid hRD
    clear HNO HYES hN hk he hy hne hPR hRD hV0
    go_wp2_with fail
    refine (CR.out _).mono ?_
    rintro e w9 ⟨a9, c9, xs, bq, rfl, hr9, hb9, hno, hyes⟩
    have HX9 := hid hr9
    have HR9 := hid (HS8.out.1.below hb9)
    have HB9 := hid (bb HS8.out.2 hb9)
    rcases HRD.out with hq | ⟨l, vs, q1, q2, q3, q4⟩
    · have hbf := hno hq
      subst hbf
      clear hno hyes hq hr9 hb9 HRD HPR CE CP CR HS8
      generalize xs.length = nx at *
      go_wp2_with fail
      go_ret
      exact ⟨rfl, HB9.out⟩
    · obtain ⟨e1, e2⟩ := hyes l q1
      rw [q2] at e1 e2
      replace e1 : bq = true := e1
      replace e2 : xs = vs := e2
      subst e1
      subst e2
      have hnx : xs.length ≤ 1048576 := by have := q3.1.2.1; omega
      have CNX := hid (fun wx (h : TkRow wx a9 xs) => cNamesOkS a9 c9 xs wx h hnx (tree_small q3.1))
      rw [namesB_t q3] at CNX
      have CAX := hid (fun wx (h : TkRow wx a9 xs) => cCanonAllJ a9 c9 xs wx h hnx (tree_small q3.1))
      rw [q4] at CAX
      have hVV : (V.toList == V.toList) = true := by simp
      have hVN : (V.toList != V.toList) = false := by simp
      clear hno hyes q1 q2 q3 q4 hr9 hb9 HRD CR HS8 EV hnx
      obtain ⟨nx, hnx⟩ : ∃ nx, xs.length = nx := ⟨_, rfl⟩
      rw [hnx] at CNX CAX ⊢
      clear hnx
      obtain ⟨EN, hEN⟩ : ∃ EN, endI ts (k : Int) = EN := ⟨_, rfl⟩
      rw [hEN] at CE HPR
      clear hEN
      by_cases h1 : (k : Int) < y
      · have d1 : decide ((k : Int) < y) = true := decide_eq_true h1
        go_wp2_with fail
        refine (CE.out _ HR9.out).mono ?_
        rintro e w10 ⟨rfl, hb10⟩
        have HR10 := hid (HR9.out.below hb10)
        have HX10 := hid (HX9.out.below hb10)
        have HB10 := hid (bb HB9.out hb10)
        clear hb10 HR9 HX9 HB9 CE
        by_cases h2 : y < EN
        · have d2 : decide (y < EN) = true := decide_eq_true h2
          obtain ⟨hpb, hpc, hpz, hpn⟩ := HPR.out h1 h2
          rw [hpb] at CP
          have CC := hid (fun (ap : Option Addr) (cp : Nat) wx (h : TkRow wx ap (pruneT ts y)) => cCanonJ ap cp (pruneT ts y) (k : Int) (-1) wx h (by omega) hpz)
          rw [hpc] at CC
          clear hpb hpc hpz hpn h1 h2 HPR
          go_wp2_with fail
          refine (CP.out _ HR10.out).mono ?_
          rintro e w11 ⟨v11, rfl, hrow⟩
          obtain ⟨a11, c11, rfl, ht11⟩ := hrow.tk
          have HT11 := hid ht11
          have HX11 := hid (HX10.out.below hrow.bel)
          have HB11 := hid (bb HB10.out hrow.bel)
          have CC1 := hid (CC.out a11 c11 _ ht11)
          clear ht11 hrow CP HR10 HX10 HB10 CC
          generalize (pruneT ts y).length = np at *
          go_wp2_with fail
          refine CC1.out.mono ?_
          rintro e w12 ⟨rfl, hb12⟩
          have HX12 := hid (HX11.out.below hb12)
          have HB12 := hid (bb HB11.out hb12)
          clear hb12 HX11 HB11 CC1 HT11
          go_wp2_with fail
          refine (CNX.out _ HX12.out).mono ?_
          rintro e z1 ⟨rfl, hz1⟩
          have Z1 := hid (HX12.out.below hz1)
          have ZB1 := hid (bb HB12.out hz1)
          clear hz1
          go_wp2_with fail
          refine (CAX.out _ Z1.out).mono ?_
          rintro e z2 ⟨rfl, hz2⟩
          have ZB2 := hid (bb ZB1.out hz2)
          clear hz2
          go_wp2_with fail
          go_ret
          exact ⟨rfl, ZB2.out⟩
        · have d2 : decide (y < EN) = false := decide_eq_false h2
          clear h1 h2 HPR CP
          go_wp2_with fail
          refine (CNX.out _ HX10.out).mono ?_
          rintro e z1 ⟨rfl, hz1⟩
          have Z1 := hid (HX10.out.below hz1)
          have ZB1 := hid (bb HB10.out hz1)
          clear hz1
          go_wp2_with fail
          refine (CAX.out _ Z1.out).mono ?_
          rintro e z2 ⟨rfl, hz2⟩
          have ZB2 := hid (bb ZB1.out hz2)
          clear hz2
          go_wp2_with fail
          go_ret
          exact ⟨rfl, ZB2.out⟩
      · have d1 : decide ((k : Int) < y) = false := decide_eq_false h1
        clear h1 HPR CP CE
        go_wp2_with fail
        refine (CNX.out _ HX9.out).mono ?_
        rintro e z1 ⟨rfl, hz1⟩
        have Z1 := hid (HX9.out.below hz1)
        have ZB1 := hid (bb HB9.out hz1)
        clear hz1
        go_wp2_with fail
        refine (CAX.out _ Z1.out).mono ?_
        rintro e z2 ⟨rfl, hz2⟩
        have ZB2 := hid (bb ZB1.out hz2)
        clear hz2
        go_wp2_with fail
        go_ret
        exact ⟨rfl, ZB2.out⟩

end Go.Proofs.YteninofjeidljaaGreat
