/- Contract of what the specification asks for a node's depth. Contract of TreeOk of the specification. -/
import Derived.Test.YtcjeodgfpnecgaaM11
import Derived.Deep.CutRange
namespace Go.Proofs.Ytcjeodgfpnecgaa
open Go.RowKit
set_option linter.unusedVariables false
set_option linter.unusedSimpArgs false

/-- The chain from its m-th member on. -/
theorem linked_from {ts : List Tk} : ∀ {c : List Nat}, Linked ts c → ∀ m (h : m < c.length), (parI ts 0 = -1 → parI ts c[m] = (if h' : m + 1 < c.length then (c[m + 1] : Int) else -1)) ∧ (c[m] = 0 ↔ m + 1 = c.length)
  | [], h, m, hm => absurd hm (by simp)
  | [x], h, m, hm => by
    have h0 : x = 0 := h
    subst h0
    have : m = 0 := by simpa using hm
    subst this
    exact ⟨fun e => by simpa using e, by simp⟩
  | x :: y :: r, h, 0, hm => by
    refine ⟨fun e => ?_, ?_⟩
    · simp [h.1]
    · have := h.2.1
      constructor
      · intro e
        have e : x = 0 := e
        omega
      · intro e
        simp at e
  | x :: y :: r, h, m + 1, hm => by
    have hm' : m < (y :: r).length := by simpa using hm
    obtain ⟨h1, h2⟩ := linked_from h.tail m hm'
    refine ⟨fun e => ?_, ?_⟩
    · have := h1 e
      simp only [List.getElem_cons_succ, List.length_cons] at this ⊢
      rw [this]
      by_cases q : m + 1 < r.length + 1
      · rw [dif_pos q, dif_pos (by omega)]
      · rw [dif_neg q, dif_neg (by omega)]
    · simp only [List.getElem_cons_succ, List.length_cons] at h2 ⊢
      omega

theorem Linked.len {ts : List Tk} : ∀ {c : List Nat} {x : Nat}, Linked ts (x :: c) → (x :: c).length ≤ x + 1
  | [], x, h => by simp
  | y :: r, x, h => by
    have h1 := Linked.len (ts := ts) h.tail
    have := h.2.1
    simp only [List.length_cons] at h1 ⊢
    omega

theorem linked_lt {ts : List Tk} : ∀ {c : List Nat}, Linked ts c → ∀ m (h : m + 1 < c.length), c[m + 1] < c[m]
  | [], h, m, hm => absurd hm (by simp)
  | [x], h, m, hm => absurd hm (by simp)
  | x :: y :: r, h, 0, hm => h.2.1
  | x :: y :: r, h, m + 1, hm => linked_lt h.tail m (by simpa using hm)

/-- The m-th member of a chain; -1 behind its end. -/
def kAt (c : List Nat) (m : Nat) : Int := match c[m]? with | some x => (x : Int) | none => -1

theorem kAt_lt {c : List Nat} {m : Nat} (h : m < c.length) : kAt c m = (c[m] : Int) := by unfold kAt; rw [List.getElem?_eq_getElem h]

theorem kAt_end {c : List Nat} : kAt c c.length = -1 := by unfold kAt; rw [List.getElem?_eq_none (Nat.le_refl _)]

theorem TkRow.kindAt {w : World} {a : Option Addr} {ts : List Tk} (h : TkRow w a ts) (j : Nat) (hj : j < ts.length) : ∃ b o, a = some ⟨b, o, none⟩ ∧ w.cell? ⟨b, o + j * 4, none⟩ = some (.int .i64 (parI ts j)) ∧ w.cell? ⟨b, o + j * 4 + 1, none⟩ = some (.string ts[j].name) := by
  obtain ⟨b, o, aa, cap, ha, hlt, c0, c1, _⟩ := h j hj
  exact ⟨b, o, ha, by rw [parI_at hj]; exact c0, c1⟩

set_option maxRecDepth 8000 in
set_option maxHeartbeats 4000000 in
theorem cDepthS (a : Option Addr) (cap : Nat) (ts : List Tk) (i : Nat) (w : World) (hR : TkRow w a ts) (hi : i < ts.length) (hn : ts.length ≤ 1048576) (hz : TksSz 1048576 ts) (h0 : parI ts 0 = -1) (hup : ∀ j, j < i → UpOk ts j) :
    Calls Try.prog 33 #[.slice a ts.length cap, .int .i64 (i : Int)] w fun e w' => e = .returned (.int .i64 (depI ts i)) ∧ w' = w := by
  have HR := hid hR
  have HZ := hid hz
  obtain ⟨V, hV⟩ : ∃ V, depI ts i = V := ⟨_, rfl⟩
  have HV := hid hV
  rw [hV]
  clear hR hV hz
  obtain ⟨n, hnn⟩ : ∃ n, ts.length = n := ⟨_, rfl⟩
  have HN := hid hnn
  rw [hnn] at hn hi ⊢
  clear hnn
  by_cases hi0 : i = 0
  · subst hi0
    have HW := hid (show V = 1 by rw [← HV.out, depI_t (.inl rfl)]; rfl)
    go_enter Try.func33, Try.ntmps33
    go_wp2
    go_ret
    exact ⟨by rw [HW.out]; rfl, rfl⟩
  · have HL := hid (show Linked ts (chainF ts i) ∧ (∀ p ∈ chainF ts i, p < i) ∧ ∃ r, chainF ts i = (i - 1) :: r by
      obtain ⟨i', rfl⟩ : ∃ i', i = i' + 1 := ⟨i - 1, by omega⟩
      exact ⟨(linked_all i' hup).1, (linked_all i' hup).2, _, rfl⟩)
    have HU := hid hup
    have H0 := hid h0
    clear hup h0
    have d0 : ((i : Int) == 0) = false := by simp; omega
    have his : i < ts.length := by rw [HN.out]; exact hi
    obtain ⟨b, o, rfl, c0, c1⟩ := HR.out.kindAt i his
    have hin : (i : Int) < (n : Int) := by omega
    obtain ⟨p, hp⟩ : ∃ p, parI ts i = p := ⟨_, rfl⟩
    have HP := hid hp
    rw [hp] at c0
    clear hp
    by_cases hp0 : p < 0
    · have HW := hid (show V = 0 by
        rw [← HV.out, depI_f]
        rintro (h | ⟨q, _, hq, _⟩)
        · exact hi0 h
        · rw [HP.out] at hq; omega)
      go_enter Try.func33, Try.ntmps33
      go_wp2
      go_ret
      exact ⟨by rw [HW.out]; rfl, rfl⟩
    · by_cases hpi : (i : Int) ≤ p
      · have HW := hid (show V = 0 by
          rw [← HV.out, depI_f]
          rintro (h | ⟨q, hm, hq, _⟩)
          · exact hi0 h
          · have := HL.out.2.1 q hm
            rw [HP.out] at hq
            omega)
        go_enter Try.func33, Try.ntmps33
        go_wp2
        go_ret
        exact ⟨by rw [HW.out]; rfl, rfl⟩
      · obtain ⟨q, rfl⟩ : ∃ q : Nat, p = q := ⟨p.toNat, by omega⟩
        have hqi : q < i := by omega
        have hqs : q < ts.length := by omega
        have hqn : (q : Int) < (n : Int) := by omega
        obtain ⟨b', o', e', c2, c3⟩ := HR.out.kindAt q hqs
        obtain ⟨rfl, rfl⟩ : b = b' ∧ o = o' := by cases e'; exact ⟨rfl, rfl⟩
        clear e' c2
        have E := empty_is ts[q].name
        have zq := (HZ.out _ (List.getElem_mem hqs)).1
        by_cases hne : ts[q].name.size = 0
        · have HW := hid (show V = 0 by
            rw [← HV.out, depI_f]
            rintro (h | ⟨q', hm, hq, ⟨_, hel⟩⟩)
            · exact hi0 h
            · rw [HP.out] at hq
              have : q' = q := by omega
              subst this
              exact hel hne)
          rw [decide_eq_true hne] at E
          generalize ts[q].name = nm at *
          go_enter Try.func33, Try.ntmps33
          go_wp2
          go_ret
          exact ⟨by rw [HW.out]; rfl, rfl⟩
        · have HE := hid (show elN ts q from ⟨hqs, hne⟩)
          rw [decide_eq_false hne] at E
          generalize ts[q].name = nm at *
          clear hne
          obtain ⟨c, hc⟩ : ∃ c, chainF ts i = c := ⟨_, rfl⟩
          have HC := hid hc
          rw [hc] at HL
          clear hc
          go_enter Try.func33, Try.ntmps33
          go_wp2
          go_loop [6] (fun k => ∃ m : Nat, Hid (k = .int .i64 (kAt c m) ∧ m ≤ c.length ∧ ∀ j, j < m → ∀ h : j < c.length, ¬ c[j] = q)) (fun k => (intOf k + 1).toNat)
          case atStart =>
            refine ⟨0, ?_, Nat.zero_le _, fun j h => by omega⟩
            obtain ⟨r, hr⟩ := HL.out.2.2
            rw [hr]
            show _ = Value.int .i64 (((i - 1 : Nat)) : Int)
            congr 1
            first | omega | (simp; omega)
          case round =>
            clear c0 c1 c3 E zq
            obtain ⟨m, HM⟩ := hrel
            obtain ⟨rfl, hm, hno⟩ := HM.out
            have HNO := hid hno
            clear hno HM
            by_cases hml : m < c.length
            · obtain ⟨x, hx⟩ : ∃ x, c[m] = x := ⟨_, rfl⟩
              have hxi : x < i := by rw [← hx]; exact HL.out.2.1 _ (List.getElem_mem hml)
              have hxs : x < ts.length := by omega
              have ek : kAt c m = (x : Int) := by rw [← hx]; exact kAt_lt hml
              rw [ek]
              by_cases hxq : x = q
              · subst hxq
                have HUP := hid (show UpOk ts i from .inr ⟨x, by rw [HC.out, ← hx]; exact List.getElem_mem hml, HP.out.symm, HE.out⟩)
                have HD := hid (linked_all i (fun j hj => by
                  rcases Nat.lt_or_eq_of_le (Nat.le_of_lt_succ hj) with h' | rfl
                  · exact HU.out j h'
                  · exact HUP.out))
                have HW := hid (show V = ((chainF ts (i + 1)).length : Int) by rw [← HV.out, depI_t HUP.out])
                have hd1 : ((chainF ts (i + 1)).length : Int) ≤ 1048577 := by
                  obtain ⟨r, hr⟩ := chain_head ts i
                  have h1 := HD.out.1
                  rw [hr] at h1 ⊢
                  have := h1.len
                  omega
                obtain ⟨d, hd⟩ : ∃ d, chainF ts (i + 1) = d := ⟨_, rfl⟩
                have HDD := hid hd
                rw [hd] at HD HW hd1
                clear hd hx ek HNO hm hml
                go_wp2
                go_loop [7, 8] (fun v k => ∃ m : Nat, Hid (k = .int .i64 (kAt d m) ∧ m < d.length) ∧ v = .int .i64 ((m : Int) + 1)) (fun _ k => (intOf k + 1).toNat)
                case atStart =>
                  refine ⟨0, ⟨?_, ?_⟩, rfl⟩
                  · rw [← HDD.out]; rfl
                  · rw [← HDD.out]; exact Nat.succ_pos _
                case round =>
                  obtain ⟨m, HM, rfl⟩ := hrel
                  obtain ⟨rfl, hml⟩ := HM.out
                  clear HM
                  obtain ⟨y, hy⟩ : ∃ y, d[m] = y := ⟨_, rfl⟩
                  have hyi : y < i + 1 := by rw [← hy]; exact HD.out.2 _ (List.getElem_mem hml)
                  have hys : y < ts.length := by omega
                  have ek : kAt d m = (y : Int) := by rw [← hy]; exact kAt_lt hml
                  rw [ek]
                  obtain ⟨l1, l2⟩ := linked_from HD.out.1 m hml
                  have l1 := l1 H0.out
                  rw [hy] at l1 l2
                  obtain ⟨b', o', e', c2, c3⟩ := HR.out.kindAt y hys
                  obtain ⟨rfl, rfl⟩ : b = b' ∧ o = o' := by cases e'; exact ⟨rfl, rfl⟩
                  have hyn : (y : Int) < (n : Int) := by omega
                  by_cases hy0 : y = 0
                  · have HE2 := hid (show ((m : Int) + 1) = V by rw [HW.out]; have := l2.1 hy0; omega)
                    subst hy0
                    clear c2 c3 l1 l2 e' ek hy
                    go_wp2
                    go_ret
                    exact ⟨by rw [← HE2.out]; rfl, rfl⟩
                  · have hnx : m + 1 < d.length := by
                      rcases Nat.lt_or_ge (m + 1) d.length with h' | h'
                      · exact h'
                      · exact absurd (l2.2 (by omega)) hy0
                    rw [dif_pos hnx, ← kAt_lt hnx] at l1
                    have hless := hid (show kAt d (m + 1) < (y : Int) by rw [kAt_lt hnx, ← hy]; have := linked_lt HD.out.1 m hnx; omega)
                    rw [l1] at c2
                    have hyp : (0 : Int) < (y : Int) := by omega
                    have HNX := hid hnx
                    obtain ⟨K, hK⟩ : ∃ K, kAt d (m + 1) = K := ⟨_, rfl⟩
                    have HK := hid hK
                    rw [hK] at c2 hless
                    clear hK c3 l1 l2 e' ek hy hnx
                    go_wp2
                    go_round
                    case rel => exact ⟨m + 1, ⟨by rw [HK.out], HNX.out⟩, by go_num⟩
                    case measure => have := hless.out; simp [intOf]; omega
              · have l1 := (linked_from HL.out.1 m hml).1 H0.out
                rw [hx] at l1
                have e2 : parI ts x = kAt c (m + 1) := by
                  rw [l1]
                  by_cases h' : m + 1 < c.length
                  · rw [dif_pos h', kAt_lt h']
                  · rw [dif_neg h']
                    have : m + 1 = c.length := by omega
                    rw [this, kAt_end]
                have hless := hid (show kAt c (m + 1) < (x : Int) by
                  by_cases h' : m + 1 < c.length
                  · rw [kAt_lt h', ← hx]
                    have := linked_lt HL.out.1 m h'
                    omega
                  · have : m + 1 = c.length := by omega
                    rw [this, kAt_end]
                    omega)
                have hge := hid (show -1 ≤ kAt c (m + 1) by unfold kAt; split <;> omega)
                have HN2 := hid (show ∀ j, j < m + 1 → ∀ h : j < c.length, ¬ c[j] = q from fun j hj h => by
                  rcases Nat.lt_or_eq_of_le (Nat.le_of_lt_succ hj) with h' | rfl
                  · exact HNO.out j h' h
                  · rw [hx]; exact hxq)
                obtain ⟨b', o', e', c2, c3⟩ := HR.out.kindAt x hxs
                obtain ⟨rfl, rfl⟩ : b = b' ∧ o = o' := by cases e'; exact ⟨rfl, rfl⟩
                have hxn : (x : Int) < (n : Int) := by omega
                have dq : ((x : Int) == (q : Int)) = false := by simp; omega
                rw [e2] at c2
                obtain ⟨K, hK⟩ : ∃ K, kAt c (m + 1) = K := ⟨_, rfl⟩
                have HK := hid hK
                rw [hK] at c2 hless hge
                have HML := hid hml
                clear hK c3 l1 e2 e' ek hx hml
                go_wp2
                go_round
                case rel => exact ⟨m + 1, by rw [HK.out], HML.out, HN2.out⟩
                case measure => have := hless.out; have := hge.out; simp [intOf]; omega
            · have hme : m = c.length := by omega
              subst hme
              rw [kAt_end]
              have HW := hid (show V = 0 by
                rw [← HV.out, depI_f]
                rintro (h | ⟨q', hmem, hq, _⟩)
                · exact hi0 h
                · rw [HP.out] at hq
                  have : q' = q := by omega
                  subst this
                  rw [HC.out] at hmem
                  obtain ⟨j, hj, e⟩ := List.getElem_of_mem hmem
                  exact HNO.out j hj hj e)
              have dq : ((-1 : Int) == (q : Int)) = false := by simp <;> omega
              go_wp2
              go_ret
              exact ⟨by rw [HW.out]; rfl, rfl⟩

end Go.Proofs.Ytcjeodgfpnecgaa

namespace Go.Proofs.Ytcjeodgfpnecgaa
open Go.RowKit
set_option linter.unusedVariables false
set_option linter.unusedSimpArgs false

theorem nodeB_el {t : Tk} (h : ¬ t.name.size = 0) : nodeB t = (nameL t.name.data.toList && (attrsB t.attrs && decide (t.text.size = 0))) := by unfold nodeB; exact if_neg h

theorem nodeB_tx {t : Tk} (h : t.name.size = 0) : nodeB t = (decide (t.attrs.length = 0) && textB t.text) := by unfold nodeB; exact if_pos h

set_option maxRecDepth 8000 in
set_option maxHeartbeats 8000000 in
theorem cTreeOkS (a : Option Addr) (cap : Nat) (ts : List Tk) (w : World) (hR : TkRow w a ts) (hn : ts.length ≤ 1048576) (hz : TksSz 1048576 ts) :
    Calls Try.prog 17 #[.slice a ts.length cap] w fun e w' => e = .returned (.bool (treeB ts)) ∧ Below w.heap.size w w' := by
  obtain ⟨V, hV⟩ : ∃ V, treeB ts = V := ⟨_, rfl⟩
  have HV := hid hV
  rw [hV]
  have HF : Hid (¬ TreeP ts → V = false) := fun h => by rw [← HV.out]; exact treeB_f h
  have HT : Hid (TreeP ts → V = true) := fun h => by rw [← HV.out]; exact treeB_t h
  clear hV HV
  have HR := hid hR
  have HZ := hid hz
  have CI := fun w => c_spec_In7 (ts.length : Int) 1 50 w
  clear hR hz
  obtain ⟨n, hnn⟩ : ∃ n, ts.length = n := ⟨_, rfl⟩
  have HN := hid hnn
  rw [hnn] at hn CI ⊢
  clear hnn
  by_cases h50 : 1 ≤ n ∧ n ≤ 50
  case neg =>
    have hd : decide ((1 : Int) ≤ (n : Int) ∧ (n : Int) ≤ 50) = false := decide_eq_false (by omega)
    rw [hd] at CI
    have HW := hid (HF.out (fun h => h50 (by have h1 := h.1; have h2 := h.2.1; rw [HN.out] at h1 h2; exact ⟨h1, h2⟩)))
    go_enter Try.func17, Try.ntmps17
    go_wp2_with fail
    refine (CI _).mono ?_
    rintro e w1 ⟨rfl, rfl⟩
    go_wp2_with fail
    go_ret
    exact ⟨by rw [HW.out]; rfl, Below.refl _ _⟩
  have hd : decide ((1 : Int) ≤ (n : Int) ∧ (n : Int) ≤ 50) = true := decide_eq_true (by omega)
  rw [hd] at CI
  have h0s : 0 < ts.length := by rw [HN.out]; omega
  have hin0 : (0 : Int) < (n : Int) := by omega
  obtain ⟨b, o, rfl, c0, c1⟩ := HR.out.kindAt 0 h0s
  simp only [Nat.zero_mul, Nat.add_zero] at c0 c1
  have E := empty_is ts[0].name
  have z0 := (HZ.out _ (List.getElem_mem h0s)).1
  by_cases hp : parI ts 0 = -1
  case neg =>
    have HW := hid (HF.out (fun h => hp h.2.2.1))
    have hd2 : (parI ts 0 == -1) = false := by simpa using hp
    generalize parI ts 0 = P at *
    generalize ts[0].name = N at *
    go_enter Try.func17, Try.ntmps17
    go_wp2_with fail
    refine (CI _).mono ?_
    rintro e w1 ⟨rfl, rfl⟩
    go_wp2_with fail
    go_ret
    exact ⟨by rw [HW.out]; rfl, Below.refl _ _⟩
  have HP := hid hp
  rw [hp] at c0
  by_cases hel : ts[0].name.size = 0
  case pos =>
    have HW := hid (HF.out (fun h => by obtain ⟨_, h'⟩ := h.2.2.2.1; exact h' hel))
    rw [decide_eq_true hel] at E
    generalize ts[0].name = N at *
    clear hp
    go_enter Try.func17, Try.ntmps17
    go_wp2_with fail
    refine (CI _).mono ?_
    rintro e w1 ⟨rfl, rfl⟩
    go_wp2_with fail
    go_ret
    exact ⟨by rw [HW.out]; rfl, Below.refl _ _⟩
  have HEL := hid (show elN ts 0 from ⟨h0s, hel⟩)
  rw [decide_eq_false hel] at E
  generalize ts[0].name = N at *
  clear hp hel
  go_enter Try.func17, Try.ntmps17
  go_wp2_with fail
  refine (CI _).mono ?_
  rintro e w1 ⟨rfl, rfl⟩
  go_wp2_with fail
  clear c0 c1 E z0 CI
  go_loopw [3] (fun k wr => ∃ i : Nat, k = .int .i64 (i : Int) ∧ i ≤ n ∧ Hid (∀ j, j < i → NodeOk ts j) ∧ Hid (Below w1.heap.size w1 wr)) (fun k _ => n - (intOf k).toNat)
  case atStart => exact ⟨0, rfl, Nat.zero_le _, fun j h => by omega, Below.refl _ _⟩
  case round =>
    obtain ⟨i, rfl, hi, HA, HB⟩ := hrel
    by_cases hlt : i < n
    case neg =>
      have hie : i = n := by omega
      subst hie
      have HW := hid (HT.out ⟨by rw [HN.out]; exact h50.1, by rw [HN.out]; exact h50.2, HP.out, HEL.out, fun j hj => HA.out j (by rw [← HN.out]; exact hj)⟩)
      go_wp2_with fail
      go_ret
      exact ⟨by rw [HW.out]; rfl, HB.out⟩
    have his : i < ts.length := by rw [HN.out]; exact hlt
    have hin : (i : Int) < (n : Int) := by omega
    obtain ⟨b', o', aa, ca, e', hb, c0, c1, c2, c3, cr⟩ := HR.out.below HB.out i his
    obtain ⟨rfl, rfl⟩ : b = b' ∧ o = o' := by cases e'; exact ⟨rfl, rfl⟩
    clear e'
    obtain ⟨t, ht⟩ : ∃ t, ts[i] = t := ⟨_, rfl⟩
    have HTT := hid ht
    have HZt := HZ.out _ (List.getElem_mem his)
    rw [ht] at c0 c1 c2 c3 cr HZt
    obtain ⟨tk, tn, tl, tx⟩ := t
    obtain ⟨z1, z2, z3, z4⟩ := HZt
    simp only at c0 c1 c2 c3 cr z1 z2 z3 z4
    have HFN : Hid (nodeB ⟨tk, tn, tl, tx⟩ = false → V = false) := fun h => HF.out (fun hh => by
      obtain ⟨⟨_, h1⟩, _⟩ := hh.2.2.2.2 i his
      rw [HTT.out, h] at h1
      cases h1)
    have M0 := hid (heap_alloc_new wr (.cells #[.int .i64 tk, .string tn, .slice aa tl.length ca, .string tx] 36))
    have HB0 := hid (HB.out.alloc HB.out.size (.cells #[.int .i64 tk, .string tn, .slice aa tl.length ca, .string tx] 36))
    have CR := hid (cr.below ((Below.refl wr.heap.size wr).alloc (Nat.le_refl _) (.cells #[.int .i64 tk, .string tn, .slice aa tl.length ca, .string tx] 36)))
    have CN := hid (fun w => c_spec_NameOk tn w z1)
    have CA := hid (fun w (h : AtRow w aa tl) => cL7Attrs aa ca tl w h z3 z2)
    have CX := hid (fun w => cL7Text tx w z4)
    have HE1 := hid (@nodeB_el ⟨tk, tn, tl, tx⟩)
    have HE2 := hid (@nodeB_tx ⟨tk, tn, tl, tx⟩)
    simp only at HE1 HE2
    have E1 := empty_is tn
    have E2 := empty_is tx
    obtain ⟨B, hB⟩ : ∃ B, nodeB ⟨tk, tn, tl, tx⟩ = B := ⟨_, rfl⟩
    rw [hB] at HE1 HE2 HFN
    have HBB := hid hB
    obtain ⟨m, hm⟩ : ∃ m, tl.length = m := ⟨_, rfl⟩
    rw [hm] at c2 M0 HB0 CR CA z2 HE2
    clear ht hB cr z3 hm
    go_upto_region 7 with fail
    go_cut [70] from 24 to 106 (fun v wv => v = .bool (!B) ∧ Hid (wv.heap[wr.heap.size]? = some (.cells #[.int .i64 tk, .string tn, .slice aa m ca, .string tx] 36 (0, 0)) ∧ Below w1.heap.size w1 wv))
    case first =>
      by_cases e1 : tn.size = 0
      · rw [decide_eq_true e1] at E1
        have hB := HE2.out e1
        by_cases hm0 : m = 0
        · rw [decide_eq_true hm0, Bool.true_and] at hB
          subst hm0
          rw [← hB] at CX
          clear hB
          go_wp2_with fail
          refine (CX.out _).mono ?_
          rintro e w2 ⟨rfl, rfl⟩
          cases B
          · go_wp2_with fail
            go_meet
            exact ⟨rfl, M0.out, HB0.out⟩
          · go_wp2_with fail
            go_meet
            exact ⟨rfl, M0.out, HB0.out⟩
        · rw [decide_eq_false hm0, Bool.false_and] at hB
          have hd1 : decide ((0 : Int) < (m : Int)) = true := by simp; omega
          subst hB
          go_wp2_with fail
          go_meet
          exact ⟨rfl, M0.out, HB0.out⟩
      · rw [decide_eq_false e1] at E1
        have hB := HE1.out e1
        cases q1 : nameL tn.data.toList
        · rw [q1, Bool.false_and] at hB
          rw [q1] at CN
          subst hB
          go_wp2_with fail
          refine (CN.out _).mono ?_
          rintro e w2 ⟨rfl, hb2⟩
          have M2 := hid (blk_below M0.out hb2)
          have HB2 := hid (bb HB0.out hb2)
          obtain ⟨⟨x0, x1, x2, x3⟩, _⟩ := box4 M2.out
          go_wp2_with fail
          go_meet
          exact ⟨rfl, M2.out, HB2.out⟩
        · rw [q1, Bool.true_and] at hB
          rw [q1] at CN
          cases q2 : attrsB tl
          · rw [q2, Bool.false_and] at hB
            rw [q2] at CA
            subst hB
            go_wp2_with fail
            refine (CN.out _).mono ?_
            rintro e w2 ⟨rfl, hb2⟩
            have M2 := hid (blk_below M0.out hb2)
            have HB2 := hid (bb HB0.out hb2)
            have CR2 := hid (CR.out.below hb2)
            obtain ⟨⟨x0, x1, x2, x3⟩, _⟩ := box4 M2.out
            clear hb2
            go_wp2_with fail
            refine (CA.out _ CR2.out).mono ?_
            rintro e w3 ⟨rfl, hb3⟩
            have M3 := hid (blk_below M2.out hb3)
            have HB3 := hid (bb HB2.out hb3)
            clear x0 x1 x2 x3 hb3
            obtain ⟨⟨x0, x1, x2, x3⟩, _⟩ := box4 M3.out
            go_wp2_with fail
            go_meet
            exact ⟨rfl, M3.out, HB3.out⟩
          · rw [q2, Bool.true_and] at hB
            rw [q2] at CA
            rw [← hB] at E2
            clear hB
            go_wp2_with fail
            refine (CN.out _).mono ?_
            rintro e w2 ⟨rfl, hb2⟩
            have M2 := hid (blk_below M0.out hb2)
            have HB2 := hid (bb HB0.out hb2)
            have CR2 := hid (CR.out.below hb2)
            obtain ⟨⟨x0, x1, x2, x3⟩, _⟩ := box4 M2.out
            clear hb2
            go_wp2_with fail
            refine (CA.out _ CR2.out).mono ?_
            rintro e w3 ⟨rfl, hb3⟩
            have M3 := hid (blk_below M2.out hb3)
            have HB3 := hid (bb HB2.out hb3)
            clear x0 x1 x2 x3 hb3
            obtain ⟨⟨x0, x1, x2, x3⟩, _⟩ := box4 M3.out
            cases B
            · go_wp2_with fail
              go_meet
              exact ⟨rfl, M3.out, HB3.out⟩
            · go_wp2_with fail
              go_meet
              exact ⟨rfl, M3.out, HB3.out⟩
    case rest =>
      obtain ⟨rfl, HC⟩ := hcut
      obtain ⟨hM, hBw⟩ := HC.out
      have MW := hid hM
      have BWC := hid hBw
      clear hM hBw HC CX CA CN HE1 HE2 CR M0 HB0 c0 c1 c2 c3
      cases B
      · have HW := hid (HFN.out rfl)
        go_wp2_with fail
        go_ret
        exact ⟨by rw [HW.out]; rfl, BWC.out⟩
      · clear HFN
        have CD := hid (fun (wx : World) (hx : TkRow wx (some ⟨b, o, none⟩) ts) => cDepthS (some ⟨b, o, none⟩) cap ts i wx hx his (by rw [HN.out]; exact hn) HZ.out HP.out (fun j hj => (HA.out j hj).2.1))
        rw [HN.out] at CD
        have HRW := hid (HR.out.below BWC.out)
        by_cases hu : UpOk ts i
        case neg =>
          have HW := hid (HF.out (fun h => hu (h.2.2.2.2 i his).2.1))
          rw [depI_f hu] at CD
          go_wp2_with fail
          refine (CD.out _ HRW.out).mono ?_
          rintro e w2 ⟨rfl, rfl⟩
          go_wp2_with fail
          go_ret
          exact ⟨by rw [HW.out]; rfl, BWC.out⟩
        rw [depI_t hu] at CD
        obtain ⟨D, hD⟩ : ∃ D, (chainF ts (i + 1)).length = D := ⟨_, rfl⟩
        have HD := hid hD
        have hD1 : 1 ≤ D := by rw [← hD]; exact Nat.succ_pos _
        rw [hD] at CD
        clear hD
        have hd1 : decide ((D : Int) < 1) = false := by simp; omega
        by_cases h9 : D ≤ 9
        case neg =>
          have HW := hid (HF.out (fun h => h9 (by rw [← HD.out]; exact (h.2.2.2.2 i his).2.2.1)))
          have hd2 : decide ((9 : Int) < (D : Int)) = true := by simp; omega
          go_wp2_with fail
          refine (CD.out _ HRW.out).mono ?_
          rintro e w2 ⟨rfl, rfl⟩
          go_wp2_with fail
          go_ret
          exact ⟨by rw [HW.out]; rfl, BWC.out⟩
        have hd2 : decide ((9 : Int) < (D : Int)) = false := by simp; omega
        have HK : Hid (¬ TwinAt ts i → ∀ j, j < i + 1 → NodeOk ts j) := fun h j hj => by
          rcases Nat.lt_or_eq_of_le (Nat.le_of_lt_succ hj) with h' | rfl
          · exact HA.out j h'
          · exact ⟨⟨his, by rw [HTT.out]; exact HBB.out⟩, hu, by rw [HD.out]; exact h9, h⟩
        obtain ⟨⟨x0, x1, x2, x3⟩, _⟩ := box4 MW.out
        by_cases hi0 : i = 0
        · have HK2 := hid (HK.out (fun h => by obtain ⟨_, h0, _⟩ := h; omega))
          have HI0 := hid hi0
          clear hi0
          go_wp2_with fail
          refine (CD.out _ HRW.out).mono ?_
          rintro e w2 ⟨rfl, rfl⟩
          clear CD hin HRW
          obtain ⟨z, hz⟩ : ∃ z : Int, (i : Int) = z := ⟨_, rfl⟩
          have hd3 : decide ((0 : Int) < z) = false := decide_eq_false (by have := HI0.out; omega)
          have HZZ := hid hz
          have hzn : z < 100 := by omega
          have hzp : -1 < z := by omega
          simp only [hz]
          clear hz
          go_wp2_with fail
          go_quiet (fail)
          go_wp2_with fail
          go_roundw
          case rel => exact ⟨i + 1, by have := HZZ.out; congr 1; omega, by omega, HK2.out, below_drewN BWC.out _⟩
          case measure => have := HZZ.out; simp [intOf]; omega
        have hip : 0 < i := by omega
        by_cases e1 : tn.size = 0
        case neg =>
          rw [decide_eq_false e1] at E1
          have HK2 := hid (HK.out (fun h => by obtain ⟨h1, _, h2, _⟩ := h; rw [HTT.out] at h2; exact e1 h2))
          go_wp2_with fail
          refine (CD.out _ HRW.out).mono ?_
          rintro e w2 ⟨rfl, rfl⟩
          go_wp2_with fail
          go_quiet (fail)
          go_wp2_with fail
          go_roundw
          case rel => exact ⟨i + 1, by go_num, by omega, HK2.out, below_drewN BWC.out _⟩
          case measure => simp [intOf]; omega
        rw [decide_eq_true e1] at E1
        obtain ⟨i', rfl⟩ : ∃ i', i = i' + 1 := ⟨i - 1, by omega⟩
        have hs' : i' < ts.length := by omega
        have hin' : (i' : Int) < (n : Int) := by omega
        obtain ⟨b', o', e', y0, y1⟩ := HRW.out.kindAt i' hs'
        obtain ⟨rfl, rfl⟩ : b = b' ∧ o = o' := by cases e'; exact ⟨rfl, rfl⟩
        have E3 := empty_is ts[i'].name
        have z5 := (HZ.out _ (List.getElem_mem hs')).1
        by_cases e2 : ts[i'].name.size = 0
        case neg =>
          rw [decide_eq_false e2] at E3
          have HK2 := hid (HK.out (fun h => by obtain ⟨h1, _, _, h2, _⟩ := h; exact e2 h2))
          generalize ts[i'].name = nm at *
          generalize parI ts i' = PI at *
          go_wp2_with fail
          refine (CD.out _ HRW.out).mono ?_
          rintro e w2 ⟨rfl, rfl⟩
          go_wp2_with fail
          go_quiet (fail)
          go_wp2_with fail
          go_roundw
          case rel => exact ⟨i' + 1 + 1, by go_num, by omega, HK2.out, below_drewN BWC.out _⟩
          case measure => simp [intOf]; omega
        rw [decide_eq_true e2] at E3
        by_cases e3 : parI ts i' = tk
        · have HW := hid (HF.out (fun h => (h.2.2.2.2 (i' + 1) his).2.2.2 ⟨his, by omega, by rw [HTT.out]; exact e1, e2, by
            rw [HTT.out]
            rw [parI_at hs'] at e3
            exact e3⟩))
          have hd4 : (parI ts i' == tk) = true := by simpa using e3
          clear e3
          generalize ts[i'].name = nm at *
          generalize parI ts i' = PI at *
          go_wp2_with fail
          refine (CD.out _ HRW.out).mono ?_
          rintro e w2 ⟨rfl, rfl⟩
          go_wp2_with fail
          go_quiet (fail)
          go_wp2_with fail
          go_ret
          exact ⟨by rw [HW.out]; rfl, below_drewN BWC.out _⟩
        · have HK2 := hid (HK.out (fun h => by
            obtain ⟨h1, _, _, _, h2⟩ := h
            rw [HTT.out] at h2
            rw [parI_at hs'] at e3
            exact e3 h2))
          have hd4 : (parI ts i' == tk) = false := by simpa using e3
          generalize ts[i'].name = nm at *
          generalize parI ts i' = PI at *
          clear e3
          go_wp2_with fail
          refine (CD.out _ HRW.out).mono ?_
          rintro e w2 ⟨rfl, rfl⟩
          go_wp2_with fail
          go_quiet (fail)
          go_wp2_with fail
          go_roundw
          case rel => exact ⟨i' + 1 + 1, by go_num, by omega, HK2.out, below_drewN BWC.out _⟩
          case measure => simp [intOf]; omega

end Go.Proofs.Ytcjeodgfpnecgaa
