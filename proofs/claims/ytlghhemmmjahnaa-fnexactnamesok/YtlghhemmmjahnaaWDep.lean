/- Contract of what the specification asks for a node's depth. -/
import Derived.Test.YtlghhemmmjahnaaWTree
namespace Go.Proofs.Ytlghhemmmjahnaa
open Go.RowKit
set_option linter.unusedVariables false
set_option linter.unusedSimpArgs false

/-- The chain from its m-th member on. -/
theorem linked_from {ts : List Tk} : ∀ {c : List Nat}, Linked ts c → ∀ m (h : m < c.length), (parI ts 0 = -1 → parI ts c[m] = (if h' : m + 1 < c.length then (c[m + 1] : Int) else -1)) ∧ (c[m] = 0 ↔ m + 1 = c.length)
  | [], h, m, hm => absurd hm (by simp)
  | [x], h, m, hm => by
    have h0 : x = 0 := h
    subst h0
    have : m = 0 := by simpa using hm
    subst this
    exact ⟨fun e => by simpa using e, by simp⟩
  | x :: y :: r, h, 0, hm => by
    refine ⟨fun e => ?_, ?_⟩
    · simp [h.1]
    · have := h.2.1
      constructor
      · intro e
        have e : x = 0 := e
        omega
      · intro e
        simp at e
  | x :: y :: r, h, m + 1, hm => by
    have hm' : m < (y :: r).length := by simpa using hm
    obtain ⟨h1, h2⟩ := linked_from h.tail m hm'
    refine ⟨fun e => ?_, ?_⟩
    · have := h1 e
      simp only [List.getElem_cons_succ, List.length_cons] at this ⊢
      rw [this]
      by_cases q : m + 1 < r.length + 1
      · rw [dif_pos q, dif_pos (by omega)]
      · rw [dif_neg q, dif_neg (by omega)]
    · simp only [List.getElem_cons_succ, List.length_cons] at h2 ⊢
      omega

theorem Linked.len {ts : List Tk} : ∀ {c : List Nat} {x : Nat}, Linked ts (x :: c) → (x :: c).length ≤ x + 1
  | [], x, h => by simp
  | y :: r, x, h => by
    have h1 := Linked.len (ts := ts) h.tail
    have := h.2.1
    simp only [List.length_cons] at h1 ⊢
    omega

theorem linked_lt {ts : List Tk} : ∀ {c : List Nat}, Linked ts c → ∀ m (h : m + 1 < c.length), c[m + 1] < c[m]
  | [], h, m, hm => absurd hm (by simp)
  | [x], h, m, hm => absurd hm (by simp)
  | x :: y :: r, h, 0, hm => h.2.1
  | x :: y :: r, h, m + 1, hm => linked_lt h.tail m (by simpa using hm)

/-- The m-th member of a chain; -1 behind its end. -/
def kAt (c : List Nat) (m : Nat) : Int := match c[m]? with | some x => (x : Int) | none => -1

theorem kAt_lt {c : List Nat} {m : Nat} (h : m < c.length) : kAt c m = (c[m] : Int) := by unfold kAt; rw [List.getElem?_eq_getElem h]

theorem kAt_end {c : List Nat} : kAt c c.length = -1 := by unfold kAt; rw [List.getElem?_eq_none (Nat.le_refl _)]

theorem TkRow.kindAt {w : World} {a : Option Addr} {ts : List Tk} (h : TkRow w a ts) (j : Nat) (hj : j < ts.length) : ∃ b o, a = some ⟨b, o, none⟩ ∧ w.cell? ⟨b, o + j * 4, none⟩ = some (.int .i64 (parI ts j)) ∧ w.cell? ⟨b, o + j * 4 + 1, none⟩ = some (.string ts[j].name) := by
  obtain ⟨b, o, aa, cap, ha, hlt, c0, c1, _⟩ := h j hj
  exact ⟨b, o, ha, by rw [parI_at hj]; exact c0, c1⟩

set_option maxRecDepth 8000 in
set_option maxHeartbeats 4000000 in
theorem cDepthS (a : Option Addr) (cap : Nat) (ts : List Tk) (i : Nat) (w : World) (hR : TkRow w a ts) (hi : i < ts.length) (hn : ts.length ≤ 1048576) (hz : TksSz 1048576 ts) (h0 : parI ts 0 = -1) (hup : ∀ j, j < i → UpOk ts j) :
    Calls Try.prog 67 #[.slice a ts.length cap, .int .i64 (i : Int)] w fun e w' => e = .returned (.int .i64 (depI ts i)) ∧ w' = w := by
  have HR := hid hR
  have HZ := hid hz
  obtain ⟨V, hV⟩ : ∃ V, depI ts i = V := ⟨_, rfl⟩
  have HV := hid hV
  rw [hV]
  clear hR hV hz
  obtain ⟨n, hnn⟩ : ∃ n, ts.length = n := ⟨_, rfl⟩
  have HN := hid hnn
  rw [hnn] at hn hi ⊢
  clear hnn
  by_cases hi0 : i = 0
  · subst hi0
    have HW := hid (show V = 1 by rw [← HV.out, depI_t (.inl rfl)]; rfl)
    go_enter Try.func67, Try.ntmps67
    go_wp2
    go_ret
    exact ⟨by rw [HW.out]; rfl, rfl⟩
  · have HL := hid (show Linked ts (chainF ts i) ∧ (∀ p ∈ chainF ts i, p < i) ∧ ∃ r, chainF ts i = (i - 1) :: r by
      obtain ⟨i', rfl⟩ : ∃ i', i = i' + 1 := ⟨i - 1, by omega⟩
      exact ⟨(linked_all i' hup).1, (linked_all i' hup).2, _, rfl⟩)
    have HU := hid hup
    have H0 := hid h0
    clear hup h0
    have d0 : ((i : Int) == 0) = false := by simp; omega
    have his : i < ts.length := by rw [HN.out]; exact hi
    obtain ⟨b, o, rfl, c0, c1⟩ := HR.out.kindAt i his
    have hin : (i : Int) < (n : Int) := by omega
    obtain ⟨p, hp⟩ : ∃ p, parI ts i = p := ⟨_, rfl⟩
    have HP := hid hp
    rw [hp] at c0
    clear hp
    by_cases hp0 : p < 0
    · have HW := hid (show V = 0 by
        rw [← HV.out, depI_f]
        rintro (h | ⟨q, _, hq, _⟩)
        · exact hi0 h
        · rw [HP.out] at hq; omega)
      go_enter Try.func67, Try.ntmps67
      go_wp2
      go_ret
      exact ⟨by rw [HW.out]; rfl, rfl⟩
    · by_cases hpi : (i : Int) ≤ p
      · have HW := hid (show V = 0 by
          rw [← HV.out, depI_f]
          rintro (h | ⟨q, hm, hq, _⟩)
          · exact hi0 h
          · have := HL.out.2.1 q hm
            rw [HP.out] at hq
            omega)
        go_enter Try.func67, Try.ntmps67
        go_wp2
        go_ret
        exact ⟨by rw [HW.out]; rfl, rfl⟩
      · obtain ⟨q, rfl⟩ : ∃ q : Nat, p = q := ⟨p.toNat, by omega⟩
        have hqi : q < i := by omega
        have hqs : q < ts.length := by omega
        have hqn : (q : Int) < (n : Int) := by omega
        obtain ⟨b', o', e', c2, c3⟩ := HR.out.kindAt q hqs
        obtain ⟨rfl, rfl⟩ : b = b' ∧ o = o' := by cases e'; exact ⟨rfl, rfl⟩
        clear e' c2
        have E := empty_is ts[q].name
        have zq := (HZ.out _ (List.getElem_mem hqs)).1
        by_cases hne : ts[q].name.size = 0
        · have HW := hid (show V = 0 by
            rw [← HV.out, depI_f]
            rintro (h | ⟨q', hm, hq, ⟨_, hel⟩⟩)
            · exact hi0 h
            · rw [HP.out] at hq
              have : q' = q := by omega
              subst this
              exact hel hne)
          rw [decide_eq_true hne] at E
          generalize ts[q].name = nm at *
          go_enter Try.func67, Try.ntmps67
          go_wp2
          go_ret
          exact ⟨by rw [HW.out]; rfl, rfl⟩
        · have HE := hid (show elN ts q from ⟨hqs, hne⟩)
          rw [decide_eq_false hne] at E
          generalize ts[q].name = nm at *
          clear hne
          obtain ⟨c, hc⟩ : ∃ c, chainF ts i = c := ⟨_, rfl⟩
          have HC := hid hc
          rw [hc] at HL
          clear hc
          go_enter Try.func67, Try.ntmps67
          go_wp2
          go_loop [6] (fun k => ∃ m : Nat, Hid (k = .int .i64 (kAt c m) ∧ m ≤ c.length ∧ ∀ j, j < m → ∀ h : j < c.length, ¬ c[j] = q)) (fun k => (intOf k + 1).toNat)
          case atStart =>
            refine ⟨0, ?_, Nat.zero_le _, fun j h => by omega⟩
            obtain ⟨r, hr⟩ := HL.out.2.2
            rw [hr]
            show _ = Value.int .i64 (((i - 1 : Nat)) : Int)
            congr 1
            first | omega | (simp; omega)
          case round =>
            clear c0 c1 c3 E zq
            obtain ⟨m, HM⟩ := hrel
            obtain ⟨rfl, hm, hno⟩ := HM.out
            have HNO := hid hno
            clear hno HM
            by_cases hml : m < c.length
            · obtain ⟨x, hx⟩ : ∃ x, c[m] = x := ⟨_, rfl⟩
              have hxi : x < i := by rw [← hx]; exact HL.out.2.1 _ (List.getElem_mem hml)
              have hxs : x < ts.length := by omega
              have ek : kAt c m = (x : Int) := by rw [← hx]; exact kAt_lt hml
              rw [ek]
              by_cases hxq : x = q
              · subst hxq
                have HUP := hid (show UpOk ts i from .inr ⟨x, by rw [HC.out, ← hx]; exact List.getElem_mem hml, HP.out.symm, HE.out⟩)
                have HD := hid (linked_all i (fun j hj => by
                  rcases Nat.lt_or_eq_of_le (Nat.le_of_lt_succ hj) with h' | rfl
                  · exact HU.out j h'
                  · exact HUP.out))
                have HW := hid (show V = ((chainF ts (i + 1)).length : Int) by rw [← HV.out, depI_t HUP.out])
                have hd1 : ((chainF ts (i + 1)).length : Int) ≤ 1048577 := by
                  obtain ⟨r, hr⟩ := chain_head ts i
                  have h1 := HD.out.1
                  rw [hr] at h1 ⊢
                  have := h1.len
                  omega
                obtain ⟨d, hd⟩ : ∃ d, chainF ts (i + 1) = d := ⟨_, rfl⟩
                have HDD := hid hd
                rw [hd] at HD HW hd1
                clear hd hx ek HNO hm hml
                go_wp2
                go_loop [7, 8] (fun v k => ∃ m : Nat, Hid (k = .int .i64 (kAt d m) ∧ m < d.length) ∧ v = .int .i64 ((m : Int) + 1)) (fun _ k => (intOf k + 1).toNat)
                case atStart =>
                  refine ⟨0, ⟨?_, ?_⟩, rfl⟩
                  · rw [← HDD.out]; rfl
                  · rw [← HDD.out]; exact Nat.succ_pos _
                case round =>
                  obtain ⟨m, HM, rfl⟩ := hrel
                  obtain ⟨rfl, hml⟩ := HM.out
                  clear HM
                  obtain ⟨y, hy⟩ : ∃ y, d[m] = y := ⟨_, rfl⟩
                  have hyi : y < i + 1 := by rw [← hy]; exact HD.out.2 _ (List.getElem_mem hml)
                  have hys : y < ts.length := by omega
                  have ek : kAt d m = (y : Int) := by rw [← hy]; exact kAt_lt hml
                  rw [ek]
                  obtain ⟨l1, l2⟩ := linked_from HD.out.1 m hml
                  have l1 := l1 H0.out
                  rw [hy] at l1 l2
                  obtain ⟨b', o', e', c2, c3⟩ := HR.out.kindAt y hys
                  obtain ⟨rfl, rfl⟩ : b = b' ∧ o = o' := by cases e'; exact ⟨rfl, rfl⟩
                  have hyn : (y : Int) < (n : Int) := by omega
                  by_cases hy0 : y = 0
                  · have HE2 := hid (show ((m : Int) + 1) = V by rw [HW.out]; have := l2.1 hy0; omega)
                    subst hy0
                    clear c2 c3 l1 l2 e' ek hy
                    go_wp2
                    go_ret
                    exact ⟨by rw [← HE2.out]; rfl, rfl⟩
                  · have hnx : m + 1 < d.length := by
                      rcases Nat.lt_or_ge (m + 1) d.length with h' | h'
                      · exact h'
                      · exact absurd (l2.2 (by omega)) hy0
                    rw [dif_pos hnx, ← kAt_lt hnx] at l1
                    have hless := hid (show kAt d (m + 1) < (y : Int) by rw [kAt_lt hnx, ← hy]; have := linked_lt HD.out.1 m hnx; omega)
                    rw [l1] at c2
                    have hyp : (0 : Int) < (y : Int) := by omega
                    have HNX := hid hnx
                    obtain ⟨K, hK⟩ : ∃ K, kAt d (m + 1) = K := ⟨_, rfl⟩
                    have HK := hid hK
                    rw [hK] at c2 hless
                    clear hK c3 l1 l2 e' ek hy hnx
                    go_wp2
                    go_round
                    case rel => exact ⟨m + 1, ⟨by rw [HK.out], HNX.out⟩, by go_num⟩
                    case measure => have := hless.out; simp [intOf]; omega
              · have l1 := (linked_from HL.out.1 m hml).1 H0.out
                rw [hx] at l1
                have e2 : parI ts x = kAt c (m + 1) := by
                  rw [l1]
                  by_cases h' : m + 1 < c.length
                  · rw [dif_pos h', kAt_lt h']
                  · rw [dif_neg h']
                    have : m + 1 = c.length := by omega
                    rw [this, kAt_end]
                have hless := hid (show kAt c (m + 1) < (x : Int) by
                  by_cases h' : m + 1 < c.length
                  · rw [kAt_lt h', ← hx]
                    have := linked_lt HL.out.1 m h'
                    omega
                  · have : m + 1 = c.length := by omega
                    rw [this, kAt_end]
                    omega)
                have hge := hid (show -1 ≤ kAt c (m + 1) by unfold kAt; split <;> omega)
                have HN2 := hid (show ∀ j, j < m + 1 → ∀ h : j < c.length, ¬ c[j] = q from fun j hj h => by
                  rcases Nat.lt_or_eq_of_le (Nat.le_of_lt_succ hj) with h' | rfl
                  · exact HNO.out j h' h
                  · rw [hx]; exact hxq)
                obtain ⟨b', o', e', c2, c3⟩ := HR.out.kindAt x hxs
                obtain ⟨rfl, rfl⟩ : b = b' ∧ o = o' := by cases e'; exact ⟨rfl, rfl⟩
                have hxn : (x : Int) < (n : Int) := by omega
                have dq : ((x : Int) == (q : Int)) = false := by simp; omega
                rw [e2] at c2
                obtain ⟨K, hK⟩ : ∃ K, kAt c (m + 1) = K := ⟨_, rfl⟩
                have HK := hid hK
                rw [hK] at c2 hless hge
                have HML := hid hml
                clear hK c3 l1 e2 e' ek hx hml
                go_wp2
                go_round
                case rel => exact ⟨m + 1, by rw [HK.out], HML.out, HN2.out⟩
                case measure => have := hless.out; have := hge.out; simp [intOf]; omega
            · have hme : m = c.length := by omega
              subst hme
              rw [kAt_end]
              have HW := hid (show V = 0 by
                rw [← HV.out, depI_f]
                rintro (h | ⟨q', hmem, hq, _⟩)
                · exact hi0 h
                · rw [HP.out] at hq
                  have : q' = q := by omega
                  subst this
                  rw [HC.out] at hmem
                  obtain ⟨j, hj, e⟩ := List.getElem_of_mem hmem
                  exact HNO.out j hj hj e)
              have dq : ((-1 : Int) == (q : Int)) = false := by simp <;> omega
              go_wp2
              go_ret
              exact ⟨by rw [HW.out]; rfl, rfl⟩

end Go.Proofs.Ytlghhemmmjahnaa
