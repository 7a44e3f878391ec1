/- Plain mathematics: what is escaped, unescaped, is the text; and it has no sign that would end it. Contracts of l7Till and l7Remark of the specification. Marks that the exact laws leave in what was answered: a text for a number; marks in a row of attrs, set and held. Marks in a row of attrs: set, and held. -/
import Derived.Test.YteninofjeidljaaGreatM4
import Derived.Test.YteninofjeidljaaGreatM5
import Derived.Test.YteninofjeidljaaGreatM2
import Derived.WalkKit
namespace Go.Proofs.YteninofjeidljaaGreat

open Go.RowKit

set_option linter.unusedVariables false

set_option linter.unusedSimpArgs false

theorem escL_cons (q : Bool) (c : UInt8) (l : List UInt8) : escL q (c :: l) = escB q c ++ escL q l := by simp [escL]

/-- The shapes in which a byte is written. -/
theorem escB_shape (q : Bool) (c : UInt8) :
    (c = 38 ∧ escB q c = amp) ∨ (c = 60 ∧ escB q c = lt) ∨ (c = 62 ∧ q = false ∧ escB q c = gt) ∨ (c = 34 ∧ q = true ∧ escB q c = quot) ∨
    (escB q c = [c] ∧ ¬ c.toNat = 38 ∧ ¬ c.toNat = 60 ∧ (q = false → ¬ c.toNat = 62) ∧ (q = true → ¬ c.toNat = 34)) := by
  by_cases h38 : c.toNat = 38
  · exact .inl ⟨UInt8.toNat_inj.1 h38, by simp [escB, h38, amp]⟩
  · by_cases h60 : c.toNat = 60
    · exact .inr (.inl ⟨UInt8.toNat_inj.1 h60, by simp [escB, h60, lt]⟩)
    · by_cases h62 : c.toNat = 62
      · cases q
        · exact .inr (.inr (.inl ⟨UInt8.toNat_inj.1 h62, rfl, by simp [escB, h62, gt]⟩))
        · exact .inr (.inr (.inr (.inr ⟨by simp [escB, h62], h38, h60, by simp, by simp; omega⟩)))
      · by_cases h34 : c.toNat = 34
        · cases q
          · exact .inr (.inr (.inr (.inr ⟨by simp [escB, h34], h38, h60, by simp; omega, by simp⟩)))
          · exact .inr (.inr (.inr (.inl ⟨UInt8.toNat_inj.1 h34, rfl, by simp [escB, h34, quot]⟩)))
        · exact .inr (.inr (.inr (.inr ⟨by simp [escB, h38, h60, h62, h34], h38, h60, fun _ => h62, fun _ => h34⟩)))

theorem runU_mark (m : List UInt8) (x : UInt8) (k f : Nat) (r acc : List UInt8) (hm : m.length = k) (hk : 1 ≤ k) (hr : readL (m ++ r) = some (x, k)) (hf : (m ++ r).length ≤ f) : ∃ f', r.length ≤ f' ∧ runU f (m ++ r) acc = runU f' r (acc ++ [x]) := by
  rw [List.length_append] at hf
  cases f with
  | zero => omega
  | succ f =>
    refine ⟨f, by omega, ?_⟩
    have hne : m ++ r ≠ [] := by
      intro e
      have := congrArg List.length e
      rw [List.length_append, hm] at this
      simp only [List.length_nil] at this
      omega
    rw [runU_step f _ acc x k (by rw [List.length_append]; omega) hne hr, List.drop_append_of_le_length (by omega), List.drop_of_length_le (by omega), List.nil_append]

theorem pre_self (m r : List UInt8) : m.isPrefixOf (m ++ r) = true := List.isPrefixOf_iff_prefix.2 (List.prefix_append m r)

theorem pre_apart {m n : List UInt8} (r : List UInt8) (h1 : m.isPrefixOf n = false) (h2 : n.isPrefixOf m = false) : n.isPrefixOf (m ++ r) = false := by
  cases h : n.isPrefixOf (m ++ r) with
  | false => rfl
  | true =>
    rcases List.prefix_or_prefix_of_prefix (List.isPrefixOf_iff_prefix.1 h) (List.prefix_append m r) with h3 | h3
    · rw [List.isPrefixOf_iff_prefix.2 h3] at h2; exact absurd h2 (by decide)
    · rw [List.isPrefixOf_iff_prefix.2 h3] at h1; exact absurd h1 (by decide)

theorem run_esc (q : Bool) (l : List UInt8) : ∀ f acc, (escL q l).length ≤ f → runU f (escL q l) acc = some (acc ++ l) := by
  induction l with
  | nil => intro f acc _; simp [escL, runU_end]
  | cons c l ih =>
    intro f acc hf
    rw [escL_cons] at hf ⊢
    have hr : readL (escB q c ++ escL q l) = some (c, (escB q c).length) ∧ 1 ≤ (escB q c).length := by
      rcases escB_shape q c with ⟨rfl, e⟩ | ⟨rfl, e⟩ | ⟨rfl, _, e⟩ | ⟨rfl, _, e⟩ | ⟨e, h, _⟩
      · rw [e]; exact ⟨readL_amp _ (pre_self _ _), by decide⟩
      · rw [e]; exact ⟨readL_lt _ (pre_apart _ (by decide) (by decide)) (pre_self _ _), by decide⟩
      · rw [e]; exact ⟨readL_gt _ (pre_apart _ (by decide) (by decide)) (pre_apart _ (by decide) (by decide)) (pre_self _ _), by decide⟩
      · rw [e]; exact ⟨readL_quot _ (pre_apart _ (by decide) (by decide)) (pre_apart _ (by decide) (by decide)) (pre_apart _ (by decide) (by decide)) (pre_self _ _), by decide⟩
      · rw [e]; exact ⟨readL_plain _ _ h, by simp⟩
    obtain ⟨f', hf', e⟩ := runU_mark (escB q c) c _ f (escL q l) acc rfl hr.2 hr.1 hf
    rw [e, ih f' _ hf', List.append_assoc]
    rfl

theorem plainL_app (a b : List UInt8) : plainL (a ++ b) = (plainL a && plainL b) := by simp [plainL]

theorem plain_esc (q : Bool) (l : List UInt8) (h : plainL l = true) : plainL (escL q l) = true := by
  induction l with
  | nil => rfl
  | cons c l ih =>
    have hc : plainB c.toNat = true ∧ plainL l = true := by simpa [plainL] using h
    rw [escL_cons, plainL_app, ih hc.2, Bool.and_true]
    rcases escB_shape q c with ⟨_, e⟩ | ⟨_, e⟩ | ⟨_, _, e⟩ | ⟨_, _, e⟩ | ⟨e, _⟩
    · rw [e]; decide
    · rw [e]; decide
    · rw [e]; decide
    · rw [e]; decide
    · rw [e]; simpa [plainL] using hc.1

theorem unesc_esc (q : Bool) (l : List UInt8) (h : plainL l = true) : unescL (escL q l) = some l := by
  rw [unescL, if_pos (plain_esc q l h), run_esc q l _ [] (Nat.le_refl _)]
  rfl

theorem esc_longer (q : Bool) (l : List UInt8) : l.length ≤ (escL q l).length := by
  induction l with
  | nil => simp
  | cons c l ih =>
    rw [escL_cons, List.length_append, List.length_cons]
    have : 1 ≤ (escB q c).length := by
      rcases escB_shape q c with ⟨_, e⟩ | ⟨_, e⟩ | ⟨_, _, e⟩ | ⟨_, _, e⟩ | ⟨e, _⟩ <;> rw [e] <;> simp [amp, lt, gt, quot]
    omega

/-- No sign that would end it. -/
def endless (q : Bool) (x : UInt8) : Prop := ¬ x.toNat = 60 ∧ (q = true → ¬ x.toNat = 34) ∧ (q = false → ¬ x.toNat = 62)

theorem esc_endless (q : Bool) (l : List UInt8) : ∀ x ∈ escL q l, endless q x := by
  induction l with
  | nil => intro x hx; simp [escL] at hx
  | cons c l ih =>
    intro x hx
    rw [escL_cons, List.mem_append] at hx
    rcases hx with hx | hx
    · rcases escB_shape q c with ⟨_, e⟩ | ⟨_, e⟩ | ⟨_, _, e⟩ | ⟨_, _, e⟩ | ⟨e, h1, h2, h3, h4⟩
      · rw [e] at hx; simp [amp] at hx; rcases hx with rfl | rfl | rfl | rfl | rfl <;> exact ⟨by decide, fun _ => by decide, fun _ => by decide⟩
      · rw [e] at hx; simp [lt] at hx; rcases hx with rfl | rfl | rfl | rfl <;> exact ⟨by decide, fun _ => by decide, fun _ => by decide⟩
      · rw [e] at hx; simp [gt] at hx; rcases hx with rfl | rfl | rfl | rfl <;> exact ⟨by decide, fun _ => by decide, fun _ => by decide⟩
      · rw [e] at hx; simp [quot] at hx; rcases hx with rfl | rfl | rfl | rfl | rfl | rfl <;> exact ⟨by decide, fun _ => by decide, fun _ => by decide⟩
      · rw [e] at hx; simp at hx; subst hx; exact ⟨h2, h4, h3⟩
    · exact ih x hx

end Go.Proofs.YteninofjeidljaaGreat

namespace Go.Proofs.YteninofjeidljaaGreat

open Go.RowKit

set_option linter.unusedVariables false

set_option linter.unusedSimpArgs false

theorem drop_at (s : ByteArray) (j : Nat) (h : j < s.size) : s.data.toList.drop j = s[j] :: s.data.toList.drop (j + 1) := by
  have h' : j < s.data.toList.length := h
  rw [List.drop_eq_getElem_cons h']
  rfl

theorem drop_end (s : ByteArray) (j : Nat) (h : s.size ≤ j) : s.data.toList.drop j = [] := List.drop_eq_nil_of_le h

theorem contains_at (g : ByteArray) (c : UInt8) (k : Nat) (h : k < g.size) (e : g[k] = c) : g.data.toList.contains c = true := by
  rw [List.contains_iff_mem, ← e]
  have h' : k < g.data.toList.length := h
  exact List.mem_iff_getElem.2 ⟨k, h', rfl⟩

theorem contains_not (g : ByteArray) (c : UInt8) (h : ∀ k (hk : k < g.size), ¬ g[k] = c) : g.data.toList.contains c = false := by
  cases e : g.data.toList.contains c
  · rfl
  · rw [List.contains_iff_mem] at e
    obtain ⟨k, hk, ek⟩ := List.mem_iff_getElem.1 e
    exact absurd ek (h k hk)

set_option maxHeartbeats 2000000 in
theorem cTill (s g : ByteArray) (p : Nat) (w : World) (hp : p ≤ s.size) (hs : s.size ≤ 1048576) (hg : g.size ≤ 100) :
    Calls Tryz.prog 112 #[.string s, .int .i64 p, .string g] w fun e w' => e = .returned (.int .i64 ((p + (tillL g.data.toList (s.data.toList.drop p)).length : Nat) : Int)) ∧ Below w.heap.size w w' := by
  obtain ⟨V, hV⟩ : ∃ V, p + (tillL g.data.toList (s.data.toList.drop p)).length = V := ⟨_, rfl⟩
  have HV := hid hV
  rw [hV]
  clear hV
  go_enter Tryz.func112, Tryz.ntmps112
  go_wp2
  go_loopw [1] (fun x wr => ∃ j : Nat, x = .int .i64 (j : Int) ∧ j ≤ s.size ∧ Hid (j + (tillL g.data.toList (s.data.toList.drop j)).length = V) ∧ Hid (Below w.heap.size w wr)) (fun x _ => s.size - (intOf x).toNat)
  case atStart => exact ⟨p, rfl, hp, HV.out, Below.refl _ _⟩
  case round =>
    obtain ⟨j, rfl, hj, HJ, HW⟩ := hrel
    by_cases hlt : j < s.size
    · have HD := hid (drop_at s j hlt)
      go_wp2_with fail
      go_loopw [7] (fun x wr => ∃ k : Nat, x = .int .i64 (k : Int) ∧ k ≤ g.size ∧ Hid (∀ m (hm : m < g.size), m < k → ¬ g[m] = s[j]) ∧ Hid (Below w.heap.size w wr)) (fun x _ => g.size - (intOf x).toNat)
      case atStart => exact ⟨0, rfl, Nat.zero_le _, fun m _ h => by omega, HW.out⟩
      case round =>
        clear HW
        obtain ⟨k, rfl, hk, HO, HW⟩ := hrel
        by_cases hkl : k < g.size
        · by_cases hq : g[k] = s[j]
          · have HC := hid (contains_at g s[j] k hkl hq)
            have HE := hid (show j = V by
              have := HJ.out
              rw [HD.out, till_cons_in HC.out] at this
              simpa using this)
            have hd : ((g[k].toNat : Int) == (s[j].toNat : Int)) = true := by rw [hq]; simp
            clear hq
            go_wp2_with fail
            go_quiet (fail)
            go_wp2_with fail
            go_ret
            exact ⟨by rw [← HE.out]; rfl, below_drewN HW.out _⟩
          · have hd : ((g[k].toNat : Int) == (s[j].toNat : Int)) = false := by
              rw [beq_eq_false_iff_ne]
              intro e
              exact hq (UInt8.toNat_inj.1 (by omega))
            have HO2 := hid (show ∀ m (hm : m < g.size), m < k + 1 → ¬ g[m] = s[j] from fun m hm hmk => by
              rcases Nat.lt_or_eq_of_le (Nat.le_of_lt_succ hmk) with h' | h'
              · exact HO.out m hm h'
              · subst h'; exact hq)
            clear hq
            go_wp2_with fail
            go_quiet (fail)
            go_wp2_with fail
            go_roundw
            case rel => exact ⟨k + 1, by go_num, by omega, HO2.out, below_drewN HW.out _⟩
            case measure => simp [intOf]; omega
        · have hke : k = g.size := by omega
          subst hke
          have HC := hid (contains_not g s[j] (fun m hm => HO.out m hm hm))
          have HJ2 := hid (show (j + 1) + (tillL g.data.toList (s.data.toList.drop (j + 1))).length = V by
            have := HJ.out
            rw [HD.out, till_cons_out HC.out, List.length_cons] at this
            omega)
          go_wp2_with fail
          go_roundw
          case rel => exact ⟨j + 1, by go_num, by omega, HJ2.out, HW.out⟩
          case measure => simp [intOf]; omega
    · have hje : j = s.size := by omega
      have HE := hid (show j = V by
        have := HJ.out
        rw [drop_end s j (by omega)] at this
        exact this)
      clear hje
      go_wp2_with fail
      go_ret
      exact ⟨by rw [← HE.out]; rfl, HW.out⟩

theorem slS (s : ByteArray) (x y : Int) (a b : Nat) (hx : x = a) (hy : y = b) (h1 : a ≤ b) (h2 : b ≤ s.size) :
    ∀ W, (Instr.slice 9 (.string s) (some (.int .i64 x)) (some (.int .i64 y)) none).run Tryz.prog W = .ok (.string (s.extract a b)) W := by
  intro W
  subst hx hy
  have := run_slice_string (P := Tryz.prog) W 9 s .i64 .i64 (a : Int) (b : Int) Tryz.underlying9 (by omega) (by omega) (by omega)
  simpa using this

theorem ext_eq (s : ByteArray) (t : List UInt8) (a b : Nat) : ((s.extract a b).toList == t) = decide ((s.data.toList.drop a).take (b - a) = t) ∧ ((s.extract a b).toList != t) = !decide ((s.data.toList.drop a).take (b - a) = t) := by
  have e : (s.extract a b).toList = (s.data.toList.drop a).take (b - a) := by
    rw [ByteArray.toList_eq, ByteArray.data_extract, Array.toList_extract, List.extract_eq_take_drop]
  rw [e]
  have h : ((s.data.toList.drop a).take (b - a) == t) = decide ((s.data.toList.drop a).take (b - a) = t) := by
    by_cases h : (s.data.toList.drop a).take (b - a) = t
    · rw [decide_eq_true h]; simpa using h
    · rw [decide_eq_false h]; simpa using h
  exact ⟨h, by rw [bne, h]⟩

theorem scanR_step {l : List UInt8} (h : 2 < l.length) (hn : ¬ l.take 2 = [45, 45]) : scanR l = scanR (l.drop 1) := by
  match l, h with
  | a :: b :: c :: r, _ =>
    rw [scanR, if_neg (fun x => hn (by simp [x.1, x.2]))]
    rfl

theorem scanR_yes {l : List UInt8} (h : 2 < l.length) (hn : l.take 2 = [45, 45]) (he : l[2] = 62) : scanR l = some (l.drop 3) := by
  match l, h with
  | a :: b :: c :: r, _ =>
    simp at hn
    have hc : c = 62 := he
    rw [scanR, if_pos hn, if_pos hc]
    rfl

theorem scanR_no {l : List UInt8} (h : 2 < l.length) (hn : l.take 2 = [45, 45]) (he : ¬ l[2] = 62) : scanR l = none := by
  match l, h with
  | a :: b :: c :: r, _ =>
    simp at hn
    have hc : ¬ c = 62 := he
    rw [scanR, if_pos hn, if_neg hc]

theorem scanR_short {l : List UInt8} (h : ¬ 2 < l.length) : scanR l = none := by
  match l with
  | [] => rfl
  | [_] => rfl
  | [_, _] => rfl
  | a :: b :: c :: r => simp at h

/-- What l7Remark answers: the place behind, or -1. -/
def remI (s : ByteArray) (p : Nat) : Int := match remL (s.data.toList.drop p) with | some r => ((s.size - r.length : Nat) : Int) | none => -1

def scanI (s : ByteArray) (j : Nat) : Int := match scanR (s.data.toList.drop j) with | some r => ((s.size - r.length : Nat) : Int) | none => -1

set_option maxRecDepth 8000 in
set_option maxHeartbeats 2000000 in
theorem cRemark (s : ByteArray) (p : Nat) (w : World) (hp : p ≤ s.size) (hs : s.size ≤ 1048576) :
    Calls Tryz.prog 114 #[.string s, .int .i64 p] w fun e w' => e = .returned (.int .i64 (remI s p)) ∧ w' = w := by
  obtain ⟨V, hV⟩ : ∃ V, remI s p = V := ⟨_, rfl⟩
  have HV := hid hV
  rw [hV]
  clear hV
  have hlen : s.data.toList.length = s.size := rfl
  by_cases h4 : s.size < p + 4
  · have HW := hid (show V = -1 by
      rw [← HV.out]
      unfold remI remL
      rw [if_neg (fun e => by have := congrArg List.length e; simp at this; omega)])
    have hd : decide ((s.size : Int) < (p : Int) + 4) = true := decide_eq_true (by omega)
    go_enter Tryz.func114, Tryz.ntmps114
    go_wp2_with fail
    go_ret
    exact ⟨by rw [HW.out]; rfl, rfl⟩
  · have hd : decide ((s.size : Int) < (p : Int) + 4) = false := decide_eq_false (by omega)
    obtain ⟨E, E'⟩ := ext_eq s [60, 33, 45, 45] p (p + 4)
    rw [show p + 4 - p = 4 by omega] at E E'
    have hsl := slS s (p : Int) ((p : Int) + 4) p (p + 4) rfl (by omega) (by omega) (by omega)
    by_cases hq : (s.data.toList.drop p).take 4 = [60, 33, 45, 45]
    · have HS := hid (show scanI s (p + 4) = V by
        rw [← HV.out]
        unfold remI remL scanI
        rw [if_pos hq, List.drop_drop])
      rw [decide_eq_true hq] at E E'
      clear hq
      go_enter Tryz.func114, Tryz.ntmps114
      go_wp2_with fail
      go_loop [5] (fun x => ∃ j : Nat, x = .int .i64 (j : Int) ∧ j ≤ s.size ∧ Hid (scanI s j = V)) (fun x => s.size - (intOf x).toNat)
      case atStart => exact ⟨p + 4, by go_num, by omega, HS.out⟩
      case round =>
        clear E E' hd h4 hsl
        obtain ⟨j, rfl, hj, HJ⟩ := hrel
        by_cases hlt : j + 2 < s.size
        · have hlt' : 2 < (s.data.toList.drop j).length := by rw [List.length_drop, hlen]; omega
          have hd : decide ((j : Int) + 2 < (s.size : Int)) = true := decide_eq_true (by omega)
          obtain ⟨E, E'⟩ := ext_eq s [45, 45] j (j + 2)
          rw [show j + 2 - j = 2 by omega] at E E'
          have hsl := slS s (j : Int) ((j : Int) + 2) j (j + 2) rfl (by omega) (by omega) (by omega)
          have hg : (s.data.toList.drop j)[2]'hlt' = s[j + 2] := by
            rw [List.getElem_drop]
            rfl
          by_cases hq : (s.data.toList.drop j).take 2 = [45, 45]
          · rw [decide_eq_true hq] at E E'
            by_cases hc : s[j + 2] = 62
            · have HW := hid (show (j : Int) + 3 = V by
                rw [← HJ.out]
                unfold scanI
                rw [scanR_yes hlt' hq (by rw [hg]; exact hc), List.drop_drop]
                simp only [List.length_drop, hlen]
                omega)
              have hx : ((s[j + 2].toNat : Int) == 62) = true := by rw [hc]; rfl
              clear hq hc hg hlt'
              go_wp2_with fail
              go_ret
              exact ⟨by rw [← HW.out]; rfl, rfl⟩
            · have HW := hid (show (-1 : Int) = V by
                rw [← HJ.out]
                unfold scanI
                rw [scanR_no hlt' hq (by rw [hg]; exact hc)])
              have hx : ((s[j + 2].toNat : Int) == 62) = false := by
                rw [beq_eq_false_iff_ne]
                intro e
                exact hc (UInt8.toNat_inj.1 (by show s[j + 2].toNat = 62; omega))
              clear hq hc hg hlt'
              go_wp2_with fail
              go_ret
              exact ⟨by rw [← HW.out]; rfl, rfl⟩
          · rw [decide_eq_false hq] at E E'
            have HN := hid (show scanI s (j + 1) = V by
              rw [← HJ.out]
              unfold scanI
              rw [scanR_step hlt' hq, List.drop_drop])
            clear hq hg hlt'
            go_wp2_with fail
            go_round
            case rel => exact ⟨j + 1, by go_num, by omega, HN.out⟩
            case measure => simp [intOf]; omega
        · have hd : decide ((j : Int) + 2 < (s.size : Int)) = false := decide_eq_false (by omega)
          have HW := hid (show (-1 : Int) = V by
            rw [← HJ.out]
            unfold scanI
            rw [scanR_short (by rw [List.length_drop, hlen]; omega)])
          go_wp2_with fail
          go_ret
          exact ⟨by rw [← HW.out]; rfl, rfl⟩
    · have HW := hid (show V = -1 by
        rw [← HV.out]
        unfold remI remL
        rw [if_neg hq])
      rw [decide_eq_false hq] at E E'
      clear hq
      go_enter Tryz.func114, Tryz.ntmps114
      go_wp2_with fail
      go_ret
      exact ⟨by rw [HW.out]; rfl, rfl⟩

end Go.Proofs.YteninofjeidljaaGreat

namespace Go.Proofs.YteninofjeidljaaGreat

open Go.RowKit

set_option linter.unusedVariables false

set_option linter.unusedSimpArgs false

end Go.Proofs.YteninofjeidljaaGreat

namespace Go.Proofs.YteninofjeidljaaGreat

open Go.RowKit

set_option linter.unusedVariables false

set_option linter.unusedSimpArgs false

/-- A store into a row of cells. -/
theorem heap_set {w : World} {g i : Nat} {cur : Array Value} {T : TypeId} (h : w.heap[g]? = some (.cells cur T (0, 0))) (v : Value) :
    (w.setCell ⟨g, i, none⟩ v).heap[g]? = some (.cells (cur.setIfInBounds i v) T (0, 0)) := by
  simp [World.setCell, Array.getElem?_modify, h]

end Go.Proofs.YteninofjeidljaaGreat
