/- Contracts of the methods by which a sign is written: reference, itself, inText, inQuotes. Contracts of the program's claimName, declaration (of the claims' own prefix), withKid. Plain mathematics of times: the date of a day, the text of a time, later times have greater texts, a time is read from its text alone. -/
import Derived.Test.YtcjeodgfpnecgaaGreatDoorRows
import Derived.Test.YtcjeodgfpnecgaaGreatDoorM6
import Derived.Test.YtcjeodgfpnecgaaGreatDoorM1
import Derived.Test.YtcjeodgfpnecgaaGreatDoorM16
import Derived.Test.YtcjeodgfpnecgaaGreatDoorM7
import Derived.WalkKit
import Derived.Deep.RegionHeld3
import Derived.Lib.ItoaNum
namespace Go.Proofs.YtcjeodgfpnecgaaGreatDoor
open Go.RowKit

theorem c__impl_sign__itself (b : UInt8) (w : World) :
    Calls Tryz.prog 37 #[.int .u8 b.toNat] w fun e w' => e = .returned (.string ⟨#[b]⟩) ∧ Below w.heap.size w w' := by
  have hown : (w.alloc (.cells #[.int .u8 b.toNat] 5)).ownsRow 0 5 1 (.slice (some ⟨w.heap.size, 0, none⟩) [b].length 1) [b].length (Lib.byteCells [b]) :=
    ⟨rfl, .inr ⟨w.heap.size, 1, #[.int .u8 b.toNat], rfl, Nat.zero_le _, heap_alloc_new w _, Nat.le_refl _, by decide, rfl, rfl⟩⟩
  have hrun := run_str_own (P := Tryz.prog) (src := 89) (dst := 9) Tryz.underlying89 Tryz.underlying5 Tryz.underlying9 hown
  have hr : (convert 89 9 (.slice (some ⟨w.heap.size, 0, none⟩) 1 1)).run Tryz.prog (w.alloc (.cells #[.int .u8 b.toNat] 5)) = .ok (.string ⟨#[b]⟩) (w.alloc (.cells #[.int .u8 b.toNat] 5)) := hrun
  clear hown hrun
  go_enter Tryz.func37, Tryz.ntmps37
  go_wp2
  go_ret
  exact ⟨rfl, (Below.refl _ _).alloc (Nat.le_refl _) _⟩

theorem c__impl_sign__itself_34 (w : World) : Calls Tryz.prog 37 #[.int .u8 34] w fun e w' => e = .returned (.string ⟨#[34]⟩) ∧ Below w.heap.size w w' := c__impl_sign__itself 34 w
theorem c__impl_sign__itself_62 (w : World) : Calls Tryz.prog 37 #[.int .u8 62] w fun e w' => e = .returned (.string ⟨#[62]⟩) ∧ Below w.heap.size w w' := c__impl_sign__itself 62 w

theorem ret_str {a b : List UInt8} (h : a = b) : Ending.returned (.string ⟨a.toArray⟩) = .returned (.string ⟨b.toArray⟩) := by rw [h]

end Go.Proofs.YtcjeodgfpnecgaaGreatDoor

namespace Go.Proofs.YtcjeodgfpnecgaaGreatDoor
open Go.RowKit
set_option linter.unusedVariables false
set_option linter.unusedSimpArgs false

theorem q_itself (w : World) : Calls Tryz.prog 37 #[.int .u8 58] w fun e w' => e = .returned (.string ⟨#[58]⟩) ∧ Below w.heap.size w w' := c__impl_sign__itself 58 w

/-- A name with the prefix of the claims. -/
def cName (s : ByteArray) : ByteArray := (⟨#[99, 58]⟩ : ByteArray) ++ s

set_option maxHeartbeats 2000000 in
theorem cClaimName (s : ByteArray) (w : World) (hs : s.size ≤ 1048576) :
    Calls Tryz.prog 48 #[.string s] w fun e w' => e = .returned (.string (cName s)) ∧ Below w.heap.size w w' := by
  have C := hid q_itself
  unfold cName
  obtain ⟨N, hN⟩ : ∃ N, (⟨#[99, 58]⟩ : ByteArray) ++ s = N := ⟨_, rfl⟩
  rw [hN]
  have e1 : (⟨#[99]⟩ : ByteArray) ++ ⟨#[58]⟩ = ⟨#[99, 58]⟩ := rfl
  have z1 : (⟨#[99]⟩ : ByteArray).size + (⟨#[58]⟩ : ByteArray).size ≤ 9223372036854775807 := by decide
  have z2 : (⟨#[99, 58]⟩ : ByteArray).size + s.size ≤ 9223372036854775807 := by
    have : (⟨#[99, 58]⟩ : ByteArray).size = 2 := rfl
    omega
  go_enter Tryz.func48, Tryz.ntmps48
  go_wp2_with fail
  refine (C.out _).mono ?_
  rintro e w1 ⟨rfl, hb1⟩
  have HB1 := hid hb1
  clear hb1
  go_wp2_with fail
  go_ret
  exact ⟨rfl, HB1.out⟩

theorem q_box2 {w : World} {g : Nat} {x y : Value} {T : TypeId} (h : w.heap[g]? = some (.cells #[x, y] T (0, 0))) : (w.cell? ⟨g, 0, none⟩ = some x ∧ w.cell? ⟨g, 1, none⟩ = some y) ∧ w.frozen? ⟨g, 0, none⟩ = false ∧ w.frozen? ⟨g, 1, none⟩ = false :=
  ⟨⟨by rw [Lib.cell_of_heap h]; rfl, by rw [Lib.cell_of_heap h]; rfl⟩, Lib.frozen_of_heap h 0, Lib.frozen_of_heap h 1⟩

set_option maxHeartbeats 2000000 in
theorem cDecl (w : World) :
    Calls Tryz.prog 38 #[.string ⟨#[99]⟩, .string claimS] w fun e w' => e = .returned (.agg #[.string nsCS, .string claimS]) ∧ Below w.heap.size w w' := by
  have HB0 := hid ((Below.refl w.heap.size w).alloc (Nat.le_refl _) (.cells #[.string ⟨#[]⟩, .string ⟨#[]⟩] 58))
  have M1 := hid (heap_alloc_new w (.cells #[.string ⟨#[]⟩, .string ⟨#[]⟩] 58))
  have E : (⟨#[99]⟩ : ByteArray).toList.isEmpty = false := by rw [empty_is]; rfl
  have C := hid q_itself
  generalize claimS = m
  have e1 : (⟨#[110, 115]⟩ : ByteArray) ++ ⟨#[58]⟩ = ⟨#[110, 115, 58]⟩ := rfl
  have e2 : (⟨#[110, 115, 58]⟩ : ByteArray) ++ ⟨#[99]⟩ = nsCS := rfl
  have z1 : (⟨#[110, 115]⟩ : ByteArray).size + (⟨#[58]⟩ : ByteArray).size ≤ 9223372036854775807 := by decide
  have z2 : (⟨#[110, 115, 58]⟩ : ByteArray).size + (⟨#[99]⟩ : ByteArray).size ≤ 9223372036854775807 := by decide
  go_enter Tryz.func38, Tryz.ntmps38
  go_wp2_with fail
  refine (C.out _).mono ?_
  rintro e w1 ⟨rfl, hb1⟩
  have HB1 := hid (bb HB0.out hb1)
  obtain ⟨⟨y0, y1⟩, f0, f1⟩ := q_box2 (blk_below M1.out hb1)
  clear hb1
  go_wp2_with fail
  refine bodyPost_ret (v := .agg #[.string nsCS, .string m]) (by simp [results, Tryz.results38, go_sem, y0, y1]) rfl ⟨rfl, ?_⟩
  iterate 2 refine Below.setCell ?_ (show w.heap.size ≤ w.heap.size from Nat.le_refl _) _
  exact HB1.out

set_option maxRecDepth 8000 in
set_option maxHeartbeats 4000000 in
theorem cWithKid (B : Nat) (w : World) (v : Value) (L : List Tk) (loc : ByteArray) (x : Say) (a1 : Option Addr) (c1 : Nat) (hrow : KRow B w v L) (hA : KAts w v a1 x.attrs) (hl : loc.size ≤ 1000) (hn : L.length ≤ 100000) :
    Calls Tryz.prog 50 #[v, .string loc, .agg #[.slice a1 x.attrs.length c1, .string x.text]] w fun e w' => ∃ v', e = .returned v' ∧ KRow B w' v' (addN L (cName loc) x) ∧ Kept v w v' w' ∧ Below B w w' := by
  have CN := hid (fun wx => cClaimName loc wx (by omega))
  have E := empty_is x.text
  obtain ⟨nA, hnA⟩ : ∃ nA, x.attrs.length = nA := ⟨_, rfl⟩
  have HNA := hid hnA
  rw [hnA]
  obtain ⟨a8, c8, hv⟩ := hrow.slice
  have HV := hid hv
  have HN := hid hn
  have HB0 := hid ((Below.refl w.heap.size w).alloc (Nat.le_refl _) (.cells #[.slice a1 nA c1, .string x.text] 85))
  have M0 := hid (heap_alloc_new w (.cells #[.slice a1 nA c1, .string x.text] 85))
  obtain ⟨w0, hw0⟩ : ∃ w0, w.alloc (.cells #[.slice a1 nA c1, .string x.text] 85) = w0 := ⟨_, rfl⟩
  rw [hw0] at HB0 M0
  have HR0 := hid (hrow.below HB0.out)
  have HA0 := hid (hA.below HB0.out)
  have HO0 := hid (hrow.other (.inl (Nat.le_refl w.heap.size)))
  have HBB := hid hrow.base
  obtain ⟨bx, hbx⟩ : ∃ bx, w.heap.size = bx := ⟨_, rfl⟩
  rw [hbx] at M0 HO0
  subst hv
  obtain ⟨n, hn2⟩ : ∃ n, L.length = n := ⟨_, rfl⟩
  have HLn := hid hn2
  rw [hn2] at HN HR0 HA0 HO0 ⊢
  clear hrow hA hl hn hnA hn2
  go_enter Tryz.func50, Tryz.ntmps50
  go_wp2_with fail
  have HBc := hid ((Below.refl w0.heap.size w0).drew)
  have HSX := hid (show ∀ W', Below w0.heap.size w0 W' → W'.cell? ⟨bx, 0, none⟩ = some (.slice a1 nA c1) ∧ W'.cell? ⟨bx, 1, none⟩ = some (.string x.text) from fun W' hb => (q_box2 (blk_below M0.out hb)).1)
  have HFX := hid (show ∀ W v' W', Below w0.heap.size w0 W → Kept (.slice a8 n c8) W v' W' → W'.cell? ⟨bx, 0, none⟩ = some (.slice a1 nA c1) ∧ W'.cell? ⟨bx, 1, none⟩ = some (.string x.text) from fun W v' W' hb hk => (q_box2 (hk _ _ (blk_below M0.out hb) HO0.out).1).1)
  go_region_held3 (fun w' => w'.cell? ⟨bx, 0, none⟩ = some (.slice a1 nA c1) ∧ w'.cell? ⟨bx, 1, none⟩ = some (.string x.text)) (first | exact HS6.out | exact HSX.out _ HBc.out | exact HSX.out _ (HBc.out.alloc HBc.out.size _))
    (first
      | (go_at_call 48; refine (CN.out _).mono ?_; rintro e w1 ⟨rfl, hb1⟩; replace HBc := hid (bb HBc.out hb1); clear hb1)
      | (refine step_k rfl (.tmp 10) (.tmp 16) rfl B (.slice a8 n c8) L (by simp [Act.eval, Act.put]) (HR0.out.below (HBc.out.alloc HBc.out.size _)) ⟨0, cName loc, x.attrs, nE⟩ a1 c1 _ nA (by simp [Act.eval, Act.put]) HNA.out (heap_alloc_new _ _) (HA0.out.below (HBc.out.alloc HBc.out.size _)) (by have := HLn.out; have := HN.out; omega) ?_; rintro v6 w6 ⟨hr6, hk6, hb6⟩; have HS6 := hid (HFX.out _ _ _ (HBc.out.alloc HBc.out.size _) hk6); have HR6 := hid hr6; have HK6 := hid ((Kept.of_below (bb HB0.out (HBc.out.alloc HBc.out.size _))).trans hk6); have HB6 := hid (((bb HB0.out (HBc.out.alloc HBc.out.size _)).mono HBB.out).trans hb6); clear hr6 hk6 hb6))
  obtain ⟨f0, f1⟩ := HS6.out
  obtain ⟨a9, c9, hv9⟩ := HR6.out.slice
  have hl1 : (L ++ [(⟨0, cName loc, x.attrs, nE⟩ : Tk)]).length = n + 1 := by have := HLn.out; simp; omega
  rw [hl1] at hv9
  by_cases ht : x.text.size = 0
  · rw [decide_eq_true ht] at E
    have HE := hid (show addN L (cName loc) x = L ++ [⟨0, cName loc, x.attrs, nE⟩] from if_pos ht)
    clear ht hw0 hv9
    go_wp2_with fail
    go_ret
    exact ⟨v6, rfl, by rw [HE.out]; exact HR6.out, HK6.out, HB6.out⟩
  · rw [decide_eq_false ht] at E
    have HE := hid (show addN L (cName loc) x = L ++ [⟨0, cName loc, x.attrs, nE⟩] ++ [⟨(n : Int), nE, [], x.text⟩] by rw [← HLn.out]; exact if_neg ht)
    have HBX := hid ((Below.refl w6.heap.size w6).alloc (Nat.le_refl _) (.cells #[.int .i64 (n : Int), .string nE, .slice none 0 0, .string x.text] 44))
    have HH1 := hid (heap_alloc_new w6 (.cells #[.int .i64 (n : Int), .string nE, .slice none 0 0, .string x.text] 44))
    obtain ⟨W1, hW1⟩ : ∃ W, w6.alloc (.cells #[.int .i64 (n : Int), .string nE, .slice none 0 0, .string x.text] 44) = W := ⟨_, rfl⟩
    rw [hW1] at HBX HH1
    obtain ⟨s1, hs1⟩ : ∃ sz, w6.heap.size = sz := ⟨_, rfl⟩
    rw [hs1] at HH1
    have HLn2 := hid (show (L ++ [(⟨0, cName loc, x.attrs, nE⟩ : Tk)]).length ≤ 1000000 by have := HN.out; omega)
    have HR7 := hid (HR6.out.below HBX.out)
    have HK7 := hid (HK6.out.trans (Kept.of_below HBX.out))
    have HB7 := hid (HB6.out.trans (HBX.out.mono HR6.out.base))
    unfold nE at hW1
    subst hv9
    clear ht hw0 hl1
    go_wp2_with (at_builtin; refine wpL_k W1 rfl _ _ rfl B (.slice a9 (n + 1) c9) (L ++ [⟨0, cName loc, x.attrs, nE⟩]) rfl HR7.out ⟨(n : Int), nE, [], x.text⟩ none 0 s1 0 rfl rfl HH1.out (KAts.nil _ _ _) HLn2.out ?_)
    intro v8 w8 hr8 hk8 hb8
    have HR8 := hid hr8
    have HK8 := hid (HK7.out.trans hk8)
    have HB8 := hid (HB7.out.trans hb8)
    clear hr8 hk8 hb8
    go_wp2_with fail
    go_ret
    exact ⟨v8, rfl, by rw [HE.out, List.append_assoc]; exact HR8.out, HK8.out, HB8.out⟩

end Go.Proofs.YtcjeodgfpnecgaaGreatDoor

namespace Go.Proofs.YtcjeodgfpnecgaaGreatDoor

/-- A digit. -/
def dgt (k : Nat) : UInt8 := UInt8.ofNat (48 + k)

/-- Two digits. -/
def two (n : Nat) : List UInt8 := [dgt (n / 10), dgt (n % 10)]

theorem dgt_toNat (k : Nat) (h : k < 10) : (dgt k).toNat = 48 + k := by
  unfold dgt
  rw [UInt8.toNat_ofNat']
  omega

/-- A leap year's day. -/
def lp (k : Nat) : Nat := if k % 4 = 0 then 1 else 0

/-- The days ahead of year 2000 + k. -/
def yb (k : Nat) : Nat := 365 * k + (k + 3) / 4

/-- The days ahead of month m, in a year of l days more than 365. -/
def mb (l : Nat) : Nat → Nat
  | 1 => 0
  | 2 => 31
  | 3 => 59 + l
  | 4 => 90 + l
  | 5 => 120 + l
  | 6 => 151 + l
  | 7 => 181 + l
  | 8 => 212 + l
  | 9 => 243 + l
  | 10 => 273 + l
  | 11 => 304 + l
  | 12 => 334 + l
  | _ => 365 + l

/-- The days of month m. -/
def dm (l : Nat) : Nat → Nat
  | 1 => 31
  | 2 => 28 + l
  | 3 => 31
  | 4 => 30
  | 5 => 31
  | 6 => 30
  | 7 => 31
  | 8 => 31
  | 9 => 30
  | 10 => 31
  | 11 => 30
  | 12 => 31
  | _ => 0

theorem yb_succ (k : Nat) : yb (k + 1) = yb k + (365 + lp k) := by
  unfold yb lp
  split <;> omega

theorem yb_le {k k' : Nat} (h : k ≤ k') : yb k ≤ yb k' := by unfold yb; omega

theorem yb_lt_inv {k : Nat} (h : yb k < 36525) : k < 100 := by unfold yb at h; omega

theorem month_cases {m : Nat} (h1 : 1 ≤ m) (h2 : m ≤ 12) : m = 1 ∨ m = 2 ∨ m = 3 ∨ m = 4 ∨ m = 5 ∨ m = 6 ∨ m = 7 ∨ m = 8 ∨ m = 9 ∨ m = 10 ∨ m = 11 ∨ m = 12 := by omega

theorem mb_succ (l m : Nat) (h1 : 1 ≤ m) (h2 : m ≤ 12) : mb l (m + 1) = mb l m + dm l m := by
  rcases month_cases h1 h2 with h | h | h | h | h | h | h | h | h | h | h | h <;> subst h <;> simp only [mb, dm] <;> omega

theorem mb_le (l m : Nat) (h1 : 1 ≤ m) (h2 : m ≤ 12) : ∀ j : Nat, m + j ≤ 13 → mb l m ≤ mb l (m + j)
  | 0, _ => Nat.le_refl _
  | j + 1, h => by
    have := mb_le l m h1 h2 j (by omega)
    have e := mb_succ l (m + j) (by omega) (by omega)
    rw [show m + (j + 1) = m + j + 1 by omega, e]
    omega

theorem mb_13 (l : Nat) : mb l 13 = 365 + l := rfl

theorem dm_pos (l m : Nat) (h1 : 1 ≤ m) (h2 : m ≤ 12) : 28 ≤ dm l m ∧ dm l m ≤ 31 + l := by
  rcases month_cases h1 h2 with h | h | h | h | h | h | h | h | h | h | h | h <;> subst h <;> simp only [dm] <;> omega

/-- Day d is the dd-th of month m of year 2000 + k. -/
structure IsDate (d k m dd : Nat) : Prop where
  k1 : k < 100
  m0 : 1 ≤ m
  m1 : m ≤ 12
  d0 : 1 ≤ dd
  d1 : dd ≤ dm (lp k) m
  eq : d + 1 = yb k + mb (lp k) m + dd

theorem date_lt {d k m dd d' k' m' dd' : Nat} (h : IsDate d k m dd) (h' : IsDate d' k' m' dd') (hl : d < d') : k < k' ∨ k = k' ∧ (m < m' ∨ m = m' ∧ dd < dd') := by
  rcases Nat.lt_trichotomy k k' with hk | hk | hk
  · exact .inl hk
  · subst hk
    refine .inr ⟨rfl, ?_⟩
    rcases Nat.lt_trichotomy m m' with hm | hm | hm
    · exact .inl hm
    · subst hm
      have := h.eq; have := h'.eq
      exact .inr ⟨rfl, by omega⟩
    · exfalso
      have e := mb_succ (lp k) m' h'.m0 h'.m1
      have := mb_le (lp k) (m' + 1) (by omega) (by have := h.m1; omega) (m - (m' + 1)) (by have := h.m1; omega)
      rw [show m' + 1 + (m - (m' + 1)) = m by omega, e] at this
      have := h.eq; have := h'.eq; have := h'.d1
      omega
  · exfalso
    have e := yb_succ k'
    have a := yb_le (show k' + 1 ≤ k by omega)
    have e2 := mb_succ (lp k') m' h'.m0 h'.m1
    have b : mb (lp k') (m' + 1) ≤ 365 + lp k' := by
      rcases Nat.lt_or_ge m' 12 with hm | hm
      · have := mb_le (lp k') (m' + 1) (by omega) (by omega) (13 - (m' + 1)) (by omega)
        rw [show m' + 1 + (13 - (m' + 1)) = 13 by omega, mb_13] at this
        exact this
      · have : m' = 12 := by have := h'.m1; omega
        subst this
        exact Nat.le_of_eq (mb_13 _)
    have := h.eq; have := h'.eq; have := h'.d1; have := h.d0
    omega

theorem date_unique {d k m dd k' m' dd' : Nat} (h : IsDate d k m dd) (h' : IsDate d k' m' dd') : k = k' ∧ m = m' ∧ dd = dd' := by
  have key : ∀ {k m dd k' m' dd' : Nat}, IsDate d k m dd → IsDate d k' m' dd' → ¬ (k < k' ∨ k = k' ∧ (m < m' ∨ m = m' ∧ dd < dd')) := by
    intro k m dd k' m' dd' a b hlt
    rcases hlt with hk | ⟨rfl, hm | ⟨rfl, hd⟩⟩
    · -- the later date would be of a later day
      have e := yb_succ k
      have c := yb_le (show k + 1 ≤ k' by omega)
      have e2 := mb_succ (lp k) m a.m0 a.m1
      have f : mb (lp k) (m + 1) ≤ 365 + lp k := by
        rcases Nat.lt_or_ge m 12 with hm | hm
        · have := mb_le (lp k) (m + 1) (by omega) (by omega) (13 - (m + 1)) (by omega)
          rw [show m + 1 + (13 - (m + 1)) = 13 by omega, mb_13] at this
          exact this
        · have : m = 12 := by have := a.m1; omega
          subst this
          exact Nat.le_of_eq (mb_13 _)
      have := a.eq; have := b.eq; have := a.d1; have := b.d0
      omega
    · have e := mb_succ (lp k) m a.m0 a.m1
      have := mb_le (lp k) (m + 1) (by omega) (by have := b.m1; omega) (m' - (m + 1)) (by have := b.m1; omega)
      rw [show m + 1 + (m' - (m + 1)) = m' by omega, e] at this
      have := a.eq; have := b.eq; have := a.d1; have := b.d0
      omega
    · have := a.eq; have := b.eq
      omega
  have h1 := key h h'
  have h2 := key h' h
  omega

/-- A time as a text. -/
def txt (k m dd h mi s : Nat) : List UInt8 := [50, 48] ++ two k ++ [45] ++ two m ++ [45] ++ two dd ++ [84] ++ two h ++ [58] ++ two mi ++ [58] ++ two s ++ [90]

def IsText (t : Nat) (l : List UInt8) : Prop := ∃ k m dd, IsDate (t / 86400) k m dd ∧ l = txt k m dd (t % 86400 / 3600) (t % 3600 / 60) (t % 60)

theorem isText_unique {t : Nat} {l l' : List UInt8} (h : IsText t l) (h' : IsText t l') : l = l' := by
  obtain ⟨k, m, dd, a, rfl⟩ := h
  obtain ⟨k', m', dd', b, rfl⟩ := h'
  obtain ⟨rfl, rfl, rfl⟩ := date_unique a b
  rfl

theorem txt_length (k m dd h mi s : Nat) : (txt k m dd h mi s).length = 20 := by simp [txt, two]

theorem isText_length {t : Nat} {l : List UInt8} (h : IsText t l) : l.length = 20 := by
  obtain ⟨k, m, dd, a, rfl⟩ := h
  exact txt_length ..

theorem dgt_lt {a b : Nat} (hb : b < 10) (h : a < b) : dgt a < dgt b := by
  rw [UInt8.lt_iff_toNat_lt, dgt_toNat a (by omega), dgt_toNat b hb]
  omega

theorem dgt_inj {a b : Nat} (ha : a < 10) (hb : b < 10) (h : dgt a = dgt b) : a = b := by
  have := congrArg UInt8.toNat h
  rw [dgt_toNat a ha, dgt_toNat b hb] at this
  omega

theorem two_lt {a b : Nat} (hb : b < 100) (h : a < b) (x y : List UInt8) : two a ++ x < two b ++ y := by
  simp only [two, List.cons_append, List.nil_append, List.cons_lt_cons_iff]
  by_cases e : a / 10 = b / 10
  · refine .inr ⟨by rw [e], .inl (dgt_lt (by omega) (by omega))⟩
  · exact .inl (dgt_lt (by omega) (by omega))

theorem app_lt (p : List UInt8) {x y : List UInt8} (h : x < y) : p ++ x < p ++ y := by
  induction p with
  | nil => exact h
  | cons a p ih => rw [List.cons_append, List.cons_append, List.cons_lt_cons_iff]; exact .inr ⟨rfl, ih⟩

theorem two_inj {a b : Nat} (ha : a < 100) (hb : b < 100) (h : two a = two b) : a = b := by
  simp only [two, List.cons.injEq, and_true] at h
  have := dgt_inj (by omega) (by omega) h.1
  have := dgt_inj (by omega) (by omega) h.2
  omega

theorem date_bounds {d k m dd : Nat} (h : IsDate d k m dd) : k < 100 ∧ m < 100 ∧ dd < 100 := by
  have := dm_pos (lp k) m h.m0 h.m1
  have : lp k ≤ 1 := by unfold lp; split <;> omega
  have := h.k1; have := h.m1; have := h.d1
  omega

/-- LATER TIMES HAVE GREATER TEXTS. -/
theorem isText_lt {t t' : Nat} {l l' : List UInt8} (h : IsText t l) (h' : IsText t' l') (hl : t < t') : l < l' := by
  obtain ⟨k, m, dd, a, rfl⟩ := h
  obtain ⟨k', m', dd', b, rfl⟩ := h'
  obtain ⟨b1, b2, b3⟩ := date_bounds b
  simp only [txt, List.append_assoc]
  apply app_lt
  by_cases hd : t / 86400 = t' / 86400
  · rw [hd] at a
    obtain ⟨rfl, rfl, rfl⟩ := date_unique a b
    repeat (first | apply app_lt (two _) | apply app_lt [_])
    skip
    by_cases hh : t % 86400 / 3600 = t' % 86400 / 3600
    · rw [hh]
      apply app_lt; apply app_lt
      by_cases hm : t % 3600 / 60 = t' % 3600 / 60
      · rw [hm]
        apply app_lt; apply app_lt
        exact two_lt (by omega) (by omega) _ _
      · exact two_lt (by omega) (by omega) _ _
    · exact two_lt (by omega) (by omega) _ _
  · rcases date_lt a b (by omega) with hk | ⟨rfl, hm | ⟨rfl, hd⟩⟩
    · exact two_lt b1 hk _ _
    · apply app_lt; apply app_lt
      exact two_lt b2 hm _ _
    · apply app_lt; apply app_lt; apply app_lt; apply app_lt
      exact two_lt b3 hd _ _

theorem list_lt_irrefl (l : List UInt8) : ¬ l < l := by
  induction l with
  | nil => exact List.not_lt_nil _
  | cons a l ih =>
    rw [List.cons_lt_cons_iff]
    rintro (h | ⟨_, h⟩)
    · exact absurd h (UInt8.lt_irrefl a)
    · exact ih h

theorem isText_inj {t t' : Nat} {l : List UInt8} (h : IsText t l) (h' : IsText t' l) : t = t' := by
  rcases Nat.lt_trichotomy t t' with hl | hl | hl
  · exact absurd (isText_lt h h' hl) (list_lt_irrefl l)
  · exact hl
  · exact absurd (isText_lt h' h hl) (list_lt_irrefl l)

end Go.Proofs.YtcjeodgfpnecgaaGreatDoor
