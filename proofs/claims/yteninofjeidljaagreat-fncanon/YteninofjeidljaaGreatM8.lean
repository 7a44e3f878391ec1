/- A row of tokens: read; owned; two rows compared. Contract of l7Tag of the specification: a closing tag. What a tree is: who stands open around a node (plain mathematics). Contract of what the specification asks for a node's depth. -/
import Derived.Test.YteninofjeidljaaGreatM7
import Derived.Test.YteninofjeidljaaGreatM4
namespace Go.Proofs.YteninofjeidljaaGreat

open Go.RowKit

set_option linter.unusedVariables false

set_option linter.unusedSimpArgs false

/-- The tokens lie in a row from a on, each with its attrs. -/
def TkRow (w : World) (a : Option Addr) (ts : List Tk) : Prop :=
  ∀ j (h : j < ts.length), ∃ b o aa cap, a = some ⟨b, o, none⟩ ∧ b < w.heap.size ∧ w.cell? ⟨b, o + j * 4, none⟩ = some (.int .i64 ts[j].kind) ∧ w.cell? ⟨b, o + j * 4 + 1, none⟩ = some (.string ts[j].name)
    ∧ w.cell? ⟨b, o + j * 4 + 2, none⟩ = some (.slice aa ts[j].attrs.length cap) ∧ w.cell? ⟨b, o + j * 4 + 3, none⟩ = some (.string ts[j].text) ∧ AtRow w aa ts[j].attrs

theorem TkRow.below {w w' : World} {a : Option Addr} {ts : List Tk} (h : TkRow w a ts) (hb : Below w.heap.size w w') : TkRow w' a ts := by
  intro j hj
  obtain ⟨b, o, aa, cap, ha, hlt, c0, c1, c2, c3, hr⟩ := h j hj
  exact ⟨b, o, aa, cap, ha, Nat.lt_of_lt_of_le hlt hb.size, (hb.cell (p := ⟨b, o + j * 4, none⟩) hlt).trans c0, (hb.cell (p := ⟨b, o + j * 4 + 1, none⟩) hlt).trans c1, (hb.cell (p := ⟨b, o + j * 4 + 2, none⟩) hlt).trans c2, (hb.cell (p := ⟨b, o + j * 4 + 3, none⟩) hlt).trans c3, hr.below hb⟩

def TksSz (n : Nat) (ts : List Tk) : Prop := ∀ t ∈ ts, TkSz n t

theorem quad_bw {W : World} {b o : Nat} {x y z u : Value} (hb : b < W.heap.size) (h0 : W.cell? ⟨b, o, none⟩ = some x) (h1 : W.cell? ⟨b, o + 1, none⟩ = some y) (h2 : W.cell? ⟨b, o + 2, none⟩ = some z) (h3 : W.cell? ⟨b, o + 3, none⟩ = some u) :
    (∀ p : BW W, p.w.cell? ⟨b, o, none⟩ = some x) ∧ (∀ p : BW W, p.w.cell? ⟨b, o + 1, none⟩ = some y) ∧ (∀ p : BW W, p.w.cell? ⟨b, o + 2, none⟩ = some z) ∧ (∀ p : BW W, p.w.cell? ⟨b, o + 3, none⟩ = some u) :=
  ⟨fun p => (p.h.cell (p := ⟨b, o, none⟩) hb).trans h0, fun p => (p.h.cell (p := ⟨b, o + 1, none⟩) hb).trans h1, fun p => (p.h.cell (p := ⟨b, o + 2, none⟩) hb).trans h2, fun p => (p.h.cell (p := ⟨b, o + 3, none⟩) hb).trans h3⟩

/-- All blocks that are not of these stand as they stood. -/
structure KeepB (p : Nat → Prop) (w w' : World) : Prop where
  os : w'.os = w.os
  tape : w'.tape = w.tape
  output : w'.output = w.output
  size : w.heap.size ≤ w'.heap.size
  block : ∀ k, k < w.heap.size → ¬ p k → w'.heap[k]? = w.heap[k]?

theorem KeepB.trans {p : Nat → Prop} {a b c : World} (h : KeepB p a b) (k : KeepB p b c) : KeepB p a c :=
  ⟨k.os.trans h.os, k.tape.trans h.tape, k.output.trans h.output, Nat.le_trans h.size k.size, fun i hi hr => (k.block i (Nat.lt_of_lt_of_le hi h.size) hr).trans (h.block i hi hr)⟩

theorem KeepB.of_below (p : Nat → Prop) {w w' : World} (h : Below w.heap.size w w') : KeepB p w w' := ⟨h.os, h.tape, h.output, h.size, fun i hi _ => h.block i hi⟩

theorem KeepB.of_grown {p : Nat → Prop} {w w' : World} {g : Nat} (h : w.grownBy w' (some g)) (hp : p g) : KeepB p w w' :=
  ⟨h.os, h.tape, h.output, h.size, fun i hi hr => h.block i hi (fun e => hr (by rw [Option.some.inj e]; exact hp))⟩

theorem KeepB.of_set {p : Nat → Prop} (w : World) {g : Nat} (i : Nat) (v : Value) (hp : p g) : KeepB p w (w.setCell ⟨g, i, none⟩ v) := KeepB.of_grown (Lib.grownBy_setCell w g i v) hp

theorem KeepB.below {p : Nat → Prop} {w w' : World} {B : Nat} (h : KeepB p w w') (hB : B ≤ w.heap.size) (hp : ∀ k, p k → B ≤ k) : Below B w w' :=
  ⟨h.os, h.tape, h.output, h.size, fun i hi => h.block i (by omega) (fun e => by have := hp i e; omega)⟩

end Go.Proofs.YteninofjeidljaaGreat

namespace Go.Proofs.YteninofjeidljaaGreat

open Go.RowKit

set_option linter.unusedVariables false

set_option linter.unusedSimpArgs false

theorem ext_list7 (s : ByteArray) (a b : Nat) : (s.extract a b).data.toList = (s.data.toList.drop a).take (b - a) := by
  rw [ByteArray.data_extract, Array.toList_extract, List.extract_eq_take_drop]

theorem ext_bytes (s : ByteArray) (a b : Nat) (l : List UInt8) (h : (s.data.toList.drop a).take (b - a) = l) : s.extract a b = bytesOf l := by
  refine ByteArray.ext (Array.toList_inj.1 ?_)
  rw [ext_list7, h]
  unfold bytesOf
  simp

theorem head_at (s : ByteArray) (j : Nat) (h : j < s.size) : (s.data.toList.drop j).head? = some s[j] := by rw [drop_at s j h]; rfl

theorem head_end (s : ByteArray) (j : Nat) (h : s.size ≤ j) : (s.data.toList.drop j).head? = none := by rw [drop_end s j h]; rfl

theorem head_iff (s : ByteArray) (j : Nat) (c : UInt8) : (s.data.toList.drop j).head? = some c ↔ ∃ h : j < s.size, s[j] = c := by
  rcases Nat.lt_or_ge j s.size with h | h
  · rw [head_at s j h]
    exact ⟨fun e => ⟨h, Option.some.inj e⟩, fun ⟨_, e⟩ => by rw [e]⟩
  · rw [head_end s j h]
    exact ⟨fun e => (by cases e), fun ⟨x, _⟩ => (by omega)⟩

theorem heap2 (w : World) (A B : Obj) : ((w.alloc A).alloc B).heap[w.heap.size]? = some A ∧ ((w.alloc A).alloc B).heap[w.heap.size + 1]? = some B := by
  have s1 : (w.alloc A).heap.size = w.heap.size + 1 := by simp
  refine ⟨?_, ?_⟩
  · rw [Below.heap_alloc _ _ _ (by omega)]
    exact heap_alloc_new w A
  · rw [← s1]
    exact heap_alloc_new _ B

theorem byte_t {a : UInt8} {n : Nat} {c : UInt8} (hc : c.toNat = n) (h : a = c) : ((a.toNat : Int) == (n : Int)) = true ∧ ((a.toNat : Int) != (n : Int)) = false := by
  subst h
  rw [hc]
  exact ⟨by simp, by simp⟩

theorem byte_f {a : UInt8} {n : Nat} {c : UInt8} (hc : c.toNat = n) (h : ¬ a = c) : ((a.toNat : Int) == (n : Int)) = false ∧ ((a.toNat : Int) != (n : Int)) = true := by
  have hn : ¬ (a.toNat : Int) = (n : Int) := fun e => h (UInt8.toNat_inj.1 (by omega))
  exact ⟨by simpa using hn, by simpa using hn⟩

theorem rest_pos (s : ByteArray) (g : List UInt8) (p : Nat) : restL g (s.data.toList.drop p) = s.data.toList.drop (p + (tillL g (s.data.toList.drop p)).length) := by
  rw [rest_drop, List.drop_drop]

theorem till_pos_le (s : ByteArray) (g : List UInt8) (p : Nat) (hp : p ≤ s.size) : p + (tillL g (s.data.toList.drop p)).length ≤ s.size := by
  have := till_le g (s.data.toList.drop p)
  rw [List.length_drop, show s.data.toList.length = s.size from rfl] at this
  omega

/-- What begins with one of these signs begins with one. -/
theorem rest_head (g l : List UInt8) (c : UInt8) (h : (restL g l).head? = some c) : g.contains c = true := by
  induction l with
  | nil => simp [restL] at h
  | cons x r ih =>
    unfold restL at h
    split at h
    · rename_i hx
      simp at h
      rw [← h]
      exact hx
    · exact ih h

abbrev tkZ : Value := .agg #[.int .i64 0, .string ⟨#[]⟩, .slice none 0 0, .string ⟨#[]⟩]

/-- What l7Tag tells. -/
def TagPost (s : ByteArray) (p : Nat) (w : World) (e : Ending) (w' : World) : Prop :=
  (tagL (s.data.toList.drop p) = none → e = .returned (.tuple #[tkZ, .bool false, .int .i64 (-1)])) ∧
  (∀ t c r, tagL (s.data.toList.drop p) = some (t, c, r) → ∃ a cap, e = .returned (.tuple #[tkV t a cap, .bool c, .int .i64 ((s.size - r.length : Nat) : Int)]) ∧ AtRow w' a t.attrs ∧ TkSz 1048576 t ∧ ∀ g o, a = some ⟨g, o, none⟩ → w.heap.size ≤ g) ∧ Below w.heap.size w w'

theorem tagPost_none {s : ByteArray} {p : Nat} {w w' : World} {e : Ending} (h : tagL (s.data.toList.drop p) = none) (he : e = .returned (.tuple #[tkZ, .bool false, .int .i64 (-1)])) (hb : Below w.heap.size w w') : TagPost s p w e w' := by
  refine ⟨fun _ => he, fun t c r h' => ?_, hb⟩
  rw [h] at h'
  cases h'

theorem tagPost_some {s : ByteArray} {p : Nat} {w w' : World} {e : Ending} {t : Tk} {c : Bool} {r : List UInt8} (h : tagL (s.data.toList.drop p) = some (t, c, r)) {a : Option Addr} {cap : Nat} (he : e = .returned (.tuple #[tkV t a cap, .bool c, .int .i64 ((s.size - r.length : Nat) : Int)])) (ha : AtRow w' a t.attrs) (hz : TkSz 1048576 t) (hg : ∀ g o, a = some ⟨g, o, none⟩ → w.heap.size ≤ g) (hb : Below w.heap.size w w') : TagPost s p w e w' := by
  refine ⟨fun h' => ?_, fun t' c' r' h' => ?_, hb⟩
  · rw [h] at h'
    cases h'
  · rw [h] at h'
    simp only [Option.some.injEq, Prod.mk.injEq] at h'
    obtain ⟨rfl, rfl, rfl⟩ := h'
    exact ⟨a, cap, he, ha, hz, hg⟩

set_option maxRecDepth 8000 in
set_option maxHeartbeats 2000000 in
theorem cTagClose (s : ByteArray) (p : Nat) (w : World) (hs : s.size ≤ 4000) (hp : p + 1 < s.size) (h0 : s[p] = 60) (h1 : s[p + 1] = 47) :
    Calls Tryz.prog 115 #[.string s, .int .i64 p] w (TagPost s p w) := by
  have C := fun w => cTill s ⟨#[62]⟩ p w (by omega) (by omega) (by decide)
  rw [show (⟨#[62]⟩ : ByteArray).data.toList = [62] from rfl] at C
  have hE := till_pos_le s [62] p (by omega)
  have hr := rest_pos s [62] p
  have hd1 := drop_at s p (by omega)
  have hd2 := drop_at s (p + 1) hp
  have h2 : 2 ≤ (tillL [62] (s.data.toList.drop p)).length := by
    rw [hd1, h0, till_cons_out (by decide), hd2, h1, till_cons_out (by decide)]
    simp
  have htk := till_take [62] (s.data.toList.drop p)
  have e0 : ((s.data.toList.drop p).drop 1).head? = some 47 := by rw [List.drop_drop, head_at s (p + 1) hp, h1]
  have HT := hid (show tagL (s.data.toList.drop p) = if (restL [62] (s.data.toList.drop p)).head? = some 62 then some (⟨2, bytesOf ((tillL [62] (s.data.toList.drop p)).drop 2), [], ⟨#[]⟩⟩, false, (restL [62] (s.data.toList.drop p)).drop 1) else none by
    unfold tagL
    rw [if_pos e0])
  have b1 := (byte_t (n := 47) rfl h1).1
  obtain ⟨E, hEE⟩ : ∃ E, p + (tillL [62] (s.data.toList.drop p)).length = E := ⟨_, rfl⟩
  rw [hEE] at C hE hr
  have hpE : p + 2 ≤ E := by omega
  have HX := hid (ext_bytes s (p + 2) E ((tillL [62] (s.data.toList.drop p)).drop 2) (by
    rw [htk, List.drop_take, List.drop_drop]
    congr 1
    omega))
  have HB0 := hid ((((Below.refl w.heap.size w).alloc (Nat.le_refl _) (.cells #[.int .i64 0, .string ⟨#[]⟩, .slice none 0 0, .string ⟨#[]⟩] 49)).alloc (by simp) (.cells #[.int .i64 0, .string ⟨#[]⟩, .slice none 0 0, .string ⟨#[]⟩] 49)))
  have hdp : decide ((p : Int) + 1 < (s.size : Int)) = true := decide_eq_true (by omega)
  have hlen : s.data.toList.length = s.size := rfl
  clear htk hd1 hd2 e0 h2
  by_cases hq : E < s.size
  · have hh : (restL [62] (s.data.toList.drop p)).head? = some 62 := by
      rw [hr, head_at s E hq]
      have := rest_head [62] (s.data.toList.drop p) s[E] (by rw [hr, head_at s E hq])
      simp at this
      rw [this]
    have ht := HT.out
    rw [if_pos hh, hr, List.drop_drop] at ht
    have HT2 := hid ht
    have hsl := slS s ((p : Int) + 2) (E : Int) (p + 2) E (by omega) rfl hpE (by omega)
    have HZ := hid (show TkSz 1048576 ⟨2, bytesOf ((tillL [62] (s.data.toList.drop p)).drop 2), [], ⟨#[]⟩⟩ from ⟨by
      show (bytesOf _).size ≤ 1048576
      have := till_le [62] (s.data.toList.drop p)
      rw [List.length_drop, hlen] at this
      unfold bytesOf
      simp only [ByteArray.size, List.size_toArray, List.length_drop]
      omega, (by show 0 ≤ 1048576; omega), (fun x hx => absurd hx List.not_mem_nil), (by show 0 ≤ 1048576; omega)⟩)
    have hne : ((E : Int) == (s.size : Int)) = false := by simp; omega
    clear hh hr HT ht hEE
    go_enter Tryz.func115, Tryz.ntmps115
    go_wp2_with fail
    refine (C _).mono ?_
    rintro e w1 ⟨rfl, hb1⟩
    obtain ⟨⟨r0, r1, r2, r3⟩, rf0, rf1, rf2, rf3⟩ := box4 (blk_below (heap2 w _ _).1 hb1)
    obtain ⟨⟨z0, z1, z2, z3⟩, _⟩ := box4 (blk_below (heap2 w _ _).2 hb1)
    have HB1 := hid (bb HB0.out hb1)
    clear hb1 HB0
    go_wp2_with fail
    refine bodyPost_ret (v := .tuple #[.agg #[.int .i64 2, .string (s.extract (p + 2) E), .slice none 0 0, .string ⟨#[]⟩], .bool false, .int .i64 ((E : Int) + 1)]) (by simp [results, Tryz.results115, go_sem, r0, r1, r2, r3]) rfl (tagPost_some HT2.out (a := none) (cap := 0) ?_ (fun j hj => by simp at hj) HZ.out (fun g o e => by cases e) ?_)
    · have hn : ((s.size - (s.data.toList.drop (E + 1)).length : Nat) : Int) = (E : Int) + 1 := by rw [List.length_drop, hlen]; omega
      rw [HX.out, hn]
      rfl
    · iterate 4 refine Below.setCell ?_ (by simp; try omega) _
      exact HB1.out
  · have hEs : E = s.size := by omega
    have hh : ¬ (restL [62] (s.data.toList.drop p)).head? = some 62 := by
      rw [hr, head_end s E (by omega)]
      intro e; cases e
    have ht := HT.out
    rw [if_neg hh] at ht
    have HT2 := hid ht
    have hne : ((E : Int) == (s.size : Int)) = true := by simp; omega
    clear hh hr HT ht hEE
    go_enter Tryz.func115, Tryz.ntmps115
    go_wp2_with fail
    refine (C _).mono ?_
    rintro e w1 ⟨rfl, hb1⟩
    obtain ⟨⟨r0, r1, r2, r3⟩, rf0, rf1, rf2, rf3⟩ := box4 (blk_below (heap2 w _ _).1 hb1)
    obtain ⟨⟨z0, z1, z2, z3⟩, _⟩ := box4 (blk_below (heap2 w _ _).2 hb1)
    have HB1 := hid (bb HB0.out hb1)
    clear hb1 HB0
    go_wp2_with fail
    refine bodyPost_ret (v := .tuple #[tkZ, .bool false, .int .i64 (-1)]) (by simp [results, Tryz.results115, go_sem, r0, r1, r2, r3]) rfl (tagPost_none HT2.out rfl ?_)
    iterate 4 refine Below.setCell ?_ (by simp; try omega) _
    exact HB1.out

end Go.Proofs.YteninofjeidljaaGreat

namespace Go.Proofs.YteninofjeidljaaGreat

open Go.RowKit

set_option linter.unusedVariables false

/-- The parent of the node there. -/
def parI (ts : List Tk) (j : Nat) : Int := match ts[j]? with | some t => t.kind | none => -1

theorem parI_at {ts : List Tk} {j : Nat} (h : j < ts.length) : parI ts j = ts[j].kind := by unfold parI; rw [List.getElem?_eq_getElem h]

/-- The node there is an element. -/
def elN (ts : List Tk) (j : Nat) : Prop := ∃ h : j < ts.length, ¬ ts[j].name.size = 0

/-- The last of the first i nodes and all around it, the innermost first. -/
def chainF (ts : List Tk) : Nat → List Nat
  | 0 => []
  | i + 1 => i :: (chainF ts i).dropWhile (fun (j : Nat) => !decide ((j : Int) = parI ts i))

/-- Each is in the next one, the last is the first node. -/
def Linked (ts : List Tk) : List Nat → Prop
  | [] => False
  | [x] => x = 0
  | x :: y :: r => parI ts x = (y : Int) ∧ y < x ∧ Linked ts (y :: r)

theorem Linked.tail {ts : List Tk} {x y : Nat} {r : List Nat} (h : Linked ts (x :: y :: r)) : Linked ts (y :: r) := h.2.2

theorem Linked.le {ts : List Tk} : ∀ {c : List Nat} {x : Nat}, Linked ts (x :: c) → ∀ y ∈ x :: c, y ≤ x
  | [], x, h, y, hy => by rw [List.mem_singleton] at hy; omega
  | z :: r, x, h, y, hy => by
    rcases List.mem_cons.1 hy with rfl | hy
    · exact Nat.le_refl _
    · have := Linked.le (ts := ts) h.tail y hy
      have := h.2.1
      omega

theorem Linked.drop {ts : List Tk} : ∀ {c : List Nat}, Linked ts c → ∀ p, p ∈ c → ∃ r, c.dropWhile (fun (j : Nat) => !decide ((j : Int) = (p : Int))) = p :: r ∧ Linked ts (p :: r)
  | [], h, p, hp => absurd hp (by simp)
  | [x], h, p, hp => by
    rw [List.mem_singleton] at hp
    subst hp
    exact ⟨[], by simp, h⟩
  | x :: y :: r, h, p, hp => by
    by_cases e : x = p
    · subst e
      exact ⟨y :: r, by simp, h⟩
    · have hp' : p ∈ y :: r := by
        rcases List.mem_cons.1 hp with h' | h'
        · exact absurd h'.symm e
        · exact h'
      obtain ⟨r', e1, e2⟩ := Linked.drop h.tail p hp'
      refine ⟨r', ?_, e2⟩
      rw [List.dropWhile_cons, if_pos (by simp; omega)]
      exact e1

/-- The node may stand there: its parent is open, and an element. -/
def UpOk (ts : List Tk) (i : Nat) : Prop := i = 0 ∨ ∃ p, p ∈ chainF ts i ∧ (p : Int) = parI ts i ∧ elN ts p

theorem linked_next {ts : List Tk} {i : Nat} (h : Linked ts (chainF ts i)) (hu : UpOk ts i) (hi : ¬ i = 0) (hlt : ∀ p ∈ chainF ts i, p < i) : Linked ts (chainF ts (i + 1)) ∧ ∃ p r, chainF ts (i + 1) = i :: p :: r ∧ (p : Int) = parI ts i ∧ p < i := by
  rcases hu with h0 | ⟨p, hp, e, _⟩
  · exact absurd h0 hi
  · obtain ⟨r, e1, e2⟩ := h.drop p hp
    have e3 : chainF ts (i + 1) = i :: p :: r := by
      show i :: (chainF ts i).dropWhile (fun (j : Nat) => !decide ((j : Int) = parI ts i)) = _
      rw [← e, e1]
    rw [e3]
    exact ⟨⟨e.symm, hlt p hp, e2⟩, p, r, rfl, e, hlt p hp⟩

theorem chain_head (ts : List Tk) (i : Nat) : ∃ r, chainF ts (i + 1) = i :: r := ⟨_, rfl⟩

/-- Where all that stand ahead may stand there. -/
theorem linked_all {ts : List Tk} : ∀ i, (∀ j, j < i + 1 → UpOk ts j) → Linked ts (chainF ts (i + 1)) ∧ ∀ p ∈ chainF ts (i + 1), p < i + 1
  | 0, _ => ⟨rfl, fun p hp => by have : p ∈ [0] := hp; simp at this; omega⟩
  | i + 1, h => by
    obtain ⟨h1, h2⟩ := linked_all i (fun j hj => h j (by omega))
    obtain ⟨h3, p, r, e, _, _⟩ := linked_next h1 (h (i + 1) (by omega)) (by omega) h2
    refine ⟨h3, fun q hq => ?_⟩
    rw [e] at h3 hq
    have := h3.le q hq
    omega

/-- How deep. -/
noncomputable def depI (ts : List Tk) (i : Nat) : Int := open Classical in if UpOk ts i then ((chainF ts (i + 1)).length : Int) else 0

theorem depI_t {ts : List Tk} {i : Nat} (h : UpOk ts i) : depI ts i = ((chainF ts (i + 1)).length : Int) := by unfold depI; exact if_pos h

theorem depI_f {ts : List Tk} {i : Nat} (h : ¬ UpOk ts i) : depI ts i = 0 := by unfold depI; exact if_neg h

/-- A node that is right by itself. -/
noncomputable def nodeB (t : Tk) : Bool :=
  if t.name.size = 0 then decide (t.attrs.length = 0) && textB t.text else nameL t.name.data.toList && (attrsB t.attrs && decide (t.text.size = 0))

/-- The node and the one ahead of it are texts of one parent. -/
def TwinAt (ts : List Tk) (i : Nat) : Prop := ∃ (h : i < ts.length) (h0 : 0 < i), ts[i].name.size = 0 ∧ (ts[i - 1]'(by omega)).name.size = 0 ∧ (ts[i - 1]'(by omega)).kind = ts[i].kind

/-- The node may stand there, in all. -/
def NodeOk (ts : List Tk) (i : Nat) : Prop := (∃ h : i < ts.length, nodeB ts[i] = true) ∧ UpOk ts i ∧ (chainF ts (i + 1)).length ≤ 9 ∧ ¬ TwinAt ts i

/-- A tree. -/
def TreeP (ts : List Tk) : Prop := 1 ≤ ts.length ∧ ts.length ≤ 50 ∧ parI ts 0 = -1 ∧ elN ts 0 ∧ ∀ i, i < ts.length → NodeOk ts i

noncomputable def treeB (ts : List Tk) : Bool := open Classical in decide (TreeP ts)

theorem treeB_t {ts : List Tk} (h : TreeP ts) : treeB ts = true := by unfold treeB; simp [h]

theorem treeB_f {ts : List Tk} (h : ¬ TreeP ts) : treeB ts = false := by unfold treeB; simp [h]

end Go.Proofs.YteninofjeidljaaGreat

namespace Go.Proofs.YteninofjeidljaaGreat

open Go.RowKit

set_option linter.unusedVariables false

set_option linter.unusedSimpArgs false

/-- The chain from its m-th member on. -/
theorem linked_from {ts : List Tk} : ∀ {c : List Nat}, Linked ts c → ∀ m (h : m < c.length), (parI ts 0 = -1 → parI ts c[m] = (if h' : m + 1 < c.length then (c[m + 1] : Int) else -1)) ∧ (c[m] = 0 ↔ m + 1 = c.length)
  | [], h, m, hm => absurd hm (by simp)
  | [x], h, m, hm => by
    have h0 : x = 0 := h
    subst h0
    have : m = 0 := by simpa using hm
    subst this
    exact ⟨fun e => by simpa using e, by simp⟩
  | x :: y :: r, h, 0, hm => by
    refine ⟨fun e => ?_, ?_⟩
    · simp [h.1]
    · have := h.2.1
      constructor
      · intro e
        have e : x = 0 := e
        omega
      · intro e
        simp at e
  | x :: y :: r, h, m + 1, hm => by
    have hm' : m < (y :: r).length := by simpa using hm
    obtain ⟨h1, h2⟩ := linked_from h.tail m hm'
    refine ⟨fun e => ?_, ?_⟩
    · have := h1 e
      simp only [List.getElem_cons_succ, List.length_cons] at this ⊢
      rw [this]
      by_cases q : m + 1 < r.length + 1
      · rw [dif_pos q, dif_pos (by omega)]
      · rw [dif_neg q, dif_neg (by omega)]
    · simp only [List.getElem_cons_succ, List.length_cons] at h2 ⊢
      omega

theorem Linked.len {ts : List Tk} : ∀ {c : List Nat} {x : Nat}, Linked ts (x :: c) → (x :: c).length ≤ x + 1
  | [], x, h => by simp
  | y :: r, x, h => by
    have h1 := Linked.len (ts := ts) h.tail
    have := h.2.1
    simp only [List.length_cons] at h1 ⊢
    omega

theorem linked_lt {ts : List Tk} : ∀ {c : List Nat}, Linked ts c → ∀ m (h : m + 1 < c.length), c[m + 1] < c[m]
  | [], h, m, hm => absurd hm (by simp)
  | [x], h, m, hm => absurd hm (by simp)
  | x :: y :: r, h, 0, hm => h.2.1
  | x :: y :: r, h, m + 1, hm => linked_lt h.tail m (by simpa using hm)

/-- The m-th member of a chain; -1 behind its end. -/
def kAt (c : List Nat) (m : Nat) : Int := match c[m]? with | some x => (x : Int) | none => -1

theorem kAt_lt {c : List Nat} {m : Nat} (h : m < c.length) : kAt c m = (c[m] : Int) := by unfold kAt; rw [List.getElem?_eq_getElem h]

theorem kAt_end {c : List Nat} : kAt c c.length = -1 := by unfold kAt; rw [List.getElem?_eq_none (Nat.le_refl _)]

theorem TkRow.kindAt {w : World} {a : Option Addr} {ts : List Tk} (h : TkRow w a ts) (j : Nat) (hj : j < ts.length) : ∃ b o, a = some ⟨b, o, none⟩ ∧ w.cell? ⟨b, o + j * 4, none⟩ = some (.int .i64 (parI ts j)) ∧ w.cell? ⟨b, o + j * 4 + 1, none⟩ = some (.string ts[j].name) := by
  obtain ⟨b, o, aa, cap, ha, hlt, c0, c1, _⟩ := h j hj
  exact ⟨b, o, ha, by rw [parI_at hj]; exact c0, c1⟩

set_option maxRecDepth 8000 in
set_option maxHeartbeats 4000000 in
theorem cDepthS (a : Option Addr) (cap : Nat) (ts : List Tk) (i : Nat) (w : World) (hR : TkRow w a ts) (hi : i < ts.length) (hn : ts.length ≤ 1048576) (hz : TksSz 1048576 ts) (h0 : parI ts 0 = -1) (hup : ∀ j, j < i → UpOk ts j) :
    Calls Tryz.prog 67 #[.slice a ts.length cap, .int .i64 (i : Int)] w fun e w' => e = .returned (.int .i64 (depI ts i)) ∧ w' = w := by
  have HR := hid hR
  have HZ := hid hz
  obtain ⟨V, hV⟩ : ∃ V, depI ts i = V := ⟨_, rfl⟩
  have HV := hid hV
  rw [hV]
  clear hR hV hz
  obtain ⟨n, hnn⟩ : ∃ n, ts.length = n := ⟨_, rfl⟩
  have HN := hid hnn
  rw [hnn] at hn hi ⊢
  clear hnn
  by_cases hi0 : i = 0
  · subst hi0
    have HW := hid (show V = 1 by rw [← HV.out, depI_t (.inl rfl)]; rfl)
    go_enter Tryz.func67, Tryz.ntmps67
    go_wp2
    go_ret
    exact ⟨by rw [HW.out]; rfl, rfl⟩
  · have HL := hid (show Linked ts (chainF ts i) ∧ (∀ p ∈ chainF ts i, p < i) ∧ ∃ r, chainF ts i = (i - 1) :: r by
      obtain ⟨i', rfl⟩ : ∃ i', i = i' + 1 := ⟨i - 1, by omega⟩
      exact ⟨(linked_all i' hup).1, (linked_all i' hup).2, _, rfl⟩)
    have HU := hid hup
    have H0 := hid h0
    clear hup h0
    have d0 : ((i : Int) == 0) = false := by simp; omega
    have his : i < ts.length := by rw [HN.out]; exact hi
    obtain ⟨b, o, rfl, c0, c1⟩ := HR.out.kindAt i his
    have hin : (i : Int) < (n : Int) := by omega
    obtain ⟨p, hp⟩ : ∃ p, parI ts i = p := ⟨_, rfl⟩
    have HP := hid hp
    rw [hp] at c0
    clear hp
    by_cases hp0 : p < 0
    · have HW := hid (show V = 0 by
        rw [← HV.out, depI_f]
        rintro (h | ⟨q, _, hq, _⟩)
        · exact hi0 h
        · rw [HP.out] at hq; omega)
      go_enter Tryz.func67, Tryz.ntmps67
      go_wp2
      go_ret
      exact ⟨by rw [HW.out]; rfl, rfl⟩
    · by_cases hpi : (i : Int) ≤ p
      · have HW := hid (show V = 0 by
          rw [← HV.out, depI_f]
          rintro (h | ⟨q, hm, hq, _⟩)
          · exact hi0 h
          · have := HL.out.2.1 q hm
            rw [HP.out] at hq
            omega)
        go_enter Tryz.func67, Tryz.ntmps67
        go_wp2
        go_ret
        exact ⟨by rw [HW.out]; rfl, rfl⟩
      · obtain ⟨q, rfl⟩ : ∃ q : Nat, p = q := ⟨p.toNat, by omega⟩
        have hqi : q < i := by omega
        have hqs : q < ts.length := by omega
        have hqn : (q : Int) < (n : Int) := by omega
        obtain ⟨b', o', e', c2, c3⟩ := HR.out.kindAt q hqs
        obtain ⟨rfl, rfl⟩ : b = b' ∧ o = o' := by cases e'; exact ⟨rfl, rfl⟩
        clear e' c2
        have E := empty_is ts[q].name
        have zq := (HZ.out _ (List.getElem_mem hqs)).1
        by_cases hne : ts[q].name.size = 0
        · have HW := hid (show V = 0 by
            rw [← HV.out, depI_f]
            rintro (h | ⟨q', hm, hq, ⟨_, hel⟩⟩)
            · exact hi0 h
            · rw [HP.out] at hq
              have : q' = q := by omega
              subst this
              exact hel hne)
          rw [decide_eq_true hne] at E
          generalize ts[q].name = nm at *
          go_enter Tryz.func67, Tryz.ntmps67
          go_wp2
          go_ret
          exact ⟨by rw [HW.out]; rfl, rfl⟩
        · have HE := hid (show elN ts q from ⟨hqs, hne⟩)
          rw [decide_eq_false hne] at E
          generalize ts[q].name = nm at *
          clear hne
          obtain ⟨c, hc⟩ : ∃ c, chainF ts i = c := ⟨_, rfl⟩
          have HC := hid hc
          rw [hc] at HL
          clear hc
          go_enter Tryz.func67, Tryz.ntmps67
          go_wp2
          go_loop [6] (fun k => ∃ m : Nat, Hid (k = .int .i64 (kAt c m) ∧ m ≤ c.length ∧ ∀ j, j < m → ∀ h : j < c.length, ¬ c[j] = q)) (fun k => (intOf k + 1).toNat)
          case atStart =>
            refine ⟨0, ?_, Nat.zero_le _, fun j h => by omega⟩
            obtain ⟨r, hr⟩ := HL.out.2.2
            rw [hr]
            show _ = Value.int .i64 (((i - 1 : Nat)) : Int)
            congr 1
            first | omega | (simp; omega)
          case round =>
            clear c0 c1 c3 E zq
            obtain ⟨m, HM⟩ := hrel
            obtain ⟨rfl, hm, hno⟩ := HM.out
            have HNO := hid hno
            clear hno HM
            by_cases hml : m < c.length
            · obtain ⟨x, hx⟩ : ∃ x, c[m] = x := ⟨_, rfl⟩
              have hxi : x < i := by rw [← hx]; exact HL.out.2.1 _ (List.getElem_mem hml)
              have hxs : x < ts.length := by omega
              have ek : kAt c m = (x : Int) := by rw [← hx]; exact kAt_lt hml
              rw [ek]
              by_cases hxq : x = q
              · subst hxq
                have HUP := hid (show UpOk ts i from .inr ⟨x, by rw [HC.out, ← hx]; exact List.getElem_mem hml, HP.out.symm, HE.out⟩)
                have HD := hid (linked_all i (fun j hj => by
                  rcases Nat.lt_or_eq_of_le (Nat.le_of_lt_succ hj) with h' | rfl
                  · exact HU.out j h'
                  · exact HUP.out))
                have HW := hid (show V = ((chainF ts (i + 1)).length : Int) by rw [← HV.out, depI_t HUP.out])
                have hd1 : ((chainF ts (i + 1)).length : Int) ≤ 1048577 := by
                  obtain ⟨r, hr⟩ := chain_head ts i
                  have h1 := HD.out.1
                  rw [hr] at h1 ⊢
                  have := h1.len
                  omega
                obtain ⟨d, hd⟩ : ∃ d, chainF ts (i + 1) = d := ⟨_, rfl⟩
                have HDD := hid hd
                rw [hd] at HD HW hd1
                clear hd hx ek HNO hm hml
                go_wp2
                go_loop [7, 8] (fun v k => ∃ m : Nat, Hid (k = .int .i64 (kAt d m) ∧ m < d.length) ∧ v = .int .i64 ((m : Int) + 1)) (fun _ k => (intOf k + 1).toNat)
                case atStart =>
                  refine ⟨0, ⟨?_, ?_⟩, rfl⟩
                  · rw [← HDD.out]; rfl
                  · rw [← HDD.out]; exact Nat.succ_pos _
                case round =>
                  obtain ⟨m, HM, rfl⟩ := hrel
                  obtain ⟨rfl, hml⟩ := HM.out
                  clear HM
                  obtain ⟨y, hy⟩ : ∃ y, d[m] = y := ⟨_, rfl⟩
                  have hyi : y < i + 1 := by rw [← hy]; exact HD.out.2 _ (List.getElem_mem hml)
                  have hys : y < ts.length := by omega
                  have ek : kAt d m = (y : Int) := by rw [← hy]; exact kAt_lt hml
                  rw [ek]
                  obtain ⟨l1, l2⟩ := linked_from HD.out.1 m hml
                  have l1 := l1 H0.out
                  rw [hy] at l1 l2
                  obtain ⟨b', o', e', c2, c3⟩ := HR.out.kindAt y hys
                  obtain ⟨rfl, rfl⟩ : b = b' ∧ o = o' := by cases e'; exact ⟨rfl, rfl⟩
                  have hyn : (y : Int) < (n : Int) := by omega
                  by_cases hy0 : y = 0
                  · have HE2 := hid (show ((m : Int) + 1) = V by rw [HW.out]; have := l2.1 hy0; omega)
                    subst hy0
                    clear c2 c3 l1 l2 e' ek hy
                    go_wp2
                    go_ret
                    exact ⟨by rw [← HE2.out]; rfl, rfl⟩
                  · have hnx : m + 1 < d.length := by
                      rcases Nat.lt_or_ge (m + 1) d.length with h' | h'
                      · exact h'
                      · exact absurd (l2.2 (by omega)) hy0
                    rw [dif_pos hnx, ← kAt_lt hnx] at l1
                    have hless := hid (show kAt d (m + 1) < (y : Int) by rw [kAt_lt hnx, ← hy]; have := linked_lt HD.out.1 m hnx; omega)
                    rw [l1] at c2
                    have hyp : (0 : Int) < (y : Int) := by omega
                    have HNX := hid hnx
                    obtain ⟨K, hK⟩ : ∃ K, kAt d (m + 1) = K := ⟨_, rfl⟩
                    have HK := hid hK
                    rw [hK] at c2 hless
                    clear hK c3 l1 l2 e' ek hy hnx
                    go_wp2
                    go_round
                    case rel => exact ⟨m + 1, ⟨by rw [HK.out], HNX.out⟩, by go_num⟩
                    case measure => have := hless.out; simp [intOf]; omega
              · have l1 := (linked_from HL.out.1 m hml).1 H0.out
                rw [hx] at l1
                have e2 : parI ts x = kAt c (m + 1) := by
                  rw [l1]
                  by_cases h' : m + 1 < c.length
                  · rw [dif_pos h', kAt_lt h']
                  · rw [dif_neg h']
                    have : m + 1 = c.length := by omega
                    rw [this, kAt_end]
                have hless := hid (show kAt c (m + 1) < (x : Int) by
                  by_cases h' : m + 1 < c.length
                  · rw [kAt_lt h', ← hx]
                    have := linked_lt HL.out.1 m h'
                    omega
                  · have : m + 1 = c.length := by omega
                    rw [this, kAt_end]
                    omega)
                have hge := hid (show -1 ≤ kAt c (m + 1) by unfold kAt; split <;> omega)
                have HN2 := hid (show ∀ j, j < m + 1 → ∀ h : j < c.length, ¬ c[j] = q from fun j hj h => by
                  rcases Nat.lt_or_eq_of_le (Nat.le_of_lt_succ hj) with h' | rfl
                  · exact HNO.out j h' h
                  · rw [hx]; exact hxq)
                obtain ⟨b', o', e', c2, c3⟩ := HR.out.kindAt x hxs
                obtain ⟨rfl, rfl⟩ : b = b' ∧ o = o' := by cases e'; exact ⟨rfl, rfl⟩
                have hxn : (x : Int) < (n : Int) := by omega
                have dq : ((x : Int) == (q : Int)) = false := by simp; omega
                rw [e2] at c2
                obtain ⟨K, hK⟩ : ∃ K, kAt c (m + 1) = K := ⟨_, rfl⟩
                have HK := hid hK
                rw [hK] at c2 hless hge
                have HML := hid hml
                clear hK c3 l1 e2 e' ek hx hml
                go_wp2
                go_round
                case rel => exact ⟨m + 1, by rw [HK.out], HML.out, HN2.out⟩
                case measure => have := hless.out; have := hge.out; simp [intOf]; omega
            · have hme : m = c.length := by omega
              subst hme
              rw [kAt_end]
              have HW := hid (show V = 0 by
                rw [← HV.out, depI_f]
                rintro (h | ⟨q', hmem, hq, _⟩)
                · exact hi0 h
                · rw [HP.out] at hq
                  have : q' = q := by omega
                  subst this
                  rw [HC.out] at hmem
                  obtain ⟨j, hj, e⟩ := List.getElem_of_mem hmem
                  exact HNO.out j hj hj e)
              have dq : ((-1 : Int) == (q : Int)) = false := by simp <;> omega
              go_wp2
              go_ret
              exact ⟨by rw [HW.out]; rfl, rfl⟩

end Go.Proofs.YteninofjeidljaaGreat
