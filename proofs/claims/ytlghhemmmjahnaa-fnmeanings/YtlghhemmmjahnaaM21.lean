/- What one more declaration does (mathematics alone): which attr declares a prefix, the meaning further out, a tree with one attr more. Pairs of a meaning and a local in place of keys (mathematics alone); contracts of slices.Index and slices.Contains over a row of pairs. Contracts of the program's attrNamesOk, elementNamesOk and NamesOk. -/
import Derived.Test.YtlghhemmmjahnaaM20
import Derived.Deep.QuietTactic
import Derived.BigQuiet
namespace Go.Proofs.Ytlghhemmmjahnaa
open Go.RowKit
set_option linter.unusedVariables false

/-- The prefixes that are drawn. -/
def prefS (p : ByteArray) : Prop := p = ⟨#[]⟩ ∨ p = ⟨#[112]⟩ ∨ p = ⟨#[113]⟩ ∨ p = ⟨#[122]⟩

/-- The name that declares it. -/
def nmP (p : ByteArray) : ByteArray := if p.size = 0 then nsS else ⟨#[110, 115, 58]⟩ ++ p

def freshS : ByteArray := ⟨#[102, 114, 101, 115, 104]⟩

theorem nmP_name {p : ByteArray} (hp : prefS p) : nameL (nmP p).data.toList = true := by
  rcases hp with rfl | rfl | rfl | rfl <;> decide +kernel

theorem nmP_decl {p v : ByteArray} (hp : prefS p) : declF ⟨nmP p, v⟩ = some p := by
  unfold declF
  rcases hp with rfl | rfl | rfl | rfl
  · rw [if_pos (show nmP ⟨#[]⟩ = nsS from rfl)]
  · rw [if_neg (show ¬ nmP ⟨#[112]⟩ = nsS by decide +kernel), if_pos (show preS (nmP ⟨#[112]⟩) = nsS by decide +kernel)]
    exact congrArg some (show locS (nmP ⟨#[112]⟩) = ⟨#[112]⟩ by decide +kernel)
  · rw [if_neg (show ¬ nmP ⟨#[113]⟩ = nsS by decide +kernel), if_pos (show preS (nmP ⟨#[113]⟩) = nsS by decide +kernel)]
    exact congrArg some (show locS (nmP ⟨#[113]⟩) = ⟨#[113]⟩ by decide +kernel)
  · rw [if_neg (show ¬ nmP ⟨#[122]⟩ = nsS by decide +kernel), if_pos (show preS (nmP ⟨#[122]⟩) = nsS by decide +kernel)]
    exact congrArg some (show locS (nmP ⟨#[122]⟩) = ⟨#[122]⟩ by decide +kernel)

/-- A name with a prefix, put together again. -/
theorem name_again {l : List UInt8} (hn : nameL l = true) (hp : ¬ partP l = []) : l = partP l ++ 58 :: partL l ∧ 1 ≤ (partL l).length := by
  unfold partP at hp ⊢
  unfold partL
  rw [if_pos hn] at hp ⊢
  rw [if_pos hn]
  unfold nameL at hn
  unfold preL locL at *
  cases hc : colonAt l with
  | none => rw [hc] at hp; exact absurd rfl hp
  | some a =>
    rw [hc] at hn
    simp only [Bool.and_eq_true] at hn
    have h2 := hn.2
    unfold lettersL at h2
    simp only [Bool.and_eq_true, decide_eq_true_eq] at h2
    refine ⟨?_, h2.1.1⟩
    unfold colonAt at hc
    obtain ⟨hlt, h1, _⟩ := List.findIdx?_eq_some_iff_getElem.1 hc
    have e : l[a] = 58 := by
      have : l[a].toNat = 58 := by simpa using h1
      exact UInt8.toNat_inj.1 this
    conv => lhs; rw [← List.take_append_drop a l, List.drop_eq_getElem_cons hlt, e]

theorem declF_nm {p : ByteArray} (hp : prefS p) {x : At} (hn : nameL x.name.data.toList = true) : declF x = some p ↔ x.name = nmP p := by
  constructor
  · intro h
    unfold declF at h
    split at h
    · rename_i h1
      cases h
      rw [h1]
      rfl
    · split at h
      · rename_i h1 h2
        have h3 : locS x.name = p := by simpa using h
        have hpp : partP x.name.data.toList = [110, 115] := by
          have := congrArg (fun s : ByteArray => s.data.toList) h2
          simpa [preS, nsS] using this
        have hll : partL x.name.data.toList = p.data.toList := by
          have := congrArg (fun s : ByteArray => s.data.toList) h3
          simpa [locS] using this
        obtain ⟨e1, e2⟩ := name_again hn (by rw [hpp]; simp)
        rw [hpp, hll] at e1
        rw [hll] at e2
        have hps : ¬ p.size = 0 := by
          have : p.data.toList.length = p.size := rfl
          omega
        unfold nmP
        rw [if_neg hps]
        apply ByteArray.ext
        apply Array.toList_inj.1
        rw [e1]
        simp
      · cases h
  · intro h
    obtain ⟨n, v⟩ := x
    have h' : n = nmP p := h
    subst h'
    exact nmP_decl hp

theorem declB_nm {p : ByteArray} (hp : prefS p) {x : At} (hn : nameL x.name.data.toList = true) : declB p x = true ↔ x.name = nmP p := by
  unfold declB
  rw [decide_eq_true_eq]
  exact declF_nm hp hn

/-- Of two chains from one on each is the other. -/
theorem linked_one {ts : List Tk} : ∀ {c d : List Nat} {x : Nat}, Linked ts (x :: c) → Linked ts (x :: d) → c = d
  | [], [], x, _, _ => rfl
  | [], z :: d, x, h, k => by
    have h0 : x = 0 := h
    have := k.2.1
    omega
  | y :: c, [], x, h, k => by
    have h0 : x = 0 := k
    have := h.2.1
    omega
  | y :: c, z :: d, x, h, k => by
    have e : y = z := by
      have h1 := h.1
      have k1 := k.1
      omega
    subst e
    rw [linked_one h.tail k.tail]

/-- The attrs from one on, outwards: his, and those of what is around him. -/
theorem outAts_root {ts : List Tk} {t : Tk} (h : ts[0]? = some t) : outAts ts 0 = t.attrs := by
  unfold outAts upAts
  show List.flatMap _ [0] = _
  simp [h]

theorem outAts_up {ts : List Tk} (hT : TreeP ts) {k : Nat} {t : Tk} (ht : ts[k]? = some t) (hk : ¬ k = 0) : ∃ p : Nat, (p : Int) = t.kind ∧ p < k ∧ elN ts p ∧ outAts ts k = t.attrs ++ outAts ts p := by
  have hkl : k < ts.length := by
    rcases Nat.lt_or_ge k ts.length with h | h
    · exact h
    · rw [List.getElem?_eq_none h] at ht; cases ht
  have hup : ∀ j, j < ts.length → UpOk ts j := fun j hj => (hT.2.2.2.2 j hj).2.1
  have e1 : t.kind = parI ts k := by unfold parI; rw [ht]
  rcases hup k hkl with h0 | ⟨p, hp, hpk, hel⟩
  · exact absurd h0 hk
  · obtain ⟨i, rfl⟩ : ∃ i, k = i + 1 := ⟨k - 1, by omega⟩
    have hL := linked_all (ts := ts) i (fun j hj => hup j (by omega))
    obtain ⟨h3, q, r, e, eq, hq⟩ := linked_next hL.1 (hup _ hkl) (by omega) hL.2
    have eqp : q = p := by omega
    subst eqp
    refine ⟨q, by rw [e1]; exact eq, hq, hel, ?_⟩
    have hL2 := linked_all (ts := ts) q (fun j hj => hup j (by omega))
    obtain ⟨r2, e2⟩ := chain_head ts q
    have er : r = r2 := by
      rw [e] at h3
      rw [e2] at hL2
      exact linked_one h3.tail hL2.1
    unfold outAts
    rw [e, e2, ← er]
    unfold upAts
    rw [List.flatMap_cons, ht]

/-- What is not declared here is as it is further out. -/
theorem mean_out {ts : List Tk} (hT : TreeP ts) {k : Nat} {t : Tk} (ht : ts[k]? = some t) (hk : ¬ k = 0) {p : ByteArray} (hno : t.attrs.find? (declB p) = none) (hs : (meanF ts k p).isSome = true) : ∃ q : Nat, (q : Int) = t.kind ∧ q < k ∧ elN ts q ∧ meanF ts q p = meanF ts k p := by
  obtain ⟨q, h1, h2, h3, h4⟩ := outAts_up hT ht hk
  refine ⟨q, h1, h2, h3, ?_⟩
  rw [meanF_out] at hs
  have hr : (outAts ts k).all rightB = true := by
    cases hr : (outAts ts k).all rightB with
    | true => rfl
    | false => rw [meanL_not p hr] at hs; cases hs
  have hr2 : (outAts ts q).all rightB = true := by
    rw [h4, List.all_append, Bool.and_eq_true] at hr
    exact hr.2
  rw [meanF_out, meanF_out, meanL_look p hr, meanL_look p hr2, h4, lookL_none _ hno]

/-- The tree with one attr more. -/
def moreT (ts : List Tk) (k : Nat) (t : Tk) (x : At) : List Tk := ts.set k ⟨t.kind, t.name, t.attrs ++ [x], t.text⟩

section
variable {ts : List Tk} {k : Nat} {t : Tk} {x : At}

theorem more_len : (moreT ts k t x).length = ts.length := by unfold moreT; rw [List.length_set]

theorem more_at (h : ts[k]? = some t) : (moreT ts k t x)[k]? = some ⟨t.kind, t.name, t.attrs ++ [x], t.text⟩ := by
  unfold moreT
  rw [List.getElem?_set]
  have hk : k < ts.length := by
    rcases Nat.lt_or_ge k ts.length with h' | h'
    · exact h'
    · rw [List.getElem?_eq_none h'] at h; cases h
  simp [hk]

theorem more_ne {j : Nat} (h : ¬ j = k) : (moreT ts k t x)[j]? = ts[j]? := by
  unfold moreT
  rw [List.getElem?_set]
  rw [if_neg (fun e => h e.symm)]

/-- Each is as it was, but for his attrs. -/
theorem more_like (h : ts[k]? = some t) (j : Nat) : ((moreT ts k t x)[j]?.map fun u => (u.kind, u.name, u.text)) = (ts[j]?.map fun u => (u.kind, u.name, u.text)) := by
  by_cases e : j = k
  · subst e; rw [more_at h, h]; rfl
  · rw [more_ne e]

theorem more_par (h : ts[k]? = some t) (j : Nat) : parI (moreT ts k t x) j = parI ts j := by
  have e := more_like (x := x) h j
  unfold parI
  cases h1 : (moreT ts k t x)[j]? with
  | none =>
    rw [h1] at e
    cases h2 : ts[j]? with
    | none => rfl
    | some u => rw [h2] at e; cases e
  | some v =>
    rw [h1] at e
    cases h2 : ts[j]? with
    | none => rw [h2] at e; cases e
    | some u =>
      rw [h2] at e
      simp only [Option.map_some, Option.some.injEq, Prod.mk.injEq] at e
      exact e.1

theorem more_chain (h : ts[k]? = some t) : ∀ i, chainF (moreT ts k t x) i = chainF ts i
  | 0 => rfl
  | i + 1 => by
    show i :: _ = i :: _
    rw [more_chain h i, more_par h i]

theorem more_name (h : ts[k]? = some t) {j : Nat} (hj : j < ts.length) (hj2 : j < (moreT ts k t x).length) : ((moreT ts k t x)[j]'hj2).name = ts[j].name ∧ ((moreT ts k t x)[j]'hj2).kind = ts[j].kind := by
  have e := more_like (x := x) h j
  rw [List.getElem?_eq_getElem hj2, List.getElem?_eq_getElem hj] at e
  simp only [Option.map_some, Option.some.injEq, Prod.mk.injEq] at e
  exact ⟨e.2.1, e.1⟩

theorem more_el (h : ts[k]? = some t) {j : Nat} (he : elN ts j) : elN (moreT ts k t x) j := by
  obtain ⟨hj, hn⟩ := he
  have hj2 : j < (moreT ts k t x).length := by rw [more_len]; exact hj
  exact ⟨hj2, by rw [(more_name h hj hj2).1]; exact hn⟩

theorem more_ok {l : List At} (h : attrsB l = true) (h5 : l.length ≤ 5) (hx : atOk x) (hno : ∀ y ∈ l, ¬ y.name = x.name) : attrsB (l ++ [x]) = true := by
  have ha : AttrsOk l := by unfold attrsB at h; simpa using h
  refine attrsB_t ⟨by rw [List.length_append]; show _ + 1 ≤ 6; omega, fun j hj hlt => ?_, fun i j hi hj hlt => ?_⟩
  · by_cases hjl : j < l.length
    · rw [List.getElem_append_left hjl]
      exact ha.2.1 j hjl hjl
    · rw [List.getElem_append_right (by omega)]
      have : j - l.length = 0 := by rw [List.length_append] at hj; have : [x].length = 1 := rfl; omega
      simp only [this, List.getElem_cons_zero]
      exact hx
  · by_cases hil : i < l.length
    · rw [List.getElem_append_left hil, List.getElem_append_left (show j < l.length by omega)]
      exact ha.2.2 i j hil hj hil
    · have e0 : i - l.length = 0 := by rw [List.length_append] at hi; have : [x].length = 1 := rfl; omega
      have hjl : j < l.length := by rw [List.length_append] at hi; have : [x].length = 1 := rfl; omega
      have e1 : (l ++ [x])[i] = x := by
        rw [List.getElem_append_right (by omega)]
        simp only [e0, List.getElem_cons_zero]
      have e2 : (l ++ [x])[j] = l[j] := List.getElem_append_left hjl
      rw [e1, e2]
      exact hno _ (List.getElem_mem hjl)

theorem more_tree (hT : TreeP ts) (h : ts[k]? = some t) (hne : ¬ t.name.size = 0) (h5 : t.attrs.length ≤ 5) (hx : atOk x) (hno : ∀ y ∈ t.attrs, ¬ y.name = x.name) : TreeP (moreT ts k t x) := by
  refine ⟨by rw [more_len]; exact hT.1, by rw [more_len]; exact hT.2.1, by rw [more_par h]; exact hT.2.2.1, more_el h hT.2.2.2.1, fun i hi => ?_⟩
  have hi' : i < ts.length := by rw [more_len] at hi; exact hi
  obtain ⟨⟨_, n1⟩, n2, n3, n4⟩ := hT.2.2.2.2 i hi'
  refine ⟨⟨hi, ?_⟩, ?_, by rw [more_chain h]; exact n3, ?_⟩
  · by_cases e : i = k
    · subst e
      have e1 : (moreT ts i t x)[i] = ⟨t.kind, t.name, t.attrs ++ [x], t.text⟩ := by
        have := more_at (x := x) h
        rw [List.getElem?_eq_getElem hi] at this
        exact Option.some.inj this
      have e2 : ts[i] = t := by
        rw [List.getElem?_eq_getElem hi'] at h
        exact Option.some.inj h
      rw [e2, nodeB_el hne] at n1
      rw [e1, nodeB_el (t := ⟨t.kind, t.name, t.attrs ++ [x], t.text⟩) hne]
      simp only [Bool.and_eq_true] at n1 ⊢
      exact ⟨n1.1, more_ok n1.2.1 h5 hx hno, n1.2.2⟩
    · have e1 : (moreT ts k t x)[i] = ts[i] := by
        have := more_ne (ts := ts) (t := t) (x := x) e
        rw [List.getElem?_eq_getElem hi, List.getElem?_eq_getElem hi'] at this
        exact Option.some.inj this
      rw [e1]
      exact n1
  · rcases n2 with n2 | ⟨p, p1, p2, p3⟩
    · exact .inl n2
    · exact .inr ⟨p, by rw [more_chain h]; exact p1, by rw [more_par h]; exact p2, more_el h p3⟩
  · rintro ⟨g1, g2, g3, g4, g5⟩
    have hm : i - 1 < (moreT ts k t x).length := by omega
    have a1 := more_name (x := x) h hi' g1
    have a2 := more_name (x := x) h (show i - 1 < ts.length by omega) hm
    refine n4 ⟨hi', g2, ?_, ?_, ?_⟩
    · rw [← a1.1]; exact g3
    · rw [← a2.1]; exact g4
    · rw [← a2.2, ← a1.2]; exact g5

theorem more_out (hT : TreeP ts) (h : ts[k]? = some t) : ∃ R, outAts ts k = t.attrs ++ R ∧ outAts (moreT ts k t x) k = (t.attrs ++ [x]) ++ R := by
  have hkl : k < ts.length := by
    rcases Nat.lt_or_ge k ts.length with h' | h'
    · exact h'
    · rw [List.getElem?_eq_none h'] at h; cases h
  have hL := linked_all (ts := ts) k (fun j hj => (hT.2.2.2.2 j (by omega)).2.1)
  obtain ⟨r, e⟩ := chain_head ts k
  rw [e] at hL
  have hlt : ∀ j ∈ r, j < k := by
    intro j hj
    match r, hL.1, hj with
    | y :: r', hl, hj =>
      have h1 := hl.2.1
      have h2 := hl.tail.le j hj
      omega
  refine ⟨upAts ts r, ?_, ?_⟩
  · unfold outAts
    rw [e]
    unfold upAts
    rw [List.flatMap_cons, h]
  · unfold outAts
    rw [more_chain h, e]
    unfold upAts
    rw [List.flatMap_cons, more_at h]
    congr 1
    unfold List.flatMap
    congr 1
    refine List.map_congr_left fun j hj => ?_
    rw [more_ne (show ¬ j = k by have := hlt j hj; omega)]

/-- One more declaration further in hides what is around. -/
theorem more_mean (hT : TreeP ts) (h : ts[k]? = some t) {p : ByteArray} (hp : prefS p) (hno : t.attrs.find? (declB p) = none) (hs : (meanF ts k p).isSome = true) : meanF (moreT ts k t ⟨nmP p, freshS⟩) k p = some freshS := by
  obtain ⟨R, e1, e2⟩ := more_out (x := ⟨nmP p, freshS⟩) hT h
  have hr : (outAts ts k).all rightB = true := by
    cases hr : (outAts ts k).all rightB with
    | true => rfl
    | false => rw [meanF_out, meanL_not p hr] at hs; cases hs
  have hx : rightB ⟨nmP p, freshS⟩ = true := by
    unfold rightB
    rw [nmP_decl hp]
    rcases hp with rfl | rfl | rfl | rfl <;> decide +kernel
  have hr2 : (outAts (moreT ts k t ⟨nmP p, freshS⟩) k).all rightB = true := by
    rw [e1, List.all_append, Bool.and_eq_true] at hr
    rw [e2, List.all_append, List.all_append, hr.1, hr.2]
    simp [hx]
  have hd : declB p ⟨nmP p, freshS⟩ = true := by
    unfold declB
    rw [decide_eq_true_eq]
    exact nmP_decl hp
  rw [meanF_out, meanL_look p hr2, e2]
  unfold lookL
  rw [List.find?_append, List.find?_append, hno]
  simp [hd]

/-- The first that declares it here tells it. -/
theorem mean_here (hT : TreeP ts) (h : ts[k]? = some t) {p : ByteArray} {i : Nat} (hi : i < t.attrs.length) (h0 : (t.attrs.take i).find? (declB p) = none) (h1 : declB p t.attrs[i] = true) (hs : (meanF ts k p).isSome = true) : meanF ts k p = some t.attrs[i].value := by
  obtain ⟨R, e1, _⟩ := more_out (x := ⟨⟨#[]⟩, ⟨#[]⟩⟩) hT h
  have hr : (outAts ts k).all rightB = true := by
    cases hr : (outAts ts k).all rightB with
    | true => rfl
    | false => rw [meanF_out, meanL_not p hr] at hs; cases hs
  rw [meanF_out, meanL_look p hr, e1]
  exact lookL_hit hi h0 h1

/-- The attrs of an element of a tree. -/
theorem tree_attrs (hT : TreeP ts) (h : ts[k]? = some t) (hne : ¬ t.name.size = 0) : AttrsOk t.attrs := by
  have hkl : k < ts.length := by
    rcases Nat.lt_or_ge k ts.length with h' | h'
    · exact h'
    · rw [List.getElem?_eq_none h'] at h; cases h
  obtain ⟨⟨_, n1⟩, _⟩ := hT.2.2.2.2 k hkl
  rw [List.getElem?_eq_getElem hkl] at h
  rw [Option.some.inj h, nodeB_el hne] at n1
  simp only [Bool.and_eq_true] at n1
  have := n1.2.1
  unfold attrsB at this
  simpa using this

theorem fresh_ok {p : ByteArray} (hp : prefS p) : atOk ⟨nmP p, freshS⟩ := ⟨nmP_name hp, (show plainL freshS.data.toList = true by decide +kernel), (show freshS.size ≤ 60 by decide)⟩

end

end Go.Proofs.Ytlghhemmmjahnaa

namespace Go.Proofs.Ytlghhemmmjahnaa
open Go.RowKit
set_option linter.unusedVariables false
set_option linter.unusedSimpArgs false

theorem sp_inj : ∀ (a b c d : List UInt8), (∀ x ∈ a, ¬ x = 32) → (∀ x ∈ c, ¬ x = 32) → a ++ 32 :: b = c ++ 32 :: d → a = c ∧ b = d
  | [], b, [], d, _, _, h => ⟨rfl, by simpa using h⟩
  | [], b, y :: c, d, _, hc, h => by
    simp only [List.nil_append, List.cons_append, List.cons.injEq] at h
    exact absurd h.1.symm (hc y (List.mem_cons_self ..))
  | x :: a, b, [], d, ha, _, h => by
    simp only [List.nil_append, List.cons_append, List.cons.injEq] at h
    exact absurd h.1 (ha x (List.mem_cons_self ..))
  | x :: a, b, y :: c, d, ha, hc, h => by
    simp only [List.cons_append, List.cons.injEq] at h
    obtain ⟨e1, e2⟩ := sp_inj a b c d (fun z hz => ha z (List.mem_cons_of_mem _ hz)) (fun z hz => hc z (List.mem_cons_of_mem _ hz)) h.2
    exact ⟨by rw [h.1, e1], e2⟩

/-- No blank stands in it. -/
def NoSp (s : ByteArray) : Prop := ∀ x ∈ s.data.toList, ¬ x = 32

theorem key_inj {a b c d : ByteArray} (ha : NoSp a) (hc : NoSp c) (h : (a ++ ⟨#[32]⟩) ++ b = (c ++ ⟨#[32]⟩) ++ d) : a = c ∧ b = d := by
  have h2 : a.data.toList ++ 32 :: b.data.toList = c.data.toList ++ 32 :: d.data.toList := by
    have h3 := congrArg (fun s : ByteArray => s.data.toList) h
    simpa using h3
  obtain ⟨e1, e2⟩ := sp_inj _ _ _ _ ha hc h2
  refine ⟨?_, ?_⟩
  · apply ByteArray.ext
    exact Array.toList_inj.1 e1
  · apply ByteArray.ext
    exact Array.toList_inj.1 e2

theorem of_nosp {s : ByteArray} (h : ofB sgnS 20 s = true) : NoSp s := by
  intro x hx e
  subst e
  unfold ofB at h
  rw [Bool.and_eq_true] at h
  have h2 := List.all_eq_true.1 h.1 _ hx
  revert h2
  decide

theorem look_nosp {l : List At} (hl : l.all rightB = true) (p : ByteArray) : NoSp ((lookL l p).getD ⟨#[]⟩) := by
  unfold lookL
  cases hf : l.find? (declB p) with
  | none =>
    simp only
    split
    · intro x hx; cases hx
    · intro x hx; cases hx
  | some y =>
    simp only [Option.getD_some]
    have h1 := List.all_eq_true.1 hl y (List.mem_of_find?_eq_some hf)
    have h2 := List.find?_some hf
    unfold declB at h2
    have h3 : declF y = some p := by simpa using h2
    unfold rightB at h1
    rw [h3] at h1
    simp only [Bool.and_eq_true] at h1
    exact of_nosp h1.1

noncomputable def pairN (ts : List Tk) (i : Nat) (x : At) : ByteArray × ByteArray := ((meanF ts i (preS x.name)).getD ⟨#[]⟩, locS x.name)

noncomputable def pairsN (ts : List Tk) (i : Nat) (l : List At) : List (ByteArray × ByteArray) := (l.filter cntB).map (pairN ts i)

theorem meanF_look {ts : List Tk} {i : Nat} (h : (outAts ts i).all rightB = true) (p : ByteArray) : meanF ts i p = lookL (outAts ts i) p := by
  rw [meanF_out]
  exact meanL_look p h

theorem pair_mem {ts : List Tk} {i : Nat} (h : (outAts ts i).all rightB = true) (l : List At) (x : At) : keyN ts i x ∈ keysN ts i l ↔ pairN ts i x ∈ pairsN ts i l := by
  unfold keysN pairsN
  rw [List.mem_map, List.mem_map]
  refine exists_congr fun y => and_congr_right fun _ => ?_
  unfold keyN pairN
  have n1 : NoSp ((meanF ts i (preS y.name)).getD ⟨#[]⟩) := by rw [meanF_look h]; exact look_nosp h _
  have n2 : NoSp ((meanF ts i (preS x.name)).getD ⟨#[]⟩) := by rw [meanF_look h]; exact look_nosp h _
  constructor
  · intro e
    obtain ⟨e1, e2⟩ := key_inj n1 n2 e
    rw [e1, e2]
  · intro e
    have e1 := congrArg Prod.fst e
    have e2 := congrArg Prod.snd e
    simp only at e1 e2
    rw [e1, e2]

theorem pairsN_skip {ts : List Tk} {i : Nat} {l : List At} {x : At} (hc : cntB x = false) : pairsN ts i (l ++ [x]) = pairsN ts i l := by
  unfold pairsN
  rw [List.filter_append]
  simp [hc]

theorem pairsN_more {ts : List Tk} {i : Nat} {l : List At} {x : At} (hc : cntB x = true) : pairsN ts i (l ++ [x]) = pairsN ts i l ++ [pairN ts i x] := by
  unfold pairsN
  rw [List.filter_append]
  simp [hc]

theorem cntB_is (x : At) : cntB x = (!decide ((preS x.name).size = 0) && !decide (preS x.name = nsS)) := by
  have h0 : preS nsS = ⟨#[]⟩ := by decide +kernel
  unfold cntB declF
  by_cases h1 : x.name = nsS
  · rw [if_pos h1, h1, h0]
    rfl
  · rw [if_neg h1]
    by_cases h2 : preS x.name = nsS
    · rw [if_pos h2, decide_eq_true h2]
      simp
    · rw [if_neg h2, decide_eq_false h2]
      simp

/-- Pairs as cells. -/
def prC (ps : List (ByteArray × ByteArray)) : List Value := ps.flatMap fun q => [.string q.1, .string q.2]

theorem prC_snoc (ps : List (ByteArray × ByteArray)) (q : ByteArray × ByteArray) : prC (ps ++ [q]) = prC ps ++ [.string q.1, .string q.2] := by
  unfold prC
  rw [List.flatMap_append]
  simp

theorem prC_get : ∀ (ps : List (ByteArray × ByteArray)) (j : Nat) (h : j < ps.length), (prC ps)[j * 2]? = some (.string ps[j].1) ∧ (prC ps)[j * 2 + 1]? = some (.string ps[j].2)
  | [], j, h => by simp at h
  | x :: ps, 0, h => ⟨rfl, rfl⟩
  | x :: ps, j + 1, h => by
    have := prC_get ps j (by simpa using h)
    rw [show (j + 1) * 2 = j * 2 + 1 + 1 by omega]
    exact this

/-- A row of pairs can be read. -/
def PrRow (w : World) (a : Option Addr) (ps : List (ByteArray × ByteArray)) : Prop := ∀ j (h : j < ps.length), ∃ g, a = some ⟨g, 0, none⟩ ∧ g < w.heap.size ∧ w.cell? ⟨g, j * 2, none⟩ = some (.string ps[j].1) ∧ w.cell? ⟨g, j * 2 + 1, none⟩ = some (.string ps[j].2)

theorem PrRow.below {w w' : World} {a : Option Addr} {ps : List (ByteArray × ByteArray)} (h : PrRow w a ps) (hb : Below w.heap.size w w') : PrRow w' a ps := by
  intro j hj
  obtain ⟨g, e, hg, c1, c2⟩ := h j hj
  exact ⟨g, e, Nat.lt_of_lt_of_le hg hb.size, (hb.cell (p := ⟨g, j * 2, none⟩) hg).trans c1, (hb.cell (p := ⟨g, j * 2 + 1, none⟩) hg).trans c2⟩

theorem PrRow.of {w : World} {B : Nat} {a : Option Addr} {c : Nat} {ps : List (ByteArray × ByteArray)} (h : w.ownsRow B 114 2 (.slice a ps.length c) ps.length (prC ps)) : PrRow w a ps := by
  intro j hj
  rcases h.2 with ⟨_, h0⟩ | ⟨g, cap, cur, e, hg, hh, h3⟩
  · omega
  · cases e
    obtain ⟨p1, p2⟩ := prC_get ps j hj
    exact ⟨g, rfl, lt_of_heap hh, by rw [World.ownsRow.cellAt h (j * 2) (by omega)]; exact p1, by rw [World.ownsRow.cellAt h (j * 2 + 1) (by omega)]; exact p2⟩

theorem prs_more {w1 : World} {B : Nat} {v : Value} {ps : List (ByteArray × ByteArray)} {q : ByteArray × ByteArray} (h : w1.ownsRow B 114 2 v (ps.length + 1) (prC ps ++ [.string q.1, .string q.2])) : ∃ a c, v = .slice a (ps ++ [q]).length c ∧ w1.ownsRow B 114 2 (.slice a (ps ++ [q]).length c) (ps ++ [q]).length (prC (ps ++ [q])) := by
  have e : (ps ++ [q]).length = ps.length + 1 := by rw [List.length_append]; rfl
  rw [e, prC_snoc]
  rcases h.2 with ⟨rfl, h0⟩ | ⟨g, cap, cur, rfl, h3⟩
  · omega
  · exact ⟨_, _, rfl, h⟩

/-- One of them is it. -/
noncomputable def hasP (ps : List (ByteArray × ByteArray)) (q : ByteArray × ByteArray) : Bool := open Classical in decide (q ∈ ps)

theorem hasP_t {ps : List (ByteArray × ByteArray)} {q : ByteArray × ByteArray} (h : q ∈ ps) : hasP ps q = true := by unfold hasP; simp [h]

theorem hasP_f {ps : List (ByteArray × ByteArray)} {q : ByteArray × ByteArray} (h : ¬ q ∈ ps) : hasP ps q = false := by unfold hasP; simp [h]

set_option maxRecDepth 4000 in
set_option maxHeartbeats 2000000 in
theorem cIndexP (a : Option Addr) (cap : Nat) (ps : List (ByteArray × ByteArray)) (m l : ByteArray) (w : World) (hR : PrRow w a ps) (hn : ps.length ≤ 1048576) :
    Calls Try.prog 97 #[.slice a ps.length cap, .agg #[.string m, .string l]] w fun e w' => ∃ r : Int, e = .returned (.int .i64 r) ∧ decide (0 ≤ r) = hasP ps (m, l) ∧ Below w.heap.size w w' := by
  obtain ⟨V, hV⟩ : ∃ V, hasP ps (m, l) = V := ⟨_, rfl⟩
  have HF : Hid (¬ (m, l) ∈ ps → V = false) := fun h => by rw [← hV]; exact hasP_f h
  have HT : Hid ((m, l) ∈ ps → V = true) := fun h => by rw [← hV]; exact hasP_t h
  rw [hV]
  clear hV
  have HR := hid hR
  have HB0 := hid ((Below.refl w.heap.size w).alloc (Nat.le_refl _) (.cells #[.string m, .string l] 114))
  have HX := hid (box_two w (.string m) (.string l) 114)
  clear hR
  obtain ⟨n, hnn⟩ : ∃ n, ps.length = n := ⟨_, rfl⟩
  have HN := hid hnn
  rw [hnn] at hn ⊢
  clear hnn
  go_enter Try.func97, Try.ntmps97
  go_wp2_with fail
  go_loopw [8] (fun k wr => ∃ i : Nat, k = .int .i64 (i : Int) ∧ i ≤ n ∧ Hid (¬ (m, l) ∈ ps.take i) ∧ Hid (Below (w.heap.size + 1) (w.alloc (.cells #[.string m, .string l] 114)) wr)) (fun k _ => n - (intOf k).toNat)
  case atStart => exact ⟨0, rfl, Nat.zero_le _, by show ¬ _; simp, Below.refl _ _⟩
  case round =>
    obtain ⟨i, rfl, hi, HO, HB⟩ := hrel
    have k1 := (HB.out.cell (p := ⟨w.heap.size, 0, none⟩) (Nat.lt_succ_self _)).trans HX.out.1
    have k2 := (HB.out.cell (p := ⟨w.heap.size, 1, none⟩) (Nat.lt_succ_self _)).trans HX.out.2.1
    have HBw := hid (HB0.out.trans (HB.out.mono (Nat.le_succ _)))
    by_cases hlt : i < n
    · have his : i < ps.length := by rw [HN.out]; exact hlt
      obtain ⟨g, rfl, hg, c1, c2⟩ := (HR.out.below HBw.out) i his
      have hin : (i : Int) < (n : Int) := by omega
      have hin0 : (0 : Int) ≤ (i : Int) := by omega
      have q1 := str_beq m ps[i].1
      have q2 := str_beq l ps[i].2
      have HTK := hid (take_snocN his)
      have HYES := hid (show m = ps[i].1 → l = ps[i].2 → V = true from fun e1 e2 => HT.out (by rw [e1, e2]; exact List.getElem_mem his))
      have HNO := hid (show ¬ (m = ps[i].1 ∧ l = ps[i].2) → ¬ (m, l) ∈ ps.take (i + 1) from fun h hm => by
        rw [HTK.out] at hm
        rcases List.mem_append.1 hm with h' | h'
        · exact HO.out h'
        · rw [List.mem_singleton] at h'
          exact h ⟨congrArg Prod.fst h', congrArg Prod.snd h'⟩)
      generalize ps[i].1 = m' at *
      generalize ps[i].2 = l' at *
      by_cases e1 : m = m'
      · rw [decide_eq_true e1] at q1
        by_cases e2 : l = l'
        · rw [decide_eq_true e2] at q2
          have HV := hid (HYES.out e1 e2)
          clear HNO HYES e1 e2
          go_wp2_with fail
          go_quiet (fail)
          go_wp2_with fail
          go_ret
          exact ⟨_, rfl, by rw [HV.out]; exact decide_eq_true hin0, below_drewN HBw.out _⟩
        · rw [decide_eq_false e2] at q2
          have HN2 := hid (HNO.out (fun h => e2 h.2))
          clear HNO HYES e1 e2
          go_wp2_with fail
          go_quiet (fail)
          go_wp2_with fail
          go_roundw
          case rel => exact ⟨i + 1, by go_num, by omega, HN2.out, below_drewN HB.out _⟩
          case measure => simp [intOf]; omega
      · rw [decide_eq_false e1] at q1
        have HN2 := hid (HNO.out (fun h => e1 h.1))
        clear HNO HYES e1 q2
        go_wp2_with fail
        go_quiet (fail)
        go_wp2_with fail
        go_roundw
        case rel => exact ⟨i + 1, by go_num, by omega, HN2.out, below_drewN HB.out _⟩
        case measure => simp [intOf]; omega
    · have hie : i = n := by omega
      subst hie
      have HV := hid (HF.out (by
        have h := HO.out
        rw [List.take_of_length_le (by rw [HN.out]; exact Nat.le_refl _)] at h
        exact h))
      go_wp2_with fail
      go_ret
      exact ⟨_, rfl, by rw [HV.out]; rfl, HBw.out⟩

set_option maxHeartbeats 2000000 in
theorem cContainsP (a : Option Addr) (cap : Nat) (ps : List (ByteArray × ByteArray)) (m l : ByteArray) (w : World) (hR : PrRow w a ps) (hn : ps.length ≤ 1048576) :
    Calls Try.prog 86 #[.slice a ps.length cap, .agg #[.string m, .string l]] w fun e w' => e = .returned (.bool (hasP ps (m, l))) ∧ Below w.heap.size w w' := by
  have HB0 := hid ((Below.refl w.heap.size w).alloc (Nat.le_refl _) (.cells #[.string m, .string l] 114))
  have C := hid (cIndexP a cap ps m l (w.alloc (.cells #[.string m, .string l] 114)) (hR.below HB0.out) hn)
  clear hR
  generalize hasP ps (m, l) = V at *
  generalize ps.length = n at *
  go_enter Try.func86, Try.ntmps86
  go_wp2_with fail
  refine C.out.mono ?_
  rintro e w1 ⟨r, rfl, hr, hb1⟩
  have HB1 := hid (bb HB0.out hb1)
  clear hb1 C
  go_wp2_with fail
  go_ret
  exact ⟨rfl, HB1.out⟩

end Go.Proofs.Ytlghhemmmjahnaa

namespace Go.Proofs.Ytlghhemmmjahnaa
open Go.RowKit
set_option linter.unusedVariables false
set_option linter.unusedSimpArgs false

theorem infoPr : (Try.prog.info? 114).map (fun i => (i.zero, i.size, i.bytes)) = some (some (.agg #[.string ⟨#[]⟩, .string ⟨#[]⟩]), 2, 32) := by kernel_rfl

theorem two_cell (t : TypeId) (w : World) (x y : Value) : ∀ j u, [x, y][j]? = some u → (w.alloc (.cells #[x, y] t)).cell? ((⟨w.heap.size, 0, none⟩ : Addr).add j) = some u := by
  intro j u hj
  match j, hj with
  | 0, hj => simp at hj; subst hj; simp [Addr.add]
  | 1, hj => simp at hj; subst hj; simp [Addr.add]

theorem two_str (s t : ByteArray) : ∀ u ∈ [Value.string s, .string t], u.oneCell' = true := by
  intro u hu
  simp at hu
  rcases hu with rfl | rfl <;> rfl

set_option maxRecDepth 4000 in
set_option maxHeartbeats 8000000 in
theorem cAttrNames (aa : Option Addr) (ca : Nat) (at0 : List At) (F : FuncId) (C : Array Value) (ts : List Tk) (i : Nat) (w : World) (B : Bool) (hB : B = true ↔ AttrsN ts i at0) (hF : Asks F C w (outAts ts i)) (hr : (outAts ts i).all rightB = true) (hR : AtRow w aa at0) (hz : AtSz 1048576 at0) (hn : at0.length ≤ 1048576) :
    Calls Try.prog 63 #[.slice aa at0.length ca, .func (.func F) #[] C] w fun e w' => e = .returned (.bool B) ∧ Below w.heap.size w w' := by
  obtain ⟨i0, hi, hz0, hz1, hz2⟩ := info_parts infoPr
  have HI := hid (And.intro hi (And.intro hz0 (And.intro hz1 hz2)))
  clear hi hz0 hz1 hz2
  have HBT := hid (show AttrsN ts i at0 → B = true from hB.2)
  have HBF := hid (show ¬ AttrsN ts i at0 → B = false from fun h => by
    cases B with
    | false => rfl
    | true => exact absurd (hB.1 rfl) h)
  have HMEM := hid (fun l x => pair_mem hr l x)
  have HE := hid hF.1
  have CF := hid (fun p wx (hb : Below w.heap.size w wx) (hp : p.size ≤ 1048576) => hF.2 p wx hb hp)
  have HLK := hid (fun p => meanF_look hr p)
  have HR := hid hR
  have HZ := hid hz
  clear hB hF hr hR hz
  obtain ⟨n, hnn⟩ : ∃ n, at0.length = n := ⟨_, rfl⟩
  have HN := hid hnn
  rw [hnn] at hn ⊢
  clear hnn
  go_enter Try.func63, Try.ntmps63
  go_wp2_with fail
  go_loopw [5, 15] (fun v5 v15 wr => ∃ (j : Nat) (a8 : Option Addr) (c8 : Nat) (ps : List (ByteArray × ByteArray)), v15 = .int .i64 (j : Int) ∧ j ≤ n ∧ v5 = .slice a8 ps.length c8 ∧ ps.length ≤ j ∧ Hid (ps = pairsN ts i (at0.take j) ∧ AttrsN ts i (at0.take j)) ∧ Hid (wr.ownsRow w.heap.size 114 2 (.slice a8 ps.length c8) ps.length (prC ps)) ∧ Hid (Below w.heap.size w wr)) (fun _ v15 _ => n - (intOf v15).toNat)
  case atStart => exact ⟨0, none, 0, [], rfl, Nat.zero_le _, rfl, Nat.zero_le _, ⟨rfl, by rw [List.take_zero]; exact attrsN_nil.1⟩, World.ownsRow_nil _ _ _ _, Below.refl _ _⟩
  case round =>
    obtain ⟨j, a8, c8, ps, rfl, hj, rfl, hps, HK, HO, HB⟩ := hrel
    by_cases hjl : j < n
    · have hjt : j < at0.length := by rw [HN.out]; exact hjl
      have hjn : (j : Int) < (n : Int) := by omega
      obtain ⟨b, o, rfl, hb, c1, c2⟩ := (HR.out.below HB.out) j hjt
      have HS := hid (HZ.out _ (List.getElem_mem hjt))
      have HTS := hid (take_snocN hjt)
      obtain ⟨y, hy⟩ : ∃ y, at0[j] = y := ⟨_, rfl⟩
      rw [hy] at c1 c2 HS HTS
      clear hy
      have HNT := hid (show ¬ AttrsN ts i (at0.take j ++ [y]) → B = false from fun h => HBF.out (fun ha => h (by rw [← HTS.out]; exact attrsN_take (j + 1) ha)))
      have CP := hid (fun wx => cPartsI y.name wx HS.out.1)
      have hcn := cntB_is y
      have HPN := hid (show pairN ts i y = ((meanF ts i (preS y.name)).getD ⟨#[]⟩, locS y.name) from rfl)
      have CM := hid (fun wx (hb : Below w.heap.size w wx) => CF.out (preS y.name) wx hb (preS_sz HS.out.1))
      rw [← HLK.out] at CM
      have HMI := hid (fun (h : cntB y = true) (q : (meanF ts i (preS y.name)).isSome = false) => HNT.out (attrsN_bad h (.inl q)))
      have HMK := hid (fun (h : cntB y = true) (q : pairN ts i y ∈ ps) => HNT.out (attrsN_bad h (.inr ((HMEM.out _ _).2 (by rw [← HK.out.1]; exact q)))))
      have HMO := hid (fun (h : cntB y = true) (q : (meanF ts i (preS y.name)).isSome = true) (q2 : ¬ pairN ts i y ∈ ps) => (attrsN_more HK.out.2 h q (fun h3 => q2 (by rw [HK.out.1]; exact (HMEM.out _ _).1 h3))).1)
      have EP := empty_is (preS y.name)
      have EN := ns_beq (preS y.name)
      have he := HE.out (preS y.name)
      obtain ⟨M, hM⟩ : ∃ M, (meanF ts i (preS y.name)).getD ⟨#[]⟩ = M := ⟨_, rfl⟩
      obtain ⟨I, hI⟩ : ∃ I, (meanF ts i (preS y.name)).isSome = I := ⟨_, rfl⟩
      rw [hM] at CM HPN
      rw [hI] at CM HMI HMO
      obtain ⟨P, hP⟩ : ∃ P, preS y.name = P := ⟨_, rfl⟩
      obtain ⟨L, hL⟩ : ∃ L, locS y.name = L := ⟨_, rfl⟩
      rw [hP] at CP CM EP EN he hcn
      rw [hL] at CP HPN
      rw [HPN.out] at HMK HMO
      clear hM hI hP hL HMEM HLK
      have HBX := hid (HB.out.alloc HB.out.size (.cells #[.string y.name, .string y.value] 38))
      have HO1 := hid (HO.out.alloc (.cells #[.string y.name, .string y.value] 38))
      obtain ⟨nk, hnk⟩ : ∃ nk, ps.length = nk := ⟨_, rfl⟩
      have HNK := hid hnk
      rw [hnk] at hps HO1 ⊢
      clear hnk HO
      obtain ⟨nm, hnm⟩ : ∃ nm, y.name = nm := ⟨_, rfl⟩
      obtain ⟨vl, hvl⟩ : ∃ vl, y.value = vl := ⟨_, rfl⟩
      rw [hnm] at c1 CP HBX HO1
      rw [hvl] at c2 HBX HO1
      clear hnm hvl
      go_wp2_with fail
      refine (CP.out _).mono ?_
      rintro e w1 ⟨rfl, hb1⟩
      have HB1 := hid (bb HBX.out hb1)
      have HO2 := hid (ownsRow_below HO1.out hb1)
      clear hb1 HBX CP c1 c2 HO1 hb HB
      by_cases h0 : P.size = 0
      · rw [decide_eq_true h0] at EP hcn
        have HC := hid (show cntB y = false from hcn)
        have HS2 := hid (attrsN_skip HK.out.2 HC.out)
        have HS3 := hid (pairsN_skip (ts := ts) (i := i) (l := at0.take j) HC.out)
        rw [← HTS.out] at HS2 HS3
        clear hcn h0 he EN
        go_wp2_with fail
        go_roundw
        case rel => exact ⟨j + 1, a8, c8, ps, by go_num, by omega, by rw [HNK.out], by rw [HNK.out]; omega, ⟨by rw [HS3.out]; exact HK.out.1, HS2.out.1⟩, by rw [HNK.out]; exact HO2.out, HB1.out⟩
        case measure => simp [intOf]; omega
      · rw [decide_eq_false h0] at EP hcn
        by_cases h1 : P = nsS
        · rw [decide_eq_true h1] at EN hcn
          have HC := hid (show cntB y = false from hcn)
          have HS2 := hid (attrsN_skip HK.out.2 HC.out)
          have HS3 := hid (pairsN_skip (ts := ts) (i := i) (l := at0.take j) HC.out)
          rw [← HTS.out] at HS2 HS3
          clear hcn h0 h1 he
          go_wp2_with fail
          go_roundw
          case rel => exact ⟨j + 1, a8, c8, ps, by go_num, by omega, by rw [HNK.out], by rw [HNK.out]; omega, ⟨by rw [HS3.out]; exact HK.out.1, HS2.out.1⟩, by rw [HNK.out]; exact HO2.out, HB1.out⟩
          case measure => simp [intOf]; omega
        · rw [decide_eq_false h1] at EN hcn
          have HC := hid (show cntB y = true from hcn)
          clear hcn h0 h1
          go_wp2_with fail
          refine (CM.out _ HB1.out).mono ?_
          rintro e w2 ⟨rfl, hb2⟩
          have HB2 := hid (bb HB1.out hb2)
          have HO3 := hid (ownsRow_below HO2.out hb2)
          clear hb2 CM HO2 HB1 he
          have HBY := hid (HB2.out.alloc HB2.out.size (.cells #[.string M, .string L] 114))
          have HO4 := hid (HO3.out.alloc (.cells #[.string M, .string L] 114))
          have HBOX := hid (box_two w2 (.string M) (.string L) 114)
          cases I with
          | false =>
            have HV := hid (HMI.out HC.out rfl)
            go_wp2_with fail
            go_ret
            exact ⟨by rw [HV.out]; rfl, HBY.out⟩
          | true =>
            have CC := hid (cContainsP a8 c8 ps M L (w2.alloc (.cells #[.string M, .string L] 114)) (PrRow.of (by rw [HNK.out]; exact HO4.out)) (by rw [HNK.out]; omega))
            rw [HNK.out] at CC
            obtain ⟨H, hH⟩ : ∃ H, hasP ps (M, L) = H := ⟨_, rfl⟩
            have HH := hid hH
            rw [hH] at CC
            clear hH
            go_wp2_with fail
            refine CC.out.mono ?_
            rintro e w3 ⟨rfl, hb3⟩
            have HB3 := hid (bb HBY.out hb3)
            have HO5 := hid (ownsRow_below HO4.out hb3)
            have d1 := (hb3.cell (p := ⟨w2.heap.size, 0, none⟩) HBOX.out.2.2).trans HBOX.out.1
            have d2 := (hb3.cell (p := ⟨w2.heap.size, 1, none⟩) HBOX.out.2.2).trans HBOX.out.2.1
            clear hb3 CC HO4 HBY HBOX HB2 HO3
            cases H with
            | true =>
              have HV := hid (HMK.out HC.out (by
                have h := HH.out
                unfold hasP at h
                simpa using h))
              go_wp2_with fail
              go_ret
              exact ⟨by rw [HV.out]; rfl, HB3.out⟩
            | false =>
              have HS2 := hid (HMO.out HC.out (by first | rfl | trivial) (by
                have h := HH.out
                unfold hasP at h
                simpa using h))
              have HS3 := hid (pairsN_more (ts := ts) (i := i) (l := at0.take j) HC.out)
              rw [← HTS.out] at HS2 HS3
              rw [HPN.out, ← HK.out.1] at HS3
              have hsz := HB3.out.size
              go_wp2_with (at_builtin; refine wpList_append_own _ rfl _ _ 112 rfl w.heap.size 114 i0 (.agg #[.string ⟨#[]⟩, .string ⟨#[]⟩]) 2 32 Try.underlying112 HI.out.1 HI.out.2.1 HI.out.2.2.1 HI.out.2.2.2 rfl (by decide) _ _ _ rfl (HO5.out.alloc _) ⟨w3.heap.size, 0, none⟩ 1 1 [.string M, .string L] rfl rfl (two_cell _ _ _ _) (two_str _ _) (by unfold maxLen; omega) (by omega) (by simp; omega) ?_)
              intro v' w7 hown' hgrow _
              have HB7 := hid ((HB3.out.alloc hsz _).grown hgrow (by simp; omega) (fun k hk => (HO5.out.lt k hk).1))
              rw [← HNK.out] at hown'
              obtain ⟨a9, c9, rfl, ho9⟩ := prs_more (q := (M, L)) hown'
              have HO9 := hid ho9
              clear hown' hgrow ho9
              have HL9 := hid (show (ps ++ [(M, L)]).length ≤ j + 1 by rw [List.length_append, HNK.out]; show _ + 1 ≤ _; omega)
              generalize ps ++ [(M, L)] = ps9 at *
              go_wp2_with fail
              go_roundw
              case rel => exact ⟨j + 1, a9, c9, ps9, by go_num, by omega, rfl, HL9.out, ⟨HS3.out.symm, HS2.out⟩, HO9.out, HB7.out⟩
              case measure => simp [intOf]; omega
    · have HV := hid (HBT.out (by
        have h := HK.out.2
        rw [List.take_of_length_le (by rw [HN.out]; omega)] at h
        exact h))
      have hjn : j = n := by omega
      subst hjn
      generalize ps.length = nk at *
      go_wp2_with fail
      go_ret
      exact ⟨by rw [HV.out]; rfl, HB.out⟩

theorem box_four (w : World) (x y z u : Value) (T : TypeId) : (w.alloc (.cells #[x, y, z, u] T)).cell? ⟨w.heap.size, 0, none⟩ = some x ∧ (w.alloc (.cells #[x, y, z, u] T)).cell? ⟨w.heap.size, 1, none⟩ = some y
    ∧ (w.alloc (.cells #[x, y, z, u] T)).cell? ⟨w.heap.size, 2, none⟩ = some z ∧ (w.alloc (.cells #[x, y, z, u] T)).cell? ⟨w.heap.size, 3, none⟩ = some u ∧ w.heap.size < (w.alloc (.cells #[x, y, z, u] T)).heap.size := by
  refine ⟨?_, ?_, ?_, ?_, by simp⟩
  all_goals (rw [Lib.cell_of_heap (heap_alloc_new w _)]; rfl)

set_option maxRecDepth 4000 in
set_option maxHeartbeats 4000000 in
theorem cElementNames (t : Tk) (aa : Option Addr) (ca : Nat) (F : FuncId) (C : Array Value) (ts : List Tk) (i : Nat) (w : World) (B : Bool) (hB : B = true ↔ ((meanF ts i (preS t.name)).isSome = true ∧ ¬ preS t.name = nsS ∧ AttrsN ts i t.attrs)) (hF : Asks F C w (outAts ts i)) (hr : (outAts ts i).all rightB = true) (hR : AtRow w aa t.attrs) (hz : TkSz 1048576 t) :
    Calls Try.prog 35 #[.agg #[.int .i64 t.kind, .string t.name, .slice aa t.attrs.length ca, .string t.text], .func (.func F) #[] C] w fun e w' => e = .returned (.bool B) ∧ Below w.heap.size w w' := by
  have HBA := hid ((Below.refl w.heap.size w).alloc (Nat.le_refl _) (.cells #[.int .i64 t.kind, .string t.name, .slice aa t.attrs.length ca, .string t.text] 36))
  have HBOX := hid (box_four w (.int .i64 t.kind) (.string t.name) (.slice aa t.attrs.length ca) (.string t.text) 36)
  have CP := hid (fun wx => cPartsI t.name wx hz.1)
  have he := hF.1 (preS t.name)
  have CM := hid (fun wx (hb : Below w.heap.size w wx) => hF.2 (preS t.name) wx hb (preS_sz hz.1))
  rw [← meanF_look hr] at CM
  obtain ⟨D, hD⟩ : ∃ D : Bool, D = true ↔ AttrsN ts i t.attrs := by
    by_cases h : AttrsN ts i t.attrs
    · exact ⟨true, ⟨fun _ => h, fun _ => rfl⟩⟩
    · exact ⟨false, ⟨fun h' => (by cases h'), fun h' => absurd h' h⟩⟩
  have CA := hid (fun wx (hb : Below w.heap.size w wx) => cAttrNames aa ca t.attrs F C ts i wx D hD (hF.below hb) hr (hR.below hb) hz.2.2.1 hz.2.1)
  have EN := ns_beq (preS t.name)
  rw [← hD] at hB
  obtain ⟨M, hM⟩ : ∃ M, (meanF ts i (preS t.name)).getD ⟨#[]⟩ = M := ⟨_, rfl⟩
  obtain ⟨I, hI⟩ : ∃ I, (meanF ts i (preS t.name)).isSome = I := ⟨_, rfl⟩
  rw [hM, hI] at CM
  rw [hI] at hB
  clear hM hI hD hF hr hR hz
  generalize preS t.name = P at *
  generalize locS t.name = L at *
  generalize t.name = nm at *
  generalize t.kind = K at *
  generalize t.text = T at *
  generalize t.attrs.length = nA at *
  have HBB := hid hB
  clear hB
  go_enter Try.func35, Try.ntmps35
  go_wp2_with fail
  refine (CP.out _).mono ?_
  rintro e w1 ⟨rfl, hb1⟩
  have HB1 := hid (bb HBA.out hb1)
  have x2 := hid ((hb1.cell (p := ⟨w.heap.size, 2, none⟩) HBOX.out.2.2.2.2).trans HBOX.out.2.2.1)
  have x5 := hid (Nat.lt_of_lt_of_le HBOX.out.2.2.2.2 hb1.size)
  clear hb1 CP HBOX HBA
  go_wp2_with fail
  refine (CM.out _ HB1.out).mono ?_
  rintro e w2 ⟨rfl, hb2⟩
  have HB2 := hid (bb HB1.out hb2)
  have y2 := (hb2.cell (p := ⟨w.heap.size, 2, none⟩) x5.out).trans x2.out
  clear hb2 CM HB1 x2 x5 he
  cases I with
  | false =>
    have HV := hid (show B = false by
      cases B with
      | false => rfl
      | true => exact absurd (HBB.out.1 rfl).1 (by decide))
    go_wp2_with fail
    go_ret
    exact ⟨by rw [HV.out]; rfl, HB2.out⟩
  | true =>
    by_cases hns : P = nsS
    · rw [decide_eq_true hns] at EN
      have HV := hid (show B = false by
        cases B with
        | false => rfl
        | true => exact absurd hns (HBB.out.1 rfl).2.1)
      clear hns
      go_wp2_with fail
      go_ret
      exact ⟨by rw [HV.out]; rfl, HB2.out⟩
    · rw [decide_eq_false hns] at EN
      have HV := hid (show B = D by
        rw [Bool.eq_iff_iff, HBB.out]
        exact ⟨fun h => h.2.2, fun h => ⟨rfl, hns, h⟩⟩)
      clear hns HBB
      go_wp2_with fail
      refine (CA.out _ HB2.out).mono ?_
      rintro e w3 ⟨rfl, hb3⟩
      have HB3 := hid (bb HB2.out hb3)
      clear hb3 CA
      go_wp2_with fail
      go_ret
      exact ⟨by rw [HV.out]; rfl, HB3.out⟩

/-- Without right declarations nothing has a meaning. -/
theorem meanF_not {ts : List Tk} {i : Nat} (h : (outAts ts i).all rightB = false) (p : ByteArray) : meanF ts i p = none := by
  rw [meanF_out]
  exact meanL_not p h

set_option maxRecDepth 4000 in
set_option maxHeartbeats 8000000 in
theorem cNamesOkI (a : Option Addr) (cap : Nat) (ts : List Tk) (w : World) (hR : TkRow w a ts) (hn : ts.length ≤ 1048576) (hz : TksSz 1048576 ts) :
    Calls Try.prog 15 #[.slice a ts.length cap] w fun e w' => e = .returned (.bool (namesB ts)) ∧ Below w.heap.size w w' := by
  obtain ⟨V, hV⟩ : ∃ V, namesB ts = V := ⟨_, rfl⟩
  have HF : Hid (¬ NamesP ts → V = false) := fun h => by rw [← hV]; exact namesB_f h
  have HT : Hid (NamesP ts → V = true) := fun h => by rw [← hV]; exact namesB_t h
  rw [hV]
  clear hV
  have C := hid (cTreeOkI a cap ts w hR hn hz)
  by_cases hT : TreeP ts
  case neg =>
    rw [treeB_f hT] at C
    have HV := hid (HF.out (fun h => hT h.1))
    clear hR hz hT HF HT
    generalize ts.length = n at *
    go_enter Try.func15, Try.ntmps15
    go_wp2_with fail
    refine C.out.mono ?_
    rintro e w1 ⟨rfl, hb1⟩
    have HB1 := hid hb1
    clear hb1 C
    go_wp2_with fail
    go_ret
    exact ⟨by rw [HV.out]; rfl, HB1.out⟩
  rw [treeB_t hT] at C
  have HR := hid hR
  have HZ := hid hz
  have HTP := hid hT
  have hn50 : ts.length ≤ 50 := hT.2.1
  have CL := hid (fun (i : Nat) (h : i < ts.length) wx (hb : Below w.heap.size w wx) => cLookupAt a cap ts i wx (hR.below hb) hT h hn hz)
  obtain ⟨b, o, _, _, ea, -⟩ := hR 0 hT.1
  subst ea
  obtain ⟨n, hnn⟩ : ∃ n, ts.length = n := ⟨_, rfl⟩
  have HN := hid hnn
  rw [hnn] at hn hn50 C CL ⊢
  clear hnn hR hz hT
  go_enter Try.func15, Try.ntmps15
  go_wp2_with fail
  refine C.out.mono ?_
  rintro e w1 ⟨rfl, hb1⟩
  have HB1 := hid hb1
  clear hb1 C
  go_wp2_with fail
  go_loopw [12] (fun v3 wr => ∃ i : Nat, v3 = .int .i64 (i : Int) ∧ i ≤ n ∧ Hid (∀ j t, j < i → ts[j]? = some t → ElemN ts j t) ∧ Hid (Below w.heap.size w wr)) (fun v3 _ => n - (intOf v3).toNat)
  case atStart => exact ⟨0, rfl, Nat.zero_le _, fun j t h => by omega, HB1.out⟩
  case round =>
    clear HB1
    obtain ⟨i, rfl, hi, HA, HB⟩ := hrel
    by_cases hlt : i < n
    · have his : i < ts.length := by rw [HN.out]; exact hlt
      have hin : (i : Int) < (n : Int) := by omega
      have hti : ts[i]? = some ts[i] := List.getElem?_eq_getElem his
      have HZT := hid (HZ.out _ (List.getElem_mem his))
      have HROW := hid (fun wx (hb : Below w.heap.size w wx) => (HR.out.below hb) i his)
      obtain ⟨t, ht⟩ : ∃ t, ts[i] = t := ⟨_, rfl⟩
      rw [ht] at hti HZT HROW
      have HTI := hid hti
      have HBAD := hid (show ¬ ElemN ts i t → V = false from fun h => HF.out (fun hp => h (hp.2 i t HTI.out)))
      have HNX := hid (show ElemN ts i t → ∀ j t', j < i + 1 → ts[j]? = some t' → ElemN ts j t' from fun h j t' hj he => by
        rcases Nat.lt_or_eq_of_le (Nat.le_of_lt_succ hj) with h' | h'
        · exact HA.out j t' h' he
        · subst h'
          rw [HTI.out] at he
          cases he
          exact h)
      clear hti ht HA his
      have CL1 := hid (CL.out i hlt)
      have CI := hid (fun wx aa nA ca => cIsText t.kind t.name aa nA ca t.text wx HZT.out.1)
      obtain ⟨b', o', aa, ca, e', hb, q0, q1, q2, q3, hA⟩ := HROW.out _ HB.out
      obtain ⟨rfl, rfl⟩ : b = b' ∧ o = o' := by cases e'; exact ⟨rfl, rfl⟩
      have HAT := hid hA
      clear e' hA
      have HBX := hid (HB.out.alloc HB.out.size (.cells #[.int .i64 t.kind, .string t.name, .slice aa t.attrs.length ca, .string t.text] 36))
      have HBL := hid ((Below.refl wr.heap.size wr).alloc (Nat.le_refl _) (.cells #[.int .i64 t.kind, .string t.name, .slice aa t.attrs.length ca, .string t.text] 36))
      have HBOX := hid (box_four wr (.int .i64 t.kind) (.string t.name) (.slice aa t.attrs.length ca) (.string t.text) 36)
      obtain ⟨B, hBB⟩ : ∃ B : Bool, B = true ↔ ((meanF ts i (preS t.name)).isSome = true ∧ ¬ preS t.name = nsS ∧ AttrsN ts i t.attrs) := by
        by_cases h : ((meanF ts i (preS t.name)).isSome = true ∧ ¬ preS t.name = nsS ∧ AttrsN ts i t.attrs)
        · exact ⟨true, ⟨fun _ => h, fun _ => rfl⟩⟩
        · exact ⟨false, ⟨fun h' => (by cases h'), fun h' => absurd h' h⟩⟩
      have CE := hid (fun F C wx (hw : Below wr.heap.size wr wx) hF hr => cElementNames t aa ca F C ts i wx B hBB hF hr (HAT.out.below hw) HZT.out)
      have HB0 := hid (show ¬ t.name.size = 0 → (outAts ts i).all rightB = false → V = false from fun h0 h => HBAD.out (fun he => by
        rcases he with h' | ⟨h', _⟩
        · exact h0 h'
        · rw [meanF_not h] at h'; cases h'))
      have HBF := hid (show ¬ t.name.size = 0 → B = false → V = false from fun h0 h => HBAD.out (fun he => by
        rcases he with h' | h'
        · exact h0 h'
        · rw [hBB.2 h'] at h; cases h))
      have HBT := hid (show B = true → ElemN ts i t from fun h => .inr (hBB.1 h))
      have HTX := hid (show t.name.size = 0 → ElemN ts i t from fun h => .inl h)
      clear hBB HAT
      obtain ⟨A0, hA0⟩ : ∃ A0, (outAts ts i).all rightB = A0 := ⟨_, rfl⟩
      rw [hA0] at CL1 HB0
      have HA0 := hid hA0
      clear hA0
      obtain ⟨nA, hnA⟩ : ∃ nA, t.attrs.length = nA := ⟨_, rfl⟩
      rw [hnA] at q2 HBX HBL HBOX CE
      clear hnA
      obtain ⟨D, hD⟩ : ∃ D : Bool, decide (t.name.size = 0) = D := ⟨_, rfl⟩
      have HD := hid hD
      rw [hD] at CI
      clear hD
      obtain ⟨nm, hnm⟩ : ∃ nm, t.name = nm := ⟨_, rfl⟩
      rw [hnm] at q1 HBX HBL HBOX CE CI HB0 HBF HTX HD
      obtain ⟨K, hK⟩ : ∃ K, t.kind = K := ⟨_, rfl⟩
      rw [hK] at q0 HBX HBL HBOX CE CI
      obtain ⟨X, hX⟩ : ∃ X, t.text = X := ⟨_, rfl⟩
      rw [hX] at q3 HBX HBL HBOX CE CI
      clear hnm hK hX
      go_wp2_with fail
      refine (CI.out _ _ _ _).mono ?_
      rintro e w2 ⟨rfl, hb2⟩
      have HB2 := hid (bb HBX.out hb2)
      have HL2 := hid (bb HBL.out hb2)
      have k0 := hid ((hb2.cell (p := ⟨wr.heap.size, 0, none⟩) HBOX.out.2.2.2.2).trans HBOX.out.1)
      have k1 := hid ((hb2.cell (p := ⟨wr.heap.size, 1, none⟩) HBOX.out.2.2.2.2).trans HBOX.out.2.1)
      have k2 := hid ((hb2.cell (p := ⟨wr.heap.size, 2, none⟩) HBOX.out.2.2.2.2).trans HBOX.out.2.2.1)
      have k3 := hid ((hb2.cell (p := ⟨wr.heap.size, 3, none⟩) HBOX.out.2.2.2.2).trans HBOX.out.2.2.2.1)
      have k4 := hid (Nat.lt_of_lt_of_le HBOX.out.2.2.2.2 hb2.size)
      clear hb2 CI HBOX HBX HBL q0 q1 q2 q3 hb
      cases D with
      | true =>
        have HN2 := hid (HNX.out (HTX.out (of_decide_eq_true HD.out)))
        go_wp2_with fail
        go_roundw
        case rel => exact ⟨i + 1, by go_num, by omega, HN2.out, HB2.out⟩
        case measure => simp [intOf]; omega
      | false =>
        have H0 := hid (of_decide_eq_false HD.out)
        go_wp2_with fail
        refine (CL1.out _ HB2.out).mono ?_
        rintro e w3 ⟨v, rfl, hv, hb3⟩
        have HB3 := hid (bb HB2.out hb3)
        have HL3 := hid (bb HL2.out hb3)
        have HVV := hid hv
        have m0 := (hb3.cell (p := ⟨wr.heap.size, 0, none⟩) k4.out).trans k0.out
        have m1 := (hb3.cell (p := ⟨wr.heap.size, 1, none⟩) k4.out).trans k1.out
        have m2 := (hb3.cell (p := ⟨wr.heap.size, 2, none⟩) k4.out).trans k2.out
        have m3 := (hb3.cell (p := ⟨wr.heap.size, 3, none⟩) k4.out).trans k3.out
        clear hb3 hv CL1 k0 k1 k2 k3 k4 HB2 HL2 HB
        cases A0 with
        | false =>
          have HV := hid (HB0.out H0.out rfl)
          go_wp2_with fail
          go_ret
          exact ⟨by rw [HV.out]; rfl, HB3.out⟩
        | true =>
          obtain ⟨F, C, rfl, hF⟩ := HVV.out rfl
          have CE1 := hid (CE.out F C _ HL3.out hF HA0.out)
          clear hF HVV CE
          go_wp2_with fail
          refine CE1.out.mono ?_
          rintro e w4 ⟨rfl, hb4⟩
          have HB4 := hid (bb HB3.out hb4)
          clear hb4 CE1 m0 m1 m2 m3
          cases B with
          | false =>
            have HV := hid (HBF.out H0.out rfl)
            go_wp2_with fail
            go_ret
            exact ⟨by rw [HV.out]; rfl, HB4.out⟩
          | true =>
            have HN2 := hid (HNX.out (HBT.out rfl))
            go_wp2_with fail
            go_roundw
            case rel => exact ⟨i + 1, by go_num, by omega, HN2.out, HB4.out⟩
            case measure => simp [intOf]; omega
    · have HV := hid (HT.out ⟨HTP.out, fun j t he => HA.out j t (by
        have h1 : j < ts.length := by
          rcases Nat.lt_or_ge j ts.length with h' | h'
          · exact h'
          · rw [List.getElem?_eq_none h'] at he; cases he
        have := HN.out
        omega) he⟩)
      have hie : i = n := by omega
      subst hie
      go_wp2_with fail
      go_ret
      exact ⟨by rw [HV.out]; rfl, HB.out⟩

end Go.Proofs.Ytlghhemmmjahnaa
