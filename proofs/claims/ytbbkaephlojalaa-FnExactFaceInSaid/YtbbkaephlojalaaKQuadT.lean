/- Merged out of: XQuadM, XTrS, XQuadS, XQuadT. -/
import Derived.Test.YtbbkaephlojalaaSumM
import Derived.Test.YtbbkaephlojalaaKMatS
import Derived.Test.YtbbkaephlojalaaOrdS
import Derived.Test.YtbbkaephlojalaaKMirrorS
import Derived.Test.YtbbkaephlojalaaKStrT
import Derived.Deep.AppendLies
import Derived.Deep.CutRange
import Derived.Deep.CutBlock
import Derived.Test.YtbbkaephlojalaaKSignS
section
/- Quadratic trees as mathematics: which letters tell them, and their order. No walk here. -/
namespace Go.Proofs.Ytbbkaephlojalaa

/-- Trees in ascending order, none twice. -/
def AscT (us : List T) : Prop := us.Pairwise (fun a b => ordT a b < 0)

/-- All trees of a list, the greater ones first. -/
def downT (ts : List T) : List T := (canon (ts.map fun t => ((1 : Int), t))).map (·.2)

theorem cf_map_s (s : T → Int) : ∀ (ps : List Tm), (∀ p ∈ ps, p.2.wf) → ∀ u : T, u.wf → cf (ps.map fun p => (s p.2 * p.1, p.2)) u = s u * cf ps u
  | [], _, u, _ => by simp [cf]
  | p :: ps, h, u, hu => by
    have ih := cf_map_s s ps (fun q hq => h q (by simp [hq])) u hu
    simp only [List.map_cons, cf, ih]
    by_cases e : ordT p.2 u = 0
    · have := ordT_zero (h p (by simp)) hu e
      rw [if_pos e, if_pos e, this, Int.mul_add]
    · rw [if_neg e, if_neg e, Int.zero_add, Int.zero_add]

theorem cf_ones_le : ∀ (ts : List T), (∀ t ∈ ts, t.wf) → ts.Nodup → ∀ u, u ∈ ts → cf (ts.map fun t => ((1 : Int), t)) u = 1
  | [], _, _, u, hu => by simp at hu
  | t :: ts, h, hn, u, hu => by
    have hn' := List.nodup_cons.1 hn
    simp only [List.map_cons, cf]
    rcases List.mem_cons.1 hu with e | e
    · subst e
      rw [if_pos (isCmp_ordT.self _), cf_none]
      · rfl
      · intro p hp h0
        obtain ⟨q, hq, rfl⟩ := List.mem_map.1 hp
        have := ordT_zero (h q (by simp [hq])) (h u (by simp)) h0
        exact hn'.1 (this ▸ hq)
    · rw [cf_ones_le ts (fun q hq => h q (by simp [hq])) hn'.2 u e, if_neg]
      · rfl
      · intro h0
        have := ordT_zero (h t (by simp)) (h u (by simp [e])) h0
        exact hn'.1 (this ▸ e)

theorem NF.cf_mem : ∀ {l : List Tm}, NF l → ∀ p ∈ l, cf l p.2 = p.1
  | [], _, p, hp => by simp at hp
  | q :: l, h, p, hp => by
    rcases List.mem_cons.1 hp with e | e
    · subst e; exact h.cf_head
    · rw [cf, if_neg (by have := h.head p e; omega), h.tail.cf_mem p e]; omega

/-- The sum of trees with coefficients of their own. -/
theorem canon_signs {ts : List T} (hw : ∀ t ∈ ts, t.wf) (hn : ts.Nodup) (s : T → Int) (hs : ∀ t ∈ ts, s t % 101 ≠ 0) :
    canon (ts.map fun t => (s t, t)) = (downT ts).map fun t => (s t % 101, t) := by
  have hw1 : ∀ p ∈ ts.map (fun t => ((1 : Int), t)), p.2.wf := fun p hp => by
    obtain ⟨q, hq, rfl⟩ := List.mem_map.1 hp; exact hw q hq
  have hK := NF.canon hw1
  obtain ⟨K, hKe⟩ : ∃ K, K = canon (ts.map fun t => ((1 : Int), t)) := ⟨_, rfl⟩
  rw [← hKe] at hK
  have hmem : ∀ p ∈ K, p.2 ∈ ts ∧ p.1 = 1 := fun p hp => by
    have h1 : p.2 ∈ ts := by
      rw [hKe] at hp
      obtain ⟨q, hq, e⟩ := mem_canon hp
      obtain ⟨r, hr, rfl⟩ := List.mem_map.1 hq
      rw [e]; exact hr
    refine ⟨h1, ?_⟩
    have h2 := hK.cf_mem p hp
    have h3 := cf_ones_le ts hw hn p.2 h1
    have h4 := cf_canon (ts.map fun t => ((1 : Int), t)) p.2
    rw [← hKe] at h4
    have h5 := hK.2 p hp
    omega
  have hd : downT ts = K.map (·.2) := by rw [downT, hKe]
  rw [hd, List.map_map]
  symm
  apply canon_of
  · refine ⟨?_, ?_⟩
    · rw [List.pairwise_map]
      exact hK.1
    · intro p hp
      obtain ⟨q, hq, rfl⟩ := List.mem_map.1 hp
      have := hs q.2 (hmem q hq).1
      exact ⟨by simp; omega, by simp; omega, (hK.2 q hq).2.2⟩
  · intro p hp
    obtain ⟨q, hq, rfl⟩ := List.mem_map.1 hp; exact hw q hq
  · intro t
    have e1 : ts.map (fun t => (s t, t)) = (ts.map fun t => ((1 : Int), t)).map (fun p => (s p.2 * p.1, p.2)) := by simp [List.map_map]
    have e2 : (cf (K.map ((fun t => (s t % 101, t)) ∘ (·.2))) t - cf (K.map fun p => (s p.2, p.2)) t) % 101 = 0 := cf_map_congr K (fun p => (s p.2 % 101, p.2)) (fun p => (s p.2, p.2)) (fun p => ⟨rfl, by show (s p.2 % 101 - s p.2) % 101 = 0; omega⟩) t
    have e3 : (K.map fun p => (s p.2, p.2)) = K.map (fun p => (s p.2 * p.1, p.2)) := List.map_congr_left (fun p hp => by rw [(hmem p hp).2, Int.mul_one])
    have h4 := cf_canon (ts.map fun t => ((1 : Int), t)) t
    rw [← hKe] at h4
    rw [e3] at e2
    rw [e1]
    by_cases hx : ∃ u ∈ ts, ordT t u = 0
    · obtain ⟨u, hu, h0⟩ := hx
      rw [cf_congr _ h0] at e2 h4 ⊢
      rw [cf_congr _ h0] at e2 h4 ⊢
      rw [cf_map_s s K (fun p hp => (hK.2 p hp).2.2) u (hw u hu)] at e2
      rw [cf_map_s s _ hw1 u (hw u hu)]
      generalize cf (K.map ((fun t => (s t % 101, t)) ∘ (·.2))) u = a at *
      generalize cf K u = b at *
      generalize cf (ts.map fun t => ((1 : Int), t)) u = c at *
      obtain ⟨d, hd⟩ : ∃ d, b = c + 101 * d := ⟨(b - c) / 101, by omega⟩
      subst hd
      rw [Int.mul_add, Int.mul_left_comm] at e2
      omega
    · have z : ∀ (l : List Tm) (f : Tm → Int), (∀ p ∈ l, p.2 ∈ ts) → cf (l.map fun p => (f p, p.2)) t = 0 := fun l f hl => cf_none (fun p hp h0 => by
        obtain ⟨q, hq, rfl⟩ := List.mem_map.1 hp
        exact hx ⟨q.2, hl q hq, by have h1 : ordT q.2 t = 0 := h0; have := isCmp_ordT.anti q.2 t; omega⟩)
      have z1 := z K (fun p => s p.2 * p.1) (fun p hp => (hmem p hp).1)
      have z2 := z (ts.map fun t => ((1 : Int), t)) (fun p => s p.2 * p.1) (fun p hp => by obtain ⟨q, hq, rfl⟩ := List.mem_map.1 hp; exact hq)
      rw [z1] at e2
      rw [z2]
      omega

theorem downT_mem {ts : List T} {t : T} : t ∈ downT ts → t ∈ ts := fun h => by
  obtain ⟨p, hp, rfl⟩ := List.mem_map.1 h
  obtain ⟨q, hq, e⟩ := mem_canon hp
  obtain ⟨r, hr, rfl⟩ := List.mem_map.1 hq
  rw [e]; exact hr

theorem downT_desc {ts : List T} (hw : ∀ t ∈ ts, t.wf) : (downT ts).Pairwise (fun a b => 0 < ordT a b) := by
  have hw1 : ∀ p ∈ ts.map (fun t => ((1 : Int), t)), p.2.wf := fun p hp => by
    obtain ⟨q, hq, rfl⟩ := List.mem_map.1 hp; exact hw q hq
  rw [downT, List.pairwise_map]
  exact (NF.canon hw1).1

theorem downT_length_le (ts : List T) : (downT ts).length ≤ ts.length := by
  have := canon_length (ts.map fun t => ((1 : Int), t))
  rw [downT, List.length_map]; simpa using this

/-- What is sorted and has the same trees is this list, read from its end. -/
theorem asc_down {us ts : List T} (hu : AscT us) (hp : us.Perm ts) (hw : ∀ t ∈ ts, t.wf) : us.reverse = downT ts := by
  have hwu : ∀ t ∈ us, t.wf := fun t ht => hw t (hp.mem_iff.1 ht)
  have e : canon (ts.map fun t => ((1 : Int), t)) = us.reverse.map fun t => ((1 : Int), t) := by
    symm
    apply canon_of
    · refine ⟨?_, ?_⟩
      · rw [List.pairwise_map, List.pairwise_reverse]
        exact hu.imp (fun {a b} h => by have := isCmp_ordT.anti a b; simp; omega)
      · intro p hp'
        obtain ⟨q, hq, rfl⟩ := List.mem_map.1 hp'
        exact ⟨by simp, by simp, hwu q (by simpa using hq)⟩
    · intro p hp'
      obtain ⟨q, hq, rfl⟩ := List.mem_map.1 hp'
      exact hw q hq
    · intro t
      have := cf_perm ((us.reverse_perm.trans hp).map fun t => ((1 : Int), t)) t
      rw [this]; omega
  rw [downT, e, List.map_map]
  simp [Function.comp_def]

theorem AscT.put {us : List T} {t : T} {k : Nat} (h : AscT us) (hk : k ≤ us.length) (ha : ∀ j (hj : j < us.length), k ≤ j → ordT t us[j] < 0) (hb : ∀ h0 : 0 < k, 0 < ordT t (us[k - 1]'(by omega))) : AscT (us.take k ++ t :: us.drop k) := by
  unfold AscT at *
  rw [List.pairwise_append, List.pairwise_cons]
  have hs : (us.take k ++ us.drop k).Pairwise (fun a b => ordT a b < 0) := by rw [List.take_append_drop]; exact h
  rw [List.pairwise_append] at hs
  refine ⟨hs.1, ⟨?_, hs.2.1⟩, ?_⟩
  · intro x hx
    obtain ⟨j, hj, rfl⟩ := List.getElem_of_mem hx
    simp only [List.length_drop] at hj
    rw [List.getElem_drop]
    exact ha (k + j) (by omega) (by omega)
  · intro x hx y hy
    have hxt : ordT x t < 0 := by
      obtain ⟨j, hj, rfl⟩ := List.getElem_of_mem hx
      simp only [List.length_take] at hj
      rw [List.getElem_take]
      have h0 : 0 < k := by omega
      have h1 := hb h0
      have h2 := isCmp_ordT.anti t (us[k - 1]'(by omega))
      by_cases e : j = k - 1
      · subst e; omega
      · have h3 : ordT (us[j]'(by omega)) (us[k - 1]'(by omega)) < 0 := List.pairwise_iff_getElem.1 h j (k - 1) (by omega) (by omega) (by omega)
        exact isCmp_ordT.lt_le h3 (by omega)
    rcases List.mem_cons.1 hy with e | e
    · subst e; exact hxt
    · exact isCmp_ordT.lt_le hxt (by
        obtain ⟨j, hj, rfl⟩ := List.getElem_of_mem e
        simp only [List.length_drop] at hj
        rw [List.getElem_drop]
        have := ha (k + j) (by omega) (by omega)
        omega)

theorem perm_put {us ts : List T} {t : T} (k : Nat) (h : us.Perm ts) : (us.take k ++ t :: us.drop k).Perm (ts ++ [t]) := by
  have h1 : (us.take k ++ t :: us.drop k).Perm (t :: us) := by
    have := List.perm_middle (a := t) (l₁ := us.take k) (l₂ := us.drop k)
    rwa [List.take_append_drop] at this
  exact h1.trans ((List.Perm.cons t h).trans (List.perm_append_comm (l₁ := [t]) (l₂ := ts)))

/-! The quadratic trees. -/

def quadL (x y : UInt8) : T := .node x [.node y [.leaf, .leaf], .leaf]
def quadR (x y : UInt8) : T := .node x [.leaf, .node y [.leaf, .leaf]]
def quadTwo (x y : UInt8) : List T := [quadL x y, quadR x y]
def quadRow (cs : List UInt8) (x : UInt8) : List T := cs.flatMap (quadTwo x)
/-- In the order in which letters stand. -/
def quadAll (cs : List UInt8) : List T := cs.flatMap (quadRow cs)
/-- The sign in a pairing. -/
def quadSign : T → Int
  | .node _ (.leaf :: _) => -1
  | _ => 1

theorem quadRow_take (cs : List UInt8) (x : UInt8) {k : Nat} (hk : k < cs.length) : (cs.take (k + 1)).flatMap (quadTwo x) = (cs.take k).flatMap (quadTwo x) ++ [quadL x cs[k], quadR x cs[k]] := by
  rw [List.take_succ_eq_append_getElem hk, List.flatMap_append]; simp [quadTwo]
theorem quadAll_take (cs : List UInt8) {k : Nat} (hk : k < cs.length) : (cs.take (k + 1)).flatMap (quadRow cs) = (cs.take k).flatMap (quadRow cs) ++ quadRow cs cs[k] := by
  rw [List.take_succ_eq_append_getElem hk, List.flatMap_append]; simp

theorem quadAll_mem {cs : List UInt8} {t : T} : t ∈ quadAll cs ↔ ∃ x ∈ cs, ∃ y ∈ cs, t = quadL x y ∨ t = quadR x y := by
  simp [quadAll, quadRow, quadTwo, List.mem_flatMap]

theorem quadTwo_length (x : UInt8) : ∀ cs : List UInt8, (cs.flatMap (quadTwo x)).length = 2 * cs.length
  | [] => rfl
  | c :: cs => by rw [List.flatMap_cons, List.length_append, quadTwo_length x cs]; simp [quadTwo]; omega
theorem quadRows_length (cs : List UInt8) : ∀ ds : List UInt8, (ds.flatMap (quadRow cs)).length = 2 * cs.length * ds.length
  | [] => by simp
  | d :: ds => by
    rw [List.flatMap_cons, List.length_append, quadRows_length cs ds, quadRow, quadTwo_length]
    simp only [List.length_cons, Nat.mul_succ]; omega

theorem quad_wf {cs : List UInt8} (h : ∀ c ∈ cs, 97 ≤ c.toNat ∧ c.toNat ≤ 104) : ∀ t ∈ quadAll cs, t.wf ∧ t.leaves = 3 ∧ t.nodes = 2 := fun t ht => by
  obtain ⟨x, hx, y, hy, e⟩ := quadAll_mem.1 ht
  have h1 := h x hx
  have h2 := h y hy
  rcases e with rfl | rfl
  · refine ⟨?_, rfl, rfl⟩
    simp only [quadL, T.wf, T.wfL, List.length_cons, List.length_nil]
    exact ⟨h1.1, h1.2, by omega, by omega, ⟨h2.1, h2.2, by omega, by omega, trivial, trivial, trivial⟩, trivial, trivial⟩
  · refine ⟨?_, rfl, rfl⟩
    simp only [quadR, T.wf, T.wfL, List.length_cons, List.length_nil]
    exact ⟨h1.1, h1.2, by omega, by omega, trivial, ⟨h2.1, h2.2, by omega, by omega, trivial, trivial, trivial⟩, trivial⟩

theorem quadTwo_nodup (x : UInt8) : ∀ (cs : List UInt8), cs.Nodup → (cs.flatMap (quadTwo x)).Nodup
  | [], _ => by simp
  | c :: cs, h => by
    have h' := List.nodup_cons.1 h
    rw [List.flatMap_cons, List.nodup_append]
    refine ⟨by simp [quadTwo, quadL, quadR], quadTwo_nodup x cs h'.2, ?_⟩
    intro a ha b hb e
    subst e
    obtain ⟨d, hd, hb⟩ := List.mem_flatMap.1 hb
    have hcd : c ≠ d := fun e => h'.1 (e ▸ hd)
    simp only [quadTwo, List.mem_cons, List.not_mem_nil, or_false] at ha hb
    rcases ha with rfl | rfl <;> rcases hb with e | e <;> simp [quadL, quadR] at e <;> exact hcd e
theorem quadRows_nodup {cs : List UInt8} (hc : cs.Nodup) : ∀ (ds : List UInt8), ds.Nodup → (ds.flatMap (quadRow cs)).Nodup
  | [], _ => by simp
  | d :: ds, h => by
    have h' := List.nodup_cons.1 h
    rw [List.flatMap_cons, List.nodup_append]
    refine ⟨quadTwo_nodup d cs hc, quadRows_nodup hc ds h'.2, ?_⟩
    intro a ha b hb e
    subst e
    obtain ⟨x, hx, hb⟩ := List.mem_flatMap.1 hb
    have hdx : d ≠ x := fun e => h'.1 (e ▸ hx)
    obtain ⟨y, _, ha⟩ := List.mem_flatMap.1 ha
    obtain ⟨z, _, hb⟩ := List.mem_flatMap.1 hb
    simp only [quadTwo, List.mem_cons, List.not_mem_nil, or_false] at ha hb
    rcases ha with rfl | rfl <;> rcases hb with e | e <;> simp [quadL, quadR] at e <;> exact hdx e.1

/-! Which letters tell quadratic trees. -/

def letOne : List UInt8 → Option UInt8
  | [c] => if 97 ≤ (c.toNat : Int) ∧ (c.toNat : Int) ≤ 104 then some c else none
  | _ => none

def letStep (acc : Option (List UInt8)) (s : ByteArray) : Option (List UInt8) :=
  match acc, letOne s.data.toList with
  | some cs, some c => if c ∈ cs then none else some (cs ++ [c])
  | _, _ => none

def letAll (ss : List ByteArray) : Option (List UInt8) := ss.foldl letStep (some [])
def lettersOf (ss : List ByteArray) : Option (List UInt8) := if 1 ≤ ss.length ∧ ss.length ≤ 3 then letAll ss else none

theorem letStep_no (acc : Option (List UInt8)) {s : ByteArray} (h : letOne s.data.toList = none) : letStep acc s = none := by
  unfold letStep; rw [h]; cases acc <;> rfl
theorem letStep_twice {cs : List UInt8} {s : ByteArray} {c : UInt8} (h : letOne s.data.toList = some c) (hc : c ∈ cs) : letStep (some cs) s = none := by
  unfold letStep; rw [h]; simp [hc]
theorem letStep_yes {cs : List UInt8} {s : ByteArray} {c : UInt8} (h : letOne s.data.toList = some c) (hc : ¬ c ∈ cs) : letStep (some cs) s = some (cs ++ [c]) := by
  unfold letStep; rw [h]; simp [hc]
theorem letFold_none (ss : List ByteArray) : ss.foldl letStep none = none := by
  induction ss with
  | nil => rfl
  | cons x ss ih => exact ih
theorem letAll_none {ss : List ByteArray} {k : Nat} (h : letAll (ss.take k) = none) : letAll ss = none := by
  have : letAll (ss.take k ++ ss.drop k) = none := by
    rw [letAll, List.foldl_append]
    rw [letAll] at h
    rw [h, letFold_none]
  rwa [List.take_append_drop] at this
theorem letAll_take {ss : List ByteArray} {k : Nat} (h : k < ss.length) : letAll (ss.take (k + 1)) = letStep (letAll (ss.take k)) ss[k] := by
  rw [List.take_succ_eq_append_getElem h, letAll, List.foldl_append]; rfl

theorem letOne_some {l : List UInt8} {c : UInt8} (h : letOne l = some c) : l = [c] ∧ 97 ≤ c.toNat ∧ c.toNat ≤ 104 := by
  unfold letOne at h
  split at h
  · split at h
    · cases h; rename_i h1; exact ⟨rfl, by omega, by omega⟩
    · cases h
  · cases h
theorem letOne_bytes {s : ByteArray} {c : UInt8} (h : letOne s.data.toList = some c) : s = ⟨#[c]⟩ := by
  have := (letOne_some h).1
  apply ByteArray.ext
  apply Array.ext'
  simpa using this

structure LetsOk (ss : List ByteArray) (cs : List UInt8) : Prop where
  txt : ss = cs.map fun c => (⟨#[c]⟩ : ByteArray)
  let_ : ∀ c ∈ cs, 97 ≤ c.toNat ∧ c.toNat ≤ 104
  nodup : cs.Nodup

theorem LetsOk.nil : LetsOk [] [] := ⟨rfl, by simp, by simp⟩
theorem LetsOk.next {ss : List ByteArray} {cs : List UInt8} {s : ByteArray} {c : UInt8} (h : LetsOk ss cs) (hc : letOne s.data.toList = some c) (hn : ¬ c ∈ cs) : LetsOk (ss ++ [s]) (cs ++ [c]) where
  txt := by rw [List.map_append, h.txt, letOne_bytes hc]; simp
  let_ := fun d hd => by
    rcases List.mem_append.1 hd with e | e
    · exact h.let_ d e
    · simp at e; subst e; exact (letOne_some hc).2
  nodup := by
    rw [List.nodup_append]
    exact ⟨h.nodup, by simp, fun a ha b hb e => by simp at hb; subst hb; exact hn (e ▸ ha)⟩

theorem letAll_ok : ∀ (n : Nat) (ss : List ByteArray) (cs : List UInt8), ss.length = n → letAll ss = some cs → LetsOk ss cs
  | 0, ss, cs, hn, h => by
    have : ss = [] := List.length_eq_zero_iff.1 hn
    subst this
    cases h
    exact .nil
  | n + 1, ss, cs, hn, h => by
    have e : ss = ss.take n ++ [ss[n]] := by rw [← List.take_succ_eq_append_getElem (by omega), List.take_of_length_le (by omega)]
    have h2 : letAll (ss.take (n + 1)) = some cs := by rw [List.take_of_length_le (by omega)]; exact h
    rw [letAll_take (by omega)] at h2
    cases ha : letAll (ss.take n) with
    | none => rw [ha] at h2; cases h2
    | some ds =>
      have ih := letAll_ok n (ss.take n) ds (by rw [List.length_take]; omega) ha
      rw [ha] at h2
      cases ho : letOne (ss[n]).data.toList with
      | none => rw [letStep_no _ ho] at h2; cases h2
      | some c =>
        by_cases hc : c ∈ ds
        · rw [letStep_twice ho hc] at h2; cases h2
        · rw [letStep_yes ho hc] at h2
          cases h2
          rw [e]
          exact ih.next ho hc

/-- The quadratic trees for letters, the greater ones first. -/
def quadsOf (ss : List ByteArray) : Option (List T) := (lettersOf ss).map fun cs => downT (quadAll cs)

theorem lettersOf_ok {ss : List ByteArray} {cs : List UInt8} (h : lettersOf ss = some cs) : LetsOk ss cs ∧ 1 ≤ cs.length ∧ cs.length ≤ 3 := by
  unfold lettersOf at h
  split at h
  · have := letAll_ok _ ss cs rfl h
    have e : ss.length = cs.length := by rw [this.txt, List.length_map]
    exact ⟨this, by omega, by omega⟩
  · cases h

theorem quadsOf_ok {ss : List ByteArray} {ts : List T} (h : quadsOf ss = some ts) : ts.length ≤ 18 ∧ (∀ t ∈ ts, t.wf ∧ t.leaves = 3 ∧ t.nodes = 2) ∧ ts.Pairwise (fun a b => 0 < ordT a b) := by
  unfold quadsOf at h
  cases hl : lettersOf ss with
  | none => rw [hl] at h; cases h
  | some cs =>
    rw [hl] at h
    cases h
    obtain ⟨h1, h2, h3⟩ := lettersOf_ok hl
    have hw := quad_wf h1.let_
    refine ⟨?_, fun t ht => hw t (downT_mem ht), downT_desc (fun t ht => (hw t ht).1)⟩
    have a := downT_length_le (quadAll cs)
    have b : (quadAll cs).length = 2 * cs.length * cs.length := quadRows_length cs cs
    have c : 2 * cs.length * cs.length ≤ 2 * 3 * 3 := Nat.mul_le_mul (by omega) h3
    show (downT (quadAll cs)).length ≤ 18
    omega

end Go.Proofs.Ytbbkaephlojalaa
end
section
/- The model sorts trees, and writes them. -/
namespace Go.Proofs.Ytbbkaephlojalaa
open Go.RowKit

section
variable {P : Program} (w : World)
/-- An append onto a row that has been made, of nothing too, at a step of a region. -/
theorem step_append_any {ops : Array Oper} {o : Oper} {a : Act} {K : Act → World → Prop} {Q : Exit → Act → World → Prop} {E : Prop} (hgd : o.guard = none) (s x : Operand) (t : TypeId)
    (ho : o.op = .call { callee := .builtin .append, args := #[s, x], argTypes := #[t, t] })
    (base : Nat) (e : TypeId) (i : TypeInfo) (z : Value) (size bytes : Nat) (ht : P.underlying t = some (.slice e)) (hi : P.info? e = some i) (hz : i.zero = some z)
    (hsize : i.size = size) (hby : i.bytes = bytes) (hzs : z.cells.size = size) (hsz : 0 < size)
    (v : Value) (n : Nat) (xs : List Value) (hs : a.eval s = v) (hown : w.ownsRow base e size v n xs) (hv : v ≠ .slice none 0 0)
    (ad : Addr) (m c : Nat) (news : List Value) (hx : a.eval x = .slice (some ad) m c) (hl : news.length = m * size) (hnews : ∀ j u, news[j]? = some u → w.cell? (ad.add j) = some u) (h1 : ∀ u ∈ news, u.oneCell' = true)
    (N : Nat) (ys : List Value) (hN : n + m = N) (hys : xs ++ news = ys)
    (h63 : N ≤ maxLen) (hbytes : N * bytes ≤ 140737488355328) (hbase : base ≤ w.heap.size)
    (h : ∀ g cap w', w'.ownsRow base e size (.slice (some ⟨g, 0, none⟩) N cap) N ys → w.grownBy w' v.ownBlock → K (a.put o.dst (.slice (some ⟨g, 0, none⟩) N cap)) w') :
    if Region.wanted o (yielded ops a.tmps) = true then Oper.wp P o a w K Q else E := by
  have hw : Region.wanted o (yielded ops a.tmps) = true := by simp [Region.wanted, hgd]
  rw [if_pos hw]
  subst hN
  subst hys
  obtain ⟨v', w', hr, h2, h3, h4, _⟩ := run_append_own_at (P := P) w base t o.type e i z size bytes ht hi hz hsize hby hzs hsz v n xs hown ad m c news hl hnews h1 h63 hbytes hbase
  obtain ⟨g, cap, rfl, _, _, _⟩ := owns_some h2 (fun e => hv (h4.1 e).1)
  unfold Oper.wp execOp
  simp only [ho, resolve, invoke, builtin, Sem.run_bind, Sem.run_pure, Result.andThen_ok, List.map_toArray, List.map_cons, List.map_nil, hs, hx, hr]
  exact h g cap w' h2 h3
end

/-- Cells that are these elements, one behind the other. -/
def CellsOf {α : Type} (E : Elt α) (w : World) (P : Nat → Prop) (us : List α) (xs : List Value) : Prop :=
  xs.length = us.length * E.size ∧ ∀ q (hq : q < us.length), ∃ cs, (∀ j, j < E.size → xs[q * E.size + j]? = cs[j]?) ∧ E.R w P us[q] cs

theorem CellsOf.one {α : Type} {E : Elt α} {w : World} {P : Nat → Prop} {u : α} {cs : List Value} (h : E.R w P u cs) : CellsOf E w P [u] cs :=
  ⟨by rw [E.len h]; simp, fun q hq => by
    have : q = 0 := by simpa using hq
    subst this
    exact ⟨cs, fun j _ => by simp, h⟩⟩

theorem CellsOf.append {α : Type} {E : Elt α} {w : World} {P : Nat → Prop} {us vs : List α} {xs ys : List Value} (h : CellsOf E w P us xs) (k : CellsOf E w P vs ys) : CellsOf E w P (us ++ vs) (xs ++ ys) :=
  ⟨by rw [List.length_append, List.length_append, h.1, k.1, Nat.add_mul], fun q hq => by
    by_cases hlt : q < us.length
    · obtain ⟨cs, e1, e2⟩ := h.2 q hlt
      refine ⟨cs, fun j hj => ?_, by rw [List.getElem_append_left hlt]; exact e2⟩
      rw [List.getElem?_append_left]
      · exact e1 j hj
      · have := Nat.mul_le_mul_right E.size hlt
        rw [Nat.succ_mul] at this
        rw [h.1]; omega
    · have hq2 : q - us.length < vs.length := by rw [List.length_append] at hq; omega
      obtain ⟨cs, e1, e2⟩ := k.2 (q - us.length) hq2
      refine ⟨cs, fun j hj => ?_, by rw [List.getElem_append_right (by omega)]; exact e2⟩
      have hm : us.length * E.size ≤ q * E.size := Nat.mul_le_mul_right _ (by omega)
      rw [List.getElem?_append_right (by rw [h.1]; omega), ← e1 j hj, h.1, Nat.sub_mul]
      congr 1; omega⟩

theorem CellsOf.piece {α : Type} {E : Elt α} {w : World} {P : Nat → Prop} {g : Nat} {us : List α} (h : Rd E w P (some ⟨g, 0, none⟩) us) (h0 : 0 < E.size) (i m : Nat) (him : i + m ≤ us.length) :
    CellsOf E w P ((us.drop i).take m) (rowCells w g (i * E.size) (m * E.size)) ∧ (∀ j u, (rowCells w g (i * E.size) (m * E.size))[j]? = some u → w.cell? ⟨g, i * E.size + j, none⟩ = some u) ∧ ∀ u ∈ rowCells w g (i * E.size) (m * E.size), u.oneCell' = true := by
  obtain ⟨c1, c2, c3⟩ := h.cells h0 i m him
  refine ⟨⟨?_, fun q hq => ?_⟩, c1, c2⟩
  · rw [rowCells_length, List.length_take, List.length_drop]
    congr 1; omega
  · rw [List.length_take, List.length_drop] at hq
    obtain ⟨cs, e1, e2⟩ := c3 q (by omega)
    exact ⟨cs, e1, by rw [List.getElem_take, List.getElem_drop]; exact e2⟩

theorem trS.get {w : World} {P : Nat → Prop} {a : Option Addr} {ts : List T} (h : Rd trS w P a ts) (k : Nat) (hk : k < ts.length) :
    ∃ g lb sa sn sc, a = some ⟨g, 0, none⟩ ∧ P g ∧ w.cell? ⟨g, k * 2, none⟩ = some (.string lb) ∧ w.cell? ⟨g, k * 2 + 1, none⟩ = some (.slice sa sn sc) ∧ ts[k].wf ∧ RepS w P ts[k] (.string lb) (.slice sa sn sc) := by
  obtain ⟨g, cs, e, hg, hc, lb, sa, sn, sc, rfl, hw, hr⟩ := h k hk
  exact ⟨g, lb, sa, sn, sc, e, hg, hc 0 (by decide), hc 1 (by decide), hw, hr⟩

/-- Trees are handed back, in a row that is new. -/
def NewTrs (us : List T) (w : World) (e : Ending) (w' : World) : Prop :=
  Below w.heap.size w w' ∧ ∃ g cap, e = .returned (.slice (some ⟨g, 0, none⟩) us.length cap) ∧ us.length ≤ cap ∧ cap ≤ 9223372036854775807 ∧ Rd trS w' (fun _ => True) (some ⟨g, 0, none⟩) us

/-- What 'l2Sort' answers. -/
def SortedTrs (ts : List T) (w : World) (e : Ending) (w' : World) : Prop := ∃ us, AscT us ∧ us.Perm ts ∧ NewTrs us w e w'

def SortRel (ts : List T) (n : Nat) (w : World) (ov iv : Value) (wr : World) : Prop :=
  ∃ (i : Nat) (us : List T) (gq cq : Nat), i ≤ n ∧ us.length = i ∧ iv = .int .i64 i ∧ ov = .slice (some ⟨gq, 0, none⟩) i cq ∧ i ≤ cq ∧ cq ≤ 9223372036854775807 ∧ AscT us ∧ us.Perm (ts.take i) ∧ Rd trS wr (fun _ => True) (some ⟨gq, 0, none⟩) us ∧ Below w.heap.size w wr

end Go.Proofs.Ytbbkaephlojalaa
end
section
/- The model's quadratic trees. -/
namespace Go.Proofs.Ytbbkaephlojalaa
open Go.RowKit

def TxG (w : World) (g : Nat) (ss : List ByteArray) : Prop := ∀ j (h : j < ss.length), w.cell? ⟨g, j, none⟩ = some (.string ss[j])
theorem TxG.below {w w' : World} {g : Nat} {ss : List ByteArray} (h : TxG w g ss) (hb : Below w.heap.size w w') : TxG w' g ss := fun j hj => keep1 hb (h j hj)
theorem TxG.of_lies {w : World} {g : Nat} {ss : List ByteArray} (h : Lies w (some ⟨g, 0, none⟩) (txl ss)) : TxG w g ss := fun j hj => by
  obtain ⟨g', e, hc⟩ := h j (by rw [txl_length]; exact hj)
  cases e
  rw [hc]
  simp only [txl, List.getElem_map, Array.toArray_toList]

/-! Which letters, step by step. -/
theorem lettersOf_bad {ss : List ByteArray} {k : Nat} (h : letAll (ss.take k) = none) : lettersOf ss = none := by
  unfold lettersOf; split
  · exact letAll_none h
  · rfl
theorem let_bad {ss : List ByteArray} {i : Nat} (hi : i < ss.length) (h : letOne (ss[i]).data.toList = none) : lettersOf ss = none :=
  lettersOf_bad (k := i + 1) (by rw [letAll_take hi, letStep_no _ h])
theorem let_dup {ss : List ByteArray} {i k : Nat} (hi : i < ss.length) (hk : k < i) (h : ss[k]'(by omega) = ss[i]) : lettersOf ss = none := by
  apply lettersOf_bad (k := i + 1)
  rw [letAll_take hi]
  cases ha : letAll (ss.take i) with
  | none => unfold letStep; rfl
  | some ds =>
    cases ho : letOne (ss[i]).data.toList with
    | none => exact letStep_no _ ho
    | some c =>
      apply letStep_twice ho
      have h1 := letAll_ok _ _ _ rfl ha
      have h2 : (ss.take i)[k]'(by rw [List.length_take]; omega) = ss[i] := by rw [List.getElem_take]; exact h
      have h3 := h1.txt
      have hlen : ds.length = i := by
        have := congrArg List.length h3
        rw [List.length_take, List.length_map] at this; omega
      have h4 : (ss.take i)[k]'(by rw [List.length_take]; omega) = ⟨#[ds[k]'(by omega)]⟩ := by
        rw [List.getElem_of_eq h3]; simp
      have h5 : ss[i] = ⟨#[ds[k]'(by omega)]⟩ := by rw [← h2, h4]
      have h6 := (letOne_some ho).1
      rw [h5] at h6
      simp only [List.cons.injEq, and_true] at h6
      rw [← h6]
      exact List.getElem_mem _
theorem let_next {ss : List ByteArray} {i : Nat} {c : UInt8} (hi : i < ss.length) (ha : (letAll (ss.take i)).isSome = true) (ho : letOne (ss[i]).data.toList = some c) (hn : ∀ k (h : k < i), ss[k]'(by omega) ≠ ss[i]) : (letAll (ss.take (i + 1))).isSome = true := by
  cases h : letAll (ss.take i) with
  | none => rw [h] at ha; cases ha
  | some ds =>
    rw [letAll_take hi, h, letStep_yes ho]
    · rfl
    · intro hc
      have h1 := letAll_ok _ _ _ rfl h
      obtain ⟨k, hk, e⟩ := List.getElem_of_mem hc
      have h3 := h1.txt
      have hlen : ds.length = i := by
        have := congrArg List.length h3
        rw [List.length_take, List.length_map] at this; omega
      apply hn k (by omega)
      have h4 : (ss.take i)[k]'(by rw [List.length_take]; omega) = ⟨#[ds[k]]⟩ := by
        rw [List.getElem_of_eq h3]; simp
      rw [List.getElem_take] at h4
      rw [h4, e, letOne_bytes ho]
theorem let_one_yes {c : UInt8} (h : 97 ≤ (c.toNat : Int) ∧ (c.toNat : Int) ≤ 104) : letOne (⟨#[c]⟩ : ByteArray).data.toList = some c := by
  simp only [letOne, if_pos h]
theorem let_one_no {c : UInt8} (h : ¬ (97 ≤ (c.toNat : Int) ∧ (c.toNat : Int) ≤ 104)) : letOne (⟨#[c]⟩ : ByteArray).data.toList = none := by
  simp only [letOne, if_neg h]
theorem let_one_size {s : ByteArray} (h : s.size ≠ 1) : letOne s.data.toList = none := by
  cases ho : letOne s.data.toList with
  | none => rfl
  | some c => exact absurd (by rw [letOne_bytes ho]; rfl) h
theorem letters_at {ss : List ByteArray} {cs : List UInt8} (h : lettersOf ss = some cs) {k : Nat} (hk : k < ss.length) : k < cs.length ∧ ss[k] = ⟨#[cs.getD k 0]⟩ ∧ 97 ≤ (cs.getD k 0).toNat ∧ (cs.getD k 0).toNat ≤ 104 := by
  obtain ⟨h1, _, _⟩ := lettersOf_ok h
  have hlen : ss.length = cs.length := by
    have := congrArg List.length h1.txt
    rw [List.length_map] at this; exact this
  have hk2 : k < cs.length := by omega
  have e : cs.getD k 0 = cs[k] := by rw [List.getD_eq_getElem?_getD, List.getElem?_eq_getElem hk2]; rfl
  refine ⟨hk2, ?_, by rw [e]; exact (h1.let_ _ (List.getElem_mem hk2)).1, by rw [e]; exact (h1.let_ _ (List.getElem_mem hk2)).2⟩
  rw [List.getElem_of_eq h1.txt, e]; simp

/-! How a quadratic tree lies. -/
theorem quadL_rep {W : World} {P : Nat → Prop} {B0 B1 : Nat} {x y : UInt8} (hx : 97 ≤ x.toNat ∧ x.toNat ≤ 104) (hy : 97 ≤ y.toNat ∧ y.toNat ≤ 104)
    (h0 : W.heap[B0]? = some (.cells #[.string ⟨#[]⟩, .slice none 0 0, .string ⟨#[]⟩, .slice none 0 0] 39 (0, 0)))
    (h1 : W.heap[B1]? = some (.cells #[.string ⟨#[y]⟩, .slice (some ⟨B0, 0, none⟩) 2 2, .string ⟨#[]⟩, .slice none 0 0] 39 (0, 0))) (p0 : P B0) (p1 : P B1) :
    trS.R W P (quadL x y) [.string ⟨#[x]⟩, .slice (some ⟨B1, 0, none⟩) 2 2] := by
  refine ⟨⟨#[x]⟩, some ⟨B1, 0, none⟩, 2, 2, rfl, ?_, ?_⟩
  · simp only [quadL, T.wf, T.wfL, List.length_cons, List.length_nil]
    exact ⟨hx.1, hx.2, by omega, by omega, ⟨hy.1, hy.2, by omega, by omega, trivial, trivial, trivial⟩, trivial, trivial⟩
  · simp only [quadL, RepS, RepSL]
    exact ⟨trivial, B1, 2, rfl, p1, by simp, ⟨.string ⟨#[y]⟩, .slice (some ⟨B0, 0, none⟩) 2 2, by rw [Lib.cell_of_heap h1]; rfl, by rw [Lib.cell_of_heap h1]; rfl, rfl, B0, 2, rfl, p0, by simp, ⟨_, _, by rw [Lib.cell_of_heap h0]; rfl, by rw [Lib.cell_of_heap h0]; rfl, rfl, rfl⟩, ⟨_, _, by rw [Lib.cell_of_heap h0]; rfl, by rw [Lib.cell_of_heap h0]; rfl, rfl, rfl⟩, trivial⟩, ⟨_, _, by rw [Lib.cell_of_heap h1]; rfl, by rw [Lib.cell_of_heap h1]; rfl, rfl, rfl⟩, trivial⟩
theorem quadR_rep {W : World} {P : Nat → Prop} {B0 B1 : Nat} {x y : UInt8} (hx : 97 ≤ x.toNat ∧ x.toNat ≤ 104) (hy : 97 ≤ y.toNat ∧ y.toNat ≤ 104)
    (h0 : W.heap[B0]? = some (.cells #[.string ⟨#[]⟩, .slice none 0 0, .string ⟨#[]⟩, .slice none 0 0] 39 (0, 0)))
    (h1 : W.heap[B1]? = some (.cells #[.string ⟨#[]⟩, .slice none 0 0, .string ⟨#[y]⟩, .slice (some ⟨B0, 0, none⟩) 2 2] 39 (0, 0))) (p0 : P B0) (p1 : P B1) :
    trS.R W P (quadR x y) [.string ⟨#[x]⟩, .slice (some ⟨B1, 0, none⟩) 2 2] := by
  refine ⟨⟨#[x]⟩, some ⟨B1, 0, none⟩, 2, 2, rfl, ?_, ?_⟩
  · simp only [quadR, T.wf, T.wfL, List.length_cons, List.length_nil]
    exact ⟨hx.1, hx.2, by omega, by omega, trivial, ⟨hy.1, hy.2, by omega, by omega, trivial, trivial, trivial⟩, trivial⟩
  · simp only [quadR, RepS, RepSL]
    exact ⟨trivial, B1, 2, rfl, p1, by simp, ⟨_, _, by rw [Lib.cell_of_heap h1]; rfl, by rw [Lib.cell_of_heap h1]; rfl, rfl, rfl⟩, ⟨.string ⟨#[y]⟩, .slice (some ⟨B0, 0, none⟩) 2 2, by rw [Lib.cell_of_heap h1]; rfl, by rw [Lib.cell_of_heap h1]; rfl, rfl, B0, 2, rfl, p0, by simp, ⟨_, _, by rw [Lib.cell_of_heap h0]; rfl, by rw [Lib.cell_of_heap h0]; rfl, rfl, rfl⟩, ⟨_, _, by rw [Lib.cell_of_heap h0]; rfl, by rw [Lib.cell_of_heap h0]; rfl, rfl, rfl⟩, trivial⟩, trivial⟩

/-- The row of trees that grows: what it is, if the letters are as told. -/
def QAll (ss : List ByteArray) (w : World) (ts : List UInt8 → List T) (m : Nat) (av : Value) (wr : World) : Prop :=
  ∃ va vc vs, av = .slice va m vc ∧ va ≠ none ∧ wr.ownsRow w.heap.size 39 2 av m vs ∧ (∀ cs, lettersOf ss = some cs → (ts cs).length = m ∧ Row trS 39 w.heap.size (ts cs) av vs wr) ∧ Below w.heap.size w wr

theorem QAll.below {ss : List ByteArray} {w wr w2 : World} {ts : List UInt8 → List T} {m : Nat} {av : Value} (h : QAll ss w ts m av wr) (hb : Below wr.heap.size wr w2) : QAll ss w ts m av w2 := by
  obtain ⟨va, vc, vs, e, hva, hown, hrow, hB⟩ := h
  exact ⟨va, vc, vs, e, hva, owns_below hown hb, fun cs hcs => ⟨(hrow cs hcs).1, (hrow cs hcs).2.below hb⟩, below_step hB hb⟩
theorem QAll.congr {ss : List ByteArray} {w wr : World} {ts ts' : List UInt8 → List T} {m : Nat} {av : Value} (h : QAll ss w ts m av wr) (he : ∀ cs, lettersOf ss = some cs → ts cs = ts' cs) : QAll ss w ts' m av wr := by
  obtain ⟨va, vc, vs, e, hva, hown, hrow, hB⟩ := h
  exact ⟨va, vc, vs, e, hva, hown, fun cs hcs => by rw [← he cs hcs]; exact hrow cs hcs, hB⟩

theorem QAll.step {ss : List ByteArray} {w wr w6 : World} {ts ts' : List UInt8 → List T} {m vc g q : Nat} {va : Option Addr} {vs : List Value} {x y : ByteArray}
    (hown : wr.ownsRow w.heap.size 39 2 (.slice va m vc) m vs) (hrow : ∀ cs, lettersOf ss = some cs → (ts cs).length = m ∧ Row trS 39 w.heap.size (ts cs) (.slice va m vc) vs wr) (hB : Below w.heap.size w wr)
    (hts : ∀ cs, lettersOf ss = some cs → ∃ cx cy : UInt8, x = ⟨#[cx]⟩ ∧ y = ⟨#[cy]⟩ ∧ (97 ≤ cx.toNat ∧ cx.toNat ≤ 104) ∧ (97 ≤ cy.toNat ∧ cy.toNat ≤ 104) ∧ ts' cs = ts cs ++ [quadL cx cy, quadR cx cy])
    (hown6 : w6.ownsRow w.heap.size 39 2 (.slice (some ⟨g, 0, none⟩) (m + 2) q) (m + 2) (vs ++ [.string x, .slice (some ⟨wr.heap.size + 1 + 1, 0, none⟩) 2 2, .string x, .slice (some ⟨wr.heap.size + 1 + 1 + 1, 0, none⟩) 2 2])) (hg6 : ((((((wr.alloc (.cells #[.string ⟨#[]⟩, .slice none 0 0, .string ⟨#[]⟩, .slice none 0 0] 39 (0, 0))).alloc (.cells #[.string y, .slice (some ⟨wr.heap.size, 0, none⟩) 2 2] 39 (0, 0))).alloc (.cells #[.string y, .slice (some ⟨wr.heap.size, 0, none⟩) 2 2, .string ⟨#[]⟩, .slice none 0 0] 39 (0, 0))).alloc (.cells #[.string ⟨#[]⟩, .slice none 0 0, .string y, .slice (some ⟨wr.heap.size, 0, none⟩) 2 2] 39 (0, 0))).alloc (.cells #[.string x, .slice (some ⟨wr.heap.size + 1 + 1, 0, none⟩) 2 2, .string x, .slice (some ⟨wr.heap.size + 1 + 1 + 1, 0, none⟩) 2 2] 39 (0, 0)))).grownBy w6 (Value.slice va m vc).ownBlock)
    (hat : (Value.slice va m vc).ownBlock = some g ∨ wr.heap.size + 5 ≤ g) : QAll ss w ts' (m + 2) (.slice (some ⟨g, 0, none⟩) (m + 2) q) w6 := by
  have hbq : Below wr.heap.size wr (((((wr.alloc (.cells #[.string ⟨#[]⟩, .slice none 0 0, .string ⟨#[]⟩, .slice none 0 0] 39 (0, 0))).alloc (.cells #[.string y, .slice (some ⟨wr.heap.size, 0, none⟩) 2 2] 39 (0, 0))).alloc (.cells #[.string y, .slice (some ⟨wr.heap.size, 0, none⟩) 2 2, .string ⟨#[]⟩, .slice none 0 0] 39 (0, 0))).alloc (.cells #[.string ⟨#[]⟩, .slice none 0 0, .string y, .slice (some ⟨wr.heap.size, 0, none⟩) 2 2] 39 (0, 0))).alloc (.cells #[.string x, .slice (some ⟨wr.heap.size + 1 + 1, 0, none⟩) 2 2, .string x, .slice (some ⟨wr.heap.size + 1 + 1 + 1, 0, none⟩) 2 2] 39 (0, 0))) := (((((Below.refl _ _).alloc (Nat.le_refl _) _).alloc (by simp) _).alloc (by simp; omega) _).alloc (by simp; omega) _).alloc (by simp; omega) _
  have hlt : ∀ q, (Value.slice va m vc).ownBlock = some q → w.heap.size ≤ q ∧ q < wr.heap.size := fun q e => hown.lt q e
  refine ⟨_, _, _, rfl, by simp, hown6, fun cs hcs => ?_, ?_⟩
  · obtain ⟨cx, cy, rfl, rfl, hx, hy, e⟩ := hts cs hcs
    obtain ⟨hl, hr⟩ := hrow cs hcs
    refine ⟨by rw [e, List.length_append, hl]; rfl, ?_⟩
    rw [e]
    have b0 : ((((((wr.alloc (.cells #[.string ⟨#[]⟩, .slice none 0 0, .string ⟨#[]⟩, .slice none 0 0] 39 (0, 0))).alloc (.cells #[.string ⟨#[cy]⟩, .slice (some ⟨wr.heap.size, 0, none⟩) 2 2] 39 (0, 0))).alloc (.cells #[.string ⟨#[cy]⟩, .slice (some ⟨wr.heap.size, 0, none⟩) 2 2, .string ⟨#[]⟩, .slice none 0 0] 39 (0, 0))).alloc (.cells #[.string ⟨#[]⟩, .slice none 0 0, .string ⟨#[cy]⟩, .slice (some ⟨wr.heap.size, 0, none⟩) 2 2] 39 (0, 0))).alloc (.cells #[.string ⟨#[cx]⟩, .slice (some ⟨wr.heap.size + 1 + 1, 0, none⟩) 2 2, .string ⟨#[cx]⟩, .slice (some ⟨wr.heap.size + 1 + 1 + 1, 0, none⟩) 2 2] 39 (0, 0)))).heap[wr.heap.size]? = some (.cells #[.string ⟨#[]⟩, .slice none 0 0, .string ⟨#[]⟩, .slice none 0 0] 39 (0, 0)) := by
      rw [Below.heap_alloc _ _ _ (by simp; omega), Below.heap_alloc _ _ _ (by simp; omega), Below.heap_alloc _ _ _ (by simp; omega), Below.heap_alloc _ _ _ (by simp)]
      exact heap_alloc_new wr _
    have b2 : ((((((wr.alloc (.cells #[.string ⟨#[]⟩, .slice none 0 0, .string ⟨#[]⟩, .slice none 0 0] 39 (0, 0))).alloc (.cells #[.string ⟨#[cy]⟩, .slice (some ⟨wr.heap.size, 0, none⟩) 2 2] 39 (0, 0))).alloc (.cells #[.string ⟨#[cy]⟩, .slice (some ⟨wr.heap.size, 0, none⟩) 2 2, .string ⟨#[]⟩, .slice none 0 0] 39 (0, 0))).alloc (.cells #[.string ⟨#[]⟩, .slice none 0 0, .string ⟨#[cy]⟩, .slice (some ⟨wr.heap.size, 0, none⟩) 2 2] 39 (0, 0))).alloc (.cells #[.string ⟨#[cx]⟩, .slice (some ⟨wr.heap.size + 1 + 1, 0, none⟩) 2 2, .string ⟨#[cx]⟩, .slice (some ⟨wr.heap.size + 1 + 1 + 1, 0, none⟩) 2 2] 39 (0, 0)))).heap[wr.heap.size + 1 + 1]? = some (.cells #[.string ⟨#[cy]⟩, .slice (some ⟨wr.heap.size, 0, none⟩) 2 2, .string ⟨#[]⟩, .slice none 0 0] 39 (0, 0)) := by
      rw [Below.heap_alloc _ _ _ (by simp), Below.heap_alloc _ _ _ (by simp), show wr.heap.size + 1 + 1 = ((wr.alloc (.cells #[.string ⟨#[]⟩, .slice none 0 0, .string ⟨#[]⟩, .slice none 0 0] 39 (0, 0))).alloc (.cells #[.string ⟨#[cy]⟩, .slice (some ⟨wr.heap.size, 0, none⟩) 2 2] 39 (0, 0))).heap.size by simp]
      exact heap_alloc_new _ _
    have b3 : ((((((wr.alloc (.cells #[.string ⟨#[]⟩, .slice none 0 0, .string ⟨#[]⟩, .slice none 0 0] 39 (0, 0))).alloc (.cells #[.string ⟨#[cy]⟩, .slice (some ⟨wr.heap.size, 0, none⟩) 2 2] 39 (0, 0))).alloc (.cells #[.string ⟨#[cy]⟩, .slice (some ⟨wr.heap.size, 0, none⟩) 2 2, .string ⟨#[]⟩, .slice none 0 0] 39 (0, 0))).alloc (.cells #[.string ⟨#[]⟩, .slice none 0 0, .string ⟨#[cy]⟩, .slice (some ⟨wr.heap.size, 0, none⟩) 2 2] 39 (0, 0))).alloc (.cells #[.string ⟨#[cx]⟩, .slice (some ⟨wr.heap.size + 1 + 1, 0, none⟩) 2 2, .string ⟨#[cx]⟩, .slice (some ⟨wr.heap.size + 1 + 1 + 1, 0, none⟩) 2 2] 39 (0, 0)))).heap[wr.heap.size + 1 + 1 + 1]? = some (.cells #[.string ⟨#[]⟩, .slice none 0 0, .string ⟨#[cy]⟩, .slice (some ⟨wr.heap.size, 0, none⟩) 2 2] 39 (0, 0)) := by
      rw [Below.heap_alloc _ _ _ (by simp), show wr.heap.size + 1 + 1 + 1 = (((wr.alloc (.cells #[.string ⟨#[]⟩, .slice none 0 0, .string ⟨#[]⟩, .slice none 0 0] 39 (0, 0))).alloc (.cells #[.string ⟨#[cy]⟩, .slice (some ⟨wr.heap.size, 0, none⟩) 2 2] 39 (0, 0))).alloc (.cells #[.string ⟨#[cy]⟩, .slice (some ⟨wr.heap.size, 0, none⟩) 2 2, .string ⟨#[]⟩, .slice none 0 0] 39 (0, 0))).heap.size by simp]
      exact heap_alloc_new _ _
    have hne : ∀ b, wr.heap.size ≤ b → (Value.slice va m vc).ownBlock ≠ some b := fun b hb e => by have := (hlt b e).2; omega
    have hrr := hr.many (bs := [quadL cx cy, quadR cx cy]) (news := [.string ⟨#[cx]⟩, .slice (some ⟨wr.heap.size + 1 + 1, 0, none⟩) 2 2, .string ⟨#[cx]⟩, .slice (some ⟨wr.heap.size + 1 + 1 + 1, 0, none⟩) 2 2]) (w1 := (((((wr.alloc (.cells #[.string ⟨#[]⟩, .slice none 0 0, .string ⟨#[]⟩, .slice none 0 0] 39 (0, 0))).alloc (.cells #[.string ⟨#[cy]⟩, .slice (some ⟨wr.heap.size, 0, none⟩) 2 2] 39 (0, 0))).alloc (.cells #[.string ⟨#[cy]⟩, .slice (some ⟨wr.heap.size, 0, none⟩) 2 2, .string ⟨#[]⟩, .slice none 0 0] 39 (0, 0))).alloc (.cells #[.string ⟨#[]⟩, .slice none 0 0, .string ⟨#[cy]⟩, .slice (some ⟨wr.heap.size, 0, none⟩) 2 2] 39 (0, 0))).alloc (.cells #[.string ⟨#[cx]⟩, .slice (some ⟨wr.heap.size + 1 + 1, 0, none⟩) 2 2, .string ⟨#[cx]⟩, .slice (some ⟨wr.heap.size + 1 + 1 + 1, 0, none⟩) 2 2] 39 (0, 0)))) (w1' := (((((wr.alloc (.cells #[.string ⟨#[]⟩, .slice none 0 0, .string ⟨#[]⟩, .slice none 0 0] 39 (0, 0))).alloc (.cells #[.string ⟨#[cy]⟩, .slice (some ⟨wr.heap.size, 0, none⟩) 2 2] 39 (0, 0))).alloc (.cells #[.string ⟨#[cy]⟩, .slice (some ⟨wr.heap.size, 0, none⟩) 2 2, .string ⟨#[]⟩, .slice none 0 0] 39 (0, 0))).alloc (.cells #[.string ⟨#[]⟩, .slice none 0 0, .string ⟨#[cy]⟩, .slice (some ⟨wr.heap.size, 0, none⟩) 2 2] 39 (0, 0))).alloc (.cells #[.string ⟨#[cx]⟩, .slice (some ⟨wr.heap.size + 1 + 1, 0, none⟩) 2 2, .string ⟨#[cx]⟩, .slice (some ⟨wr.heap.size + 1 + 1 + 1, 0, none⟩) 2 2] 39 (0, 0)))) (v' := .slice (some ⟨g, 0, none⟩) (m + 2) q) (w2 := w6) hbq (fun k hk => by
      simp only [List.length_cons, List.length_nil] at hk
      rcases (show k = 0 ∨ k = 1 by omega) with rfl | rfl
      · exact ⟨_, fun j hj => by
          rcases (show j = 0 ∨ j = 1 by simp only [trS] at hj; omega) with rfl | rfl <;> rfl, quadL_rep hx hy b0 b2 (hne _ (Nat.le_refl _)) (hne _ (by omega))⟩
      · exact ⟨_, fun j hj => by
          rcases (show j = 0 ∨ j = 1 by simp only [trS] at hj; omega) with rfl | rfl <;> rfl, quadR_rep hx hy b0 b3 (hne _ (Nat.le_refl _)) (hne _ (by omega))⟩) (Below.refl _ _) (by rw [hl]; exact hown6) hg6 (fun b e => by
      simp only [Value.ownBlock, Option.some.injEq] at e
      subst e
      rcases hat with h | h
      · exact .inl h
      · exact .inr (by simp; omega))
    exact hrr
  · exact (below_step hB hbq).grown hg6 (by have := hB.size; simp; omega) (fun q e => (hlt q e).1)

end Go.Proofs.Ytbbkaephlojalaa
end
section
/- QuadTrees by the model. -/
namespace Go.Proofs.Ytbbkaephlojalaa
open Go.RowKit

/-- A text in a row. -/
def txQ : Elt (List UInt8) where
  size := 1
  R _ _ t cs := cs = [.string ⟨t.toArray⟩]
  len := by rintro w P t cs rfl; rfl
  one := by
    rintro w P t cs rfl u hu
    simp at hu
    subst hu
    rfl
  keep := by rintro w w' P P' t cs _ _ rfl; rfl
theorem txQ.lies {w : World} {P : Nat → Prop} {a : Option Addr} {ts : List (List UInt8)} (h : Rd txQ w P a ts) : Lies w a ts := fun j hj => by
  obtain ⟨g, cs, e, _, hc, rfl⟩ := h j hj
  exact ⟨g, e, by have := hc 0 (by decide); simpa [txQ] using this⟩

/-- Texts are handed back, in a row that is new. -/
def NewTxs (ps : List (List UInt8)) (w : World) (e : Ending) (w' : World) : Prop :=
  Below w.heap.size w w' ∧ ∃ g cap, e = .returned (.slice (some ⟨g, 0, none⟩) ps.length cap) ∧ Lies w' (some ⟨g, 0, none⟩) ps

/-- What 'l6qTrees' answers. -/
def L6T (ss : List ByteArray) (w : World) (e : Ending) (w' : World) : Prop :=
  Below w.heap.size w w' ∧ ((quadsOf ss = none ∧ ∃ g c, e = .returned (.tuple #[.slice (some ⟨g, 0, none⟩) 0 c, .bool false])) ∨
    ∃ ts g c, quadsOf ss = some ts ∧ e = .returned (.tuple #[.slice (some ⟨g, 0, none⟩) ts.length c, .bool true]) ∧ ts.length ≤ c ∧ c ≤ 9223372036854775807 ∧ Rd trS w' (fun _ => True) (some ⟨g, 0, none⟩) ts)

theorem quads_no {ss : List ByteArray} (h : lettersOf ss = none) : quadsOf ss = none := by rw [quadsOf, h]; rfl

/-- What 'QuadTrees' answers, the model's. -/
def SList2 (ps : List (List UInt8)) (b : Bool) (w : World) (e : Ending) (w' : World) : Prop :=
  Below w.heap.size w w' ∧ ∃ a cap, e = .returned (.tuple #[.slice a ps.length cap, .bool b]) ∧ Lies w' a ps

def quadTx (ss : List ByteArray) : List (List UInt8) := ((quadsOf ss).getD []).map T.text

end Go.Proofs.Ytbbkaephlojalaa
end
