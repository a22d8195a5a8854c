/- Merged out of: XPlI, XPlMk, XLawPl. -/
import Derived.Test.YtfjodghnheliaaaKPlS
import Derived.Maps.OwnIn
import Derived.Test.YtfjodghnheliaaaKStrs
section
/- The program tells the places of a pattern. -/
namespace Go.Proofs.Ytfjodghnheliaaa
open Go.RowKit Go.Shelf

attribute [local go_sem] Oper.semAt_some

/-- A place as the program hands it back: where its texts lie. -/
structure PlX where
  g : Nat
  cap : Nat
  node : Nat
  tx : List (List UInt8)

def PlX.key (x : PlX) : Nat × List (List UInt8) := (x.node, x.tx)
def PlX.cells (x : PlX) : List Value := [.int .i64 x.node, .slice (some ⟨x.g, 0, none⟩) x.tx.length x.cap]
def PlX.val (x : PlX) : Value := .slice (some ⟨x.g, 0, none⟩) x.tx.length x.cap
def strs (tx : List (List UInt8)) : List Value := tx.map fun t => .string ⟨t.toArray⟩

theorem owns_block {w w' : World} {base : Nat} {e : TypeId} {size : Nat} {v : Value} {n : Nat} {xs : List Value} (h : w.ownsRow base e size v n xs) (hk : ∀ g, v.ownBlock = some g → w'.heap[g]? = w.heap[g]?) : w'.ownsRow base e size v n xs := by
  refine ⟨h.1, ?_⟩
  rcases h.2 with h | ⟨g, cap, cur, e, hb, hg, rest⟩
  · exact .inl h
  · exact .inr ⟨g, cap, cur, e, hb, by rw [hk g (by rw [e]; rfl)]; exact hg, rest⟩

/-- The row of places, its box, and each place's texts: all of them blocks of R. -/
structure PlI (b9 : Nat) (w1 : World) (us : List PlX) (R : Nat → Prop) (V : World) (va : Option Addr) (vc : Nat) : Prop where
  nz : va ≠ none
  box : V.heap[b9]? = some (.cells #[.slice va us.length vc] 41 (0, 0))
  row : V.ownsRow w1.heap.size 47 2 (.slice va us.length vc) us.length (us.flatMap PlX.cells)
  ob : (Value.slice va us.length vc).ownBlock ≠ some b9
  Rb : R b9
  Rr : ∀ g, (Value.slice va us.length vc).ownBlock = some g → R g
  inner : ∀ i (h : i < us.length), V.ownsRow w1.heap.size 9 1 us[i].val us[i].tx.length (strs us[i].tx) ∧ (Value.slice va us.length vc).ownBlock ≠ some us[i].g ∧ us[i].g ≠ b9 ∧ R us[i].g
  dist : ∀ i j (hi : i < us.length) (hj : j < us.length), i < j → us[i].g ≠ us[j].g
  below : Below w1.heap.size w1 V
  b9w : w1.heap.size ≤ b9

theorem PlI.keep {b9 : Nat} {w1 : World} {us : List PlX} {R : Nat → Prop} {A C : World} {va : Option Addr} {vc : Nat} (h : PlI b9 w1 us R A va vc)
    (hk : ∀ k cs ty fr, R k → A.heap[k]? = some (.cells cs ty fr) → C.heap[k]? = A.heap[k]?) (hb : Below w1.heap.size A C) : PlI b9 w1 us R C va vc := by
  have hrow : ∀ {e : TypeId} {size : Nat} {v : Value} {n : Nat} {xs : List Value}, A.ownsRow w1.heap.size e size v n xs → (∀ g, v.ownBlock = some g → R g) → C.ownsRow w1.heap.size e size v n xs := by
    intro e size v n xs ho hR
    refine owns_block ho fun g hg => ?_
    rcases ho.2 with ⟨e', _⟩ | ⟨g', cap, cur, e', _, hgc, _⟩
    · rw [e'] at hg; cases hg
    · rw [e'] at hg
      have e2 : g' = g := by simpa [Value.ownBlock] using hg
      subst e2
      exact hk g' _ _ _ (hR g' (by rw [e']; rfl)) hgc
  refine ⟨h.nz, (hk b9 _ _ _ h.Rb h.box).trans h.box, hrow h.row h.Rr, h.ob, h.Rb, h.Rr, fun i hi => ⟨hrow (h.inner i hi).1 (fun g e => ?_), (h.inner i hi).2⟩, h.dist, h.below.trans hb, h.b9w⟩
  have e2 : us[i].g = g := by simpa [PlX.val, Value.ownBlock] using e
  rw [← e2]
  exact (h.inner i hi).2.2.2

theorem PlI.own {b9 B : Nat} {w1 : World} {us : List PlX} {R : Nat → Prop} {A C : World} {row : Option Nat} {va : Option Addr} {vc : Nat} (h : PlI b9 w1 us R A va vc) (hB : w1.heap.size ≤ B) (hg : A.grownBy C row)
    (hr : ∀ r, row = some r → B ≤ r ∧ (¬ R r ∨ ∃ o : Obj, A.heap[r]? = some o ∧ o.isCells = false)) : PlI b9 w1 us R C va vc := by
  have hsz : w1.heap.size ≤ A.heap.size := h.below.size
  refine h.keep (fun k cs ty fr hRk hc => hg.block k (Array.getElem?_eq_some_iff.1 hc).1 (fun e => ?_)) ((Below.refl w1.heap.size A).grown hg hsz (fun k e => by have := (hr k e).1; omega))
  rcases (hr k e.symm).2 with h1 | ⟨o, ho, h2⟩
  · exact h1 hRk
  · rw [hc] at ho; cases ho; simp [Obj.isCells] at h2

/-- One place more. -/
theorem PlI.next {b9 : Nat} {w1 : World} {us : List PlX} {R : Nat → Prop} {V wr w7 : World} {va : Option Addr} {vc g3 q3 : Nat} {O : Obj} (h : PlI b9 w1 us R V va vc) (new : PlX) (hB : Below V.heap.size V wr)
    (hnew : wr.ownsRow w1.heap.size 9 1 new.val new.tx.length (strs new.tx)) (hng : V.heap.size ≤ new.g)
    (hown3 : w7.ownsRow w1.heap.size 47 2 (.slice (some ⟨g3, 0, none⟩) (us.length + 1) q3) (us.length + 1) (us.flatMap PlX.cells ++ new.cells))
    (hg3 : (wr.alloc O).grownBy w7 (Value.slice va us.length vc).ownBlock) (hat : (Value.slice va us.length vc).ownBlock = some g3 ∨ g3 = (wr.alloc O).heap.size) :
    (∃ R', RBody R R' V (w7.setCell ⟨b9, 0, none⟩ (.slice (some ⟨g3, 0, none⟩) (us.length + 1) q3)) ∧ PlI b9 w1 (us ++ [new]) R' (w7.setCell ⟨b9, 0, none⟩ (.slice (some ⟨g3, 0, none⟩) (us.length + 1) q3)) (some ⟨g3, 0, none⟩) q3) ∧
      KeepsOthers V (w7.setCell ⟨b9, 0, none⟩ (.slice (some ⟨g3, 0, none⟩) (us.length + 1) q3)) ∧ Below w1.heap.size V (w7.setCell ⟨b9, 0, none⟩ (.slice (some ⟨g3, 0, none⟩) (us.length + 1) q3)) := by
  have hb9 : b9 < V.heap.size := lt_of_block h.box
  have hs1 := hB.size
  have hs2 : (wr.alloc O).heap.size = wr.heap.size + 1 := by simp
  have hs3 := hg3.size
  obtain ⟨v, hv⟩ : ∃ v, v = Value.slice (some ⟨g3, 0, none⟩) (us.length + 1) q3 := ⟨_, rfl⟩
  rw [← hv]
  obtain ⟨ow, how⟩ : ∃ ow, ow = (Value.slice va us.length vc).ownBlock := ⟨_, rfl⟩
  have hob := h.ob
  rw [← how] at hg3 hat hob
  have hown : ∀ g, ow = some g → w1.heap.size ≤ g ∧ g < V.heap.size := fun g e => by rw [how] at e; exact ⟨(h.row.lt g e).1, (h.row.lt g e).2⟩
  have blk : ∀ k, k < wr.heap.size → ow ≠ some k → k ≠ b9 → (w7.setCell ⟨b9, 0, none⟩ v).heap[k]? = wr.heap[k]? := fun k hk h1 h2 => by
    rw [Below.heap_setCell _ _ _ _ h2, hg3.block k (by omega) (fun e => h1 e.symm), Below.heap_alloc _ _ _ hk]
  have hbox : w7.heap[b9]? = some (.cells #[.slice va us.length vc] 41 (0, 0)) := by
    rw [hg3.block b9 (by omega) (fun e => hob e.symm), Below.heap_alloc _ _ _ (by omega), hB.block _ hb9]; exact h.box
  have hw1 : w1.heap.size ≤ b9 ∨ True := .inr trivial
  have hbel : Below w1.heap.size wr (w7.setCell ⟨b9, 0, none⟩ v) := by
    have h1 : Below w1.heap.size wr w7 := ((Below.refl w1.heap.size wr).alloc (by have := h.below.size; omega) O).grown hg3 (by have := h.below.size; omega) (fun k e => (hown k e).1)
    exact h1.setCell (p := ⟨b9, 0, none⟩) (h.b9w) _
  refine ⟨⟨fun k => R k ∨ V.heap.size ≤ k, ⟨fun k hk hR => ?_, fun k hk hR => by rcases hR with h1 | h1; exact h1; omega⟩, ?_⟩, ?_, (hB.mono h.below.size).trans hbel⟩
  · rw [blk k (by omega) (fun e => hR (h.Rr k (by rw [← how]; exact e))) (fun e => hR (by rw [e]; exact h.Rb)), hB.block k hk]
  · refine ⟨by simp, ?_, ?_, ?_, .inl h.Rb, ?_, ?_, ?_, (h.below.trans (hB.mono h.below.size)).trans hbel, h.b9w⟩
    · rw [heap_setCell_same hbox, List.length_append]; rw [hv]; rfl
    · rw [List.length_append, List.flatMap_append, List.flatMap_cons, List.flatMap_nil, List.append_nil]
      exact ownsRow_setCell_other hown3 (by
        simp only [Value.ownBlock, ne_eq, Option.some.injEq]
        rcases hat with e | e
        · exact fun e2 => hob (by rw [e, e2])
        · omega) _
    · rcases hat with e | e
      · exact fun e2 => hob (by rw [e]; simpa [Value.ownBlock] using e2)
      · intro e2; simp [Value.ownBlock] at e2; omega
    · intro g e
      have e2 : g3 = g := by simpa [Value.ownBlock] using e
      subst e2
      rcases hat with e | e
      · exact .inl (h.Rr g3 (by rw [← how]; exact e))
      · exact .inr (by omega)
    · intro i hi
      by_cases hlt : i < us.length
      · obtain ⟨a1, a2, a3, a4⟩ := h.inner i hlt
        rw [List.getElem_append_left hlt]
        have hgV : us[i].g < V.heap.size := (a1.lt us[i].g rfl).2
        refine ⟨owns_block a1 (fun g e => ?_), ?_, a3, .inl a4⟩
        · have e2 : us[i].g = g := by simpa [PlX.val, Value.ownBlock] using e
          rw [← e2, blk _ (by omega) (fun e => a2 (by rw [← how]; exact e)) a3, hB.block _ hgV]
        · intro e
          have e2 : g3 = us[i].g := by simpa [Value.ownBlock] using e
          rcases hat with e3 | e3
          · exact a2 (by rw [← how, e3, e2])
          · omega
      · have hii : i = us.length := by simp at hi; omega
        subst hii
        rw [List.getElem_append_right (by omega)]
        simp only [Nat.sub_self, List.getElem_singleton]
        have hgw : new.g < wr.heap.size := (hnew.lt new.g rfl).2
        have hnb : new.g ≠ b9 := by omega
        have hno : ow ≠ some new.g := fun e => by have := (hown _ e).2; omega
        refine ⟨owns_block hnew (fun g e => ?_), ?_, hnb, .inr hng⟩
        · have e2 : new.g = g := by simpa [PlX.val, Value.ownBlock] using e
          rw [← e2, blk _ hgw hno hnb]
        · intro e
          have e2 : g3 = new.g := by simpa [Value.ownBlock] using e
          rcases hat with e3 | e3
          · exact hno (by rw [e3, e2])
          · omega
    · intro i j hi hj hij
      have hil : i < us.length := by simp at hj; omega
      rw [List.getElem_append_left hil]
      by_cases hlt : j < us.length
      · rw [List.getElem_append_left hlt]; exact h.dist i j hil hlt hij
      · rw [List.getElem_append_right (by omega)]
        simp only [List.getElem_singleton]
        have hgV : us[i].g < V.heap.size := ((h.inner i hil).1.lt us[i].g rfl).2
        omega
  · have k1 : KeepsOthers V wr := ⟨hB.size, fun k o hk _ => (hB.block k (Array.getElem?_eq_some_iff.1 hk).1).trans hk⟩
    refine ((k1.trans (KeepsOthers.alloc _ _)).trans (KeepsOthers.of_grownBy hg3 (fun j o e ho => ?_))).trans (KeepsOthers.setCell _ _ _)
    obtain ⟨hj1, hj2⟩ := hown j e
    rw [Below.heap_alloc _ _ _ (by omega), hB.block _ hj2] at ho
    rcases h.row.2 with ⟨e1, _⟩ | ⟨g', cap, cur, e1, _, hgc, _⟩
    · rw [how, e1] at e; cases e
    · rw [how, e1] at e
      have e2 : g' = j := by simpa [Value.ownBlock] using e
      subst e2
      rw [hgc] at ho
      cases ho; rfl

theorem owns_base {w : World} {base base' : Nat} {e : TypeId} {size : Nat} {v : Value} {n : Nat} {xs : List Value} (h : w.ownsRow base e size v n xs) (hb : base' ≤ base) : w.ownsRow base' e size v n xs := by
  refine ⟨h.1, ?_⟩
  rcases h.2 with h | ⟨g, cap, cur, e, h1, rest⟩
  · exact .inl h
  · exact .inr ⟨g, cap, cur, e, Nat.le_trans hb h1, rest⟩

theorem txE_strs {base : Nat} {ty : TypeId} {us : List (List UInt8)} {v : Value} {xs : List Value} {w : World} (h : Row txE ty base us v xs w) : xs = strs us := by
  have hl : xs.length = us.length := by have := h.own.1; simpa [txE] using this
  refine List.ext_getElem (by rw [hl, strs, List.length_map]) fun k h1 h2 => ?_
  obtain ⟨cs, h3, rfl⟩ := h.reps k (by omega)
  have := h3 0 (by decide)
  simp only [txE, Nat.mul_one, Nat.add_zero, List.getElem?_cons_zero] at this
  rw [List.getElem?_eq_getElem h1, Option.some.injEq] at this
  rw [this]; simp [strs]

/-- A place's key as a round has it. -/
def stKey (x : StA) : Nat × List (List UInt8) := (x.at', x.ts.map T.text)

/-- What 'impl.PatternPlaces' answers. -/
def PlsI (o : Option (List (Nat × List T))) (w : World) (e : Ending) (w' : World) : Prop :=
  Below w.heap.size w w' ∧ ((o = none ∧ e = .returned (.tuple #[.slice none 0 0, .bool false])) ∨
    ∃ pls us b9 w1 R va vc, o = some pls ∧ e = .returned (.tuple #[.slice va us.length vc, .bool true]) ∧ us.map PlX.key = pls.map plTx ∧ w.heap.size ≤ w1.heap.size ∧ PlI b9 w1 us R w' va vc)

theorem keeps_noncells {A C : World} {row : Option Nat} (hg : A.grownBy C row) (hr : ∀ r, row = some r → ∃ o : Obj, A.heap[r]? = some o ∧ o.isCells = false) (P : Nat → Prop) : Keeps P A C := fun _ _ _ hv => cell_kept hv hg hr

set_option maxRecDepth 100000 in
set_option maxHeartbeats 4000000 in
theorem iPlaces_any (pat s : ByteArray) (w : World) (hp : pat.size ≤ 1048576) (hs : s.size ≤ 1048576) :
    Calls Try.prog 26 #[.string pat, .string s] w (PlsI (plV pat s) w) := by
  have HP := Lib.hid (readPT_any pat s w hp hs)
  obtain ⟨i0, hi0, hzz, hzs, hzb⟩ := info_parts infoPl
  obtain ⟨i1, hi1, hyz, hys, hyb⟩ := info_parts info9
  refine (callsIn_wide (n := 9)).1 ?_
  refine callsIn_of_wp_marks Try.func26 rfl trivial ?_ rfl
  simp only [Try.ntmps26, List.size_toArray, List.length_cons, List.length_nil, Nat.reduceAdd, Nat.reduceSub, Array.replicate_succ, Array.replicate_zero, List.push_toArray, List.append_toArray, List.nil_append, List.cons_append]
  gi_wp2_with (fail)
  refine ⟨trivial, ?_⟩
  refine (callsIn_wide.2 HP.out).mono ?_
  rintro e w1 ⟨hB1, ⟨hno, rfl⟩ | ⟨p, t, a, ty, b, hyx, hyt, rfl, hr1, hr2⟩⟩
  · have HN : Hid (plV pat s = none) := Lib.hid (by
      rw [plV]
      rcases hno with h | h
      · rw [h]
      · rw [h]; cases patOf pat <;> rfl)
    clear hno
    gi_wp2
    refine ⟨.tuple #[.slice none 0 0, .bool false], ?_, hB1, .inl ⟨HN.out, rfl⟩⟩
    simp [results, Try.f26, go_sem]
  · obtain ⟨hpw, _, hpl, hpn⟩ := parse_some (patOf_some hyx).1
    obtain ⟨htw, _, htl, htn⟩ := parse_some hyt
    have HN : Hid (plV pat s = some (plAll p t)) := Lib.hid (by rw [plV, hyx, hyt])
    have HR1 := Lib.hid hr1
    have HR2 := Lib.hid hr2
    have HB1 := Lib.hid hB1
    clear hyx hyt hr1 hr2 hB1
    gi_wp2_with (refine ⟨trivial, ?_⟩; gi_at_call 65; refine (callsIn_wide.2 (standings_any _ 1 1 ty b _)).mono ?_; rintro e w' ⟨rfl, rfl⟩)
    have HW : Hid (∀ (W : World), W = ((((w1.alloc (.cells #[] 47 (0, 0))).alloc (.cells #[.slice (some ⟨w1.heap.size, 0, none⟩) 0 0] 41 (0, 0))).alloc (.cells #[.pointer (some a)] 48 (0, 0))).alloc (.cells #[.slice (some ⟨w1.heap.size + 1 + 1, 0, none⟩) 1 1] 54 (0, 0))).alloc (.cells #[.iface ty (.pointer (some b))] 50 (0, 0)) →
        W.heap.size = w1.heap.size + 5 ∧ Below w1.heap.size w1 W ∧ W.heap[w1.heap.size]? = some (.cells #[] 47 (0, 0)) ∧ W.heap[w1.heap.size + 1]? = some (.cells #[.slice (some ⟨w1.heap.size, 0, none⟩) 0 0] 41 (0, 0)) ∧ W.heap[w1.heap.size + 1 + 1]? = some (.cells #[.pointer (some a)] 48 (0, 0)) ∧
        W.heap[w1.heap.size + 1 + 1 + 1]? = some (.cells #[.slice (some ⟨w1.heap.size + 1 + 1, 0, none⟩) 1 1] 54 (0, 0)) ∧ W.heap[w1.heap.size + 1 + 1 + 1 + 1]? = some (.cells #[.iface ty (.pointer (some b))] 50 (0, 0)) ∧ W.ownsRow w1.heap.size 47 2 (.slice (some ⟨w1.heap.size, 0, none⟩) 0 0) 0 []) := Lib.hid (by
      intro W hW
      have s1 : (w1.alloc (.cells #[] 47 (0, 0))).heap.size = w1.heap.size + 1 := by simp
      obtain ⟨A1, hA1⟩ : ∃ A1, A1 = w1.alloc (.cells #[] 47 (0, 0)) := ⟨_, rfl⟩
      rw [← hA1] at hW s1
      obtain ⟨A2, hA2⟩ : ∃ A2, A2 = A1.alloc (.cells #[.slice (some ⟨w1.heap.size, 0, none⟩) 0 0] 41 (0, 0)) := ⟨_, rfl⟩
      rw [← hA2] at hW
      obtain ⟨A3, hA3⟩ : ∃ A3, A3 = A2.alloc (.cells #[.pointer (some a)] 48 (0, 0)) := ⟨_, rfl⟩
      rw [← hA3] at hW
      obtain ⟨A4, hA4⟩ : ∃ A4, A4 = A3.alloc (.cells #[.slice (some ⟨w1.heap.size + 1 + 1, 0, none⟩) 1 1] 54 (0, 0)) := ⟨_, rfl⟩
      rw [← hA4] at hW
      have s2 : A2.heap.size = w1.heap.size + 1 + 1 := by rw [hA2]; simp; omega
      have s3 : A3.heap.size = w1.heap.size + 1 + 1 + 1 := by rw [hA3]; simp; omega
      have s4 : A4.heap.size = w1.heap.size + 1 + 1 + 1 + 1 := by rw [hA4]; simp; omega
      have k1 : A1.heap[w1.heap.size]? = some (.cells #[] 47 (0, 0)) := by rw [hA1]; exact heap_alloc_new w1 _
      have k2 : A2.heap[w1.heap.size + 1]? = some (.cells #[.slice (some ⟨w1.heap.size, 0, none⟩) 0 0] 41 (0, 0)) := by rw [hA2, ← s1]; exact heap_alloc_new A1 _
      have k3 : A3.heap[w1.heap.size + 1 + 1]? = some (.cells #[.pointer (some a)] 48 (0, 0)) := by rw [hA3, ← s2]; exact heap_alloc_new A2 _
      have k4 : A4.heap[w1.heap.size + 1 + 1 + 1]? = some (.cells #[.slice (some ⟨w1.heap.size + 1 + 1, 0, none⟩) 1 1] 54 (0, 0)) := by rw [hA4, ← s3]; exact heap_alloc_new A3 _
      have k5 : W.heap[w1.heap.size + 1 + 1 + 1 + 1]? = some (.cells #[.iface ty (.pointer (some b))] 50 (0, 0)) := by rw [hW, ← s4]; exact heap_alloc_new A4 _
      have b1 : Below w1.heap.size w1 A1 := by rw [hA1]; exact (Below.refl _ _).alloc (Nat.le_refl _) _
      have b2 : Below A1.heap.size A1 A2 := by rw [hA2]; exact (Below.refl _ _).alloc (Nat.le_refl _) _
      have b3 : Below A2.heap.size A2 A3 := by rw [hA3]; exact (Below.refl _ _).alloc (Nat.le_refl _) _
      have b4 : Below A3.heap.size A3 A4 := by rw [hA4]; exact (Below.refl _ _).alloc (Nat.le_refl _) _
      have b5 : Below A4.heap.size A4 W := by rw [hW]; exact (Below.refl _ _).alloc (Nat.le_refl _) _
      have o1 : A1.ownsRow w1.heap.size 47 2 (.slice (some ⟨w1.heap.size, 0, none⟩) 0 0) 0 [] := by rw [hA1]; exact World.ownsRow_made w1 #[] 0 (Nat.le_refl _) (by simp [maxLen]) rfl
      refine ⟨by rw [hW]; simp; omega, below_step (below_step (below_step (below_step b1 b2) b3) b4) b5, ?_, ?_, ?_, ?_, k5, owns_below (owns_below (owns_below (owns_below o1 b2) b3) b4) b5⟩
      · rw [b5.block _ (by omega), b4.block _ (by omega), b3.block _ (by omega), b2.block _ (by omega)]; exact k1
      · rw [b5.block _ (by omega), b4.block _ (by omega), b3.block _ (by omega)]; exact k2
      · rw [b5.block _ (by omega), b4.block _ (by omega)]; exact k3
      · rw [b5.block _ (by omega)]; exact k4)
    obtain ⟨W0, hW0⟩ : ∃ W0, ((((w1.alloc (.cells #[] 47 (0, 0))).alloc (.cells #[.slice (some ⟨w1.heap.size, 0, none⟩) 0 0] 41 (0, 0))).alloc (.cells #[.pointer (some a)] 48 (0, 0))).alloc (.cells #[.slice (some ⟨w1.heap.size + 1 + 1, 0, none⟩) 1 1] 54 (0, 0))).alloc (.cells #[.iface ty (.pointer (some b))] 50 (0, 0)) = W0 := ⟨_, rfl⟩
    obtain ⟨hsz, hB0, k1, k2, k3, k4, k5, hrow0⟩ := HW.out W0 hW0.symm
    rw [hW0]
    clear hW0 HW
    have e1 := Lib.cell_of_heap k4 (j := 0)
    have e2 := Lib.cell_of_heap k5 (j := 0)
    have e3 := Lib.cell_of_heap k3 (j := 0)
    refine wpIn_rangeFunc_ownB rfl (by omega) (gf := 82) (lb := #[.pointer (some ⟨w1.heap.size + 1 + 1 + 1 + 1, 0, none⟩), .pointer (some ⟨w1.heap.size + 1 + 1 + 1, 0, none⟩)]) rfl trivial (enters_of Try.func82 (by kernel_rfl) rfl)
      (n₀ := w1.heap.size) (Br := w1.heap.size + 1 + 1) (R0 := fun k => k = w1.heap.size ∨ k = w1.heap.size + 1) (by omega)
      (standings_stops (9 - 1) (by omega) (w1.heap.size + 1 + 1 + 1 + 1) (w1.heap.size + 1 + 1 + 1) w1 W0 w1.heap.size (w1.heap.size + 1 + 1) W0.heap.size [p] t 1 (w1.heap.size + 1 + 1) 1 rfl (by omega) ty b (fun i hi => by
        have hi0 : i = 0 := by simp at hi; omega
        subst hi0
        exact ⟨a, e3, hpw, HR1.out.keep (fun _ _ _ h => h) (fun _ _ h => h) hpw⟩) (Nat.le_refl _) (fun q hq => by simp at hq; subst hq; omega) htw ⟨htl, htn⟩ (HR2.out.keep (fun _ _ _ h => h) (fun _ _ h => h) htw) e2 e1 rfl hB0 (Nat.le_refl _) (by omega))
      (Below.refl _ _) (fun _ => rfl) (fun k h => by omega)
      (fun pre R V => ∃ us va vc, us.map PlX.key = pre.map stKey ∧ PlI (w1.heap.size + 1) w1 us R V va vc ∧ W0.heap.size ≤ V.heap.size)
      (fun _ _ _ => False)
      (fun pre R A C row hs hg hr => by
        obtain ⟨us, va, vc, h1, h2, h3⟩ := hs
        exact ⟨us, va, vc, h1, h2.own (by omega) hg hr, Nat.le_trans h3 hg.size⟩)
      (fun _ _ _ _ _ hs _ _ => hs)
      ⟨[], some ⟨w1.heap.size, 0, none⟩, 0, rfl, ⟨by simp, k2, hrow0, by simp [Value.ownBlock], .inr rfl, fun g e => by simp [Value.ownBlock] at e; exact .inl e.symm, fun _ h => by simp at h, fun _ _ h => by simp at h, hB0, by omega⟩, Nat.le_refl _⟩
      (fun x a' V => ∃ Bf, W0.heap.size ≤ Bf ∧ V.heap[Bf]? = some (.cells #[.int .i64 x.i, .int .i64 x.at', .slice (some ⟨x.g, 0, none⟩) x.ts.length x.cap] 101 (0, 0)) ∧ StA.X x V ∧ a' = { tmps := #[.string pat, .string s, undef, undef, .slice none 0 0, .bool false, .pointer (some a), .iface ty (.pointer (some b)), .bool true, .pointer (some ⟨w1.heap.size + 1, 0, none⟩), .pointer (some ⟨Bf, 0, none⟩), undef, undef, undef, .tuple #[.pointer (some a), .iface ty (.pointer (some b)), .bool true], .string pat, .string s, .tuple #[.pointer (some a), .iface ty (.pointer (some b)), .bool true], .pointer (some a), .iface ty (.pointer (some b)), .bool true, .bool true, .bool false, .slice (some ⟨w1.heap.size, 0, none⟩) 0 0, .pointer (some a), .slice (some ⟨w1.heap.size + 1 + 1, 0, none⟩) 1 1, .iface ty (.pointer (some b)), .func (.func 82) #[] #[.pointer (some ⟨w1.heap.size + 1 + 1 + 1 + 1, 0, none⟩), .pointer (some ⟨w1.heap.size + 1 + 1 + 1, 0, none⟩)], .agg #[.int .i64 x.i, .int .i64 x.at', .slice (some ⟨x.g, 0, none⟩) x.ts.length x.cap], undef, undef, undef, undef, undef, undef, undef, undef, undef, undef, undef, undef, undef, undef, undef, undef, undef, undef, undef, undef, undef, undef], defers := [] })
      (fun x a' _ A C row hs hg hr => by
        obtain ⟨Bf, h1, h2, h3, h4⟩ := hs
        refine ⟨Bf, h1, (hg.block Bf (Array.getElem?_eq_some_iff.1 h2).1 (fun e => ?_)).trans h2, ⟨h3.1.keep (by decide) (keeps_noncells hg (fun r e => (hr r e).2) _) (fun _ _ _ => trivial), h3.2⟩, h4⟩
        obtain ⟨_, o, ho, hc⟩ := hr Bf e.symm
        rw [h2] at ho; cases ho; simp [Obj.isCells] at hc)
      ?assign ?body ?done ?stop
    case assign =>
      rintro l pre R x V K hi hX hsV hK
      dsimp only [StA.enc]
      gi_wp2
      obtain ⟨us, va, vc, h1, h2, h3⟩ := hi
      exact hK _ _ ((Below.refl _ _).alloc (Nat.le_refl _) _) ⟨us, va, vc, h1, h2.keep (fun k _ _ _ _ hc => Below.heap_alloc _ _ _ (Array.getElem?_eq_some_iff.1 hc).1) ((Below.refl _ _).alloc h2.below.size _), by simp; omega⟩
        ⟨V.heap.size, hsV, heap_alloc_new V _, ⟨hX.1.below (by decide) ((Below.refl _ _).alloc (Nat.le_refl _) _), hX.2⟩, rfl⟩
    case body =>
      rintro l pre R x a' V hl ⟨r, hr⟩ ⟨us, va, vc, hkeys, hpl, hsV⟩ ⟨Bf, hBf, hfb, hX, rfl⟩ hlen
      have HPL := Lib.hid hpl
      have HKEYS := Lib.hid hkeys
      have HX1 := Lib.hid hX.1
      obtain ⟨hxc, hxm, pp, q, hppw, hqw, hppl, hql, hqn, hpo⟩ := hX.2
      obtain ⟨j1, j2, j3, j4⟩ := partsOf_ok pp q x.ts hppw hqw hpo
      have hts0 : 0 < x.ts.length := by have := leaves_pos pp hppw; omega
      have htsz : ∀ u ∈ x.ts, u.text.length ≤ 100000 := fun u hu => by
        obtain ⟨j, hj, rfl⟩ := List.getElem_of_mem hu
        have h1 := text_length x.ts[j]
        have h2 := kid_le x.ts j hj
        omega
      have HTSZ := Lib.hid htsz
      have HTS0 := Lib.hid hts0
      have hn100 : x.ts.length ≤ 100 := by omega
      have hk16 : us.length ≤ 16 := by
        have h1 : (us.map PlX.key).length = (pre.map stKey).length := by rw [hkeys]
        rw [List.length_map, List.length_map] at h1
        omega
      obtain ⟨n, hn⟩ : ∃ n, n = x.ts.length := ⟨_, rfl⟩
      have HNN := Lib.hid hn
      rw [← hn] at hfb hn100 ⊢
      have f1 := Lib.cell_of_heap hfb (j := 1)
      have f2 := Lib.cell_of_heap hfb (j := 2)
      have hBfV : Bf < V.heap.size := lt_of_block hfb
      simp only [List.getElem?_toArray, List.getElem?_cons_succ, List.getElem?_cons_zero] at f1 f2
      have hn63 : n ≤ 9223372036854775807 := by omega
      obtain ⟨nd, hnd⟩ : ∃ nd, nd = x.at' := ⟨_, rfl⟩
      rw [← hnd] at f1 ⊢
      have HND := Lib.hid hnd
      clear hkeys hX hpo j1 j2 j3 j4 hts0 htsz hn hnd hpl
      gi_wp2
      gi_loopw [11, 33] (fun ov iv wr => ∃ (k : Nat) (ta : Option Addr) (tc : Nat) (vs : List Value), k ≤ n ∧ ta ≠ none ∧ iv = .int .i64 k ∧ ov = .slice ta k tc ∧ Row txE 9 V.heap.size ((x.ts.take k).map T.text) (.slice ta k tc) vs wr ∧ Below V.heap.size V wr) (fun _ iv _ => n - (intOf iv).toNat)
      case atStart =>
        refine ⟨0, some ⟨V.heap.size, 0, none⟩, 0, [], Nat.zero_le _, by simp, rfl, rfl, ?_, (Below.refl _ _).alloc (Nat.le_refl _) _⟩
        exact ⟨World.ownsRow_made V #[] 0 (Nat.le_refl _) (by simp [maxLen]) rfl, fun _ h => by simp at h⟩
      case round =>
        obtain ⟨k, ta, tc, vs, hk, hta, rfl, rfl, hrow, hB⟩ := hrel
        have HTA := Lib.hid hta
        have HROW := Lib.hid hrow
        have HB := Lib.hid hB
        have hszr : V.heap.size ≤ wr.heap.size := hB.size
        have hlk : ((x.ts.take k).map T.text).length = k := by rw [List.length_map, List.length_take]; have := HNN.out; omega
        have HLK := Lib.hid hlk
        by_cases hlt : k < n
        · have hkt : k < x.ts.length := by rw [← HNN.out]; exact hlt
          obtain ⟨g', cs, e, _, hc, tty, ta', rfl, htw', hrt'⟩ := (HX1.out.below (by decide) hB) k hkt
          cases e
          have c0 : wr.cell? ⟨x.g, k, none⟩ = some (.iface tty (.pointer (some ta'))) := by have := hc 0 (by decide); simpa [trI] using this
          have hxg : x.g < wr.heap.size := World.block_lt_of_cell? wr ⟨x.g, k, none⟩ c0
          have htl' := HTSZ.out x.ts[k] (List.getElem_mem hkt)
          obtain ⟨u, hu⟩ : ∃ u, u = x.ts[k] := ⟨_, rfl⟩
          rw [← hu] at htw' hrt' htl'
          have HU := Lib.hid hu
          have HTT := Lib.hid (treeText_any u tty ta' wr _ htw' hrt' htl')
          obtain ⟨tx, htx⟩ : ∃ tx, tx = u.text := ⟨_, rfl⟩
          rw [← htx] at HTT
          have HTX := Lib.hid htx
          clear hta hrow hB hlk hrt' hu htx hc
          gi_wp2_with (fail)
          refine ⟨trivial, ?_⟩
          refine (CallsIn.inRound l (callsIn_wide.2 HTT.out)).mono ?_
          rintro e w2 ⟨rfl, hB2⟩
          have HB2 := Lib.hid hB2
          have hs2 := hB2.size
          have OWN := owns_below HROW.out.own hB2
          rw [HLK.out] at OWN
          have HOWN := Lib.hid OWN
          have HOA := Lib.hid (World.ownsRow.alloc OWN (.cells #[.string ⟨tx.toArray⟩] 9 (0, 0)))
          clear hB2 OWN
          gi_wp2_with (gi_at_builtin; refine wpListIn_append_own_at _ rfl _ _ 29 rfl V.heap.size 9 i1 (.string ⟨#[]⟩) 1 16 Try.underlying29 hi1 hyz hys hyb rfl (by decide) (.slice ta k tc) k vs rfl HOA.out ⟨w2.heap.size, 0, none⟩ 1 1 [.string ⟨tx.toArray⟩] rfl rfl (cells_one rfl _) (by simp [Value.oneCell']) (by unfold maxLen; omega) (by omega) (by simp; omega) ?_; intro v3 w6 hown3 hg3 hnil3 hat3)
          obtain ⟨g3, q3, rfl, _, _, _⟩ := owns_some hown3 (fun e => by have := hnil3.1 e; simp at this)
          have NX : Row txE 9 V.heap.size ((x.ts.take (k + 1)).map T.text) (.slice (some ⟨g3, 0, none⟩) (k + 1) q3) (vs ++ [.string ⟨tx.toArray⟩]) w6 := by
            have h := HROW.out.next (a := tx) (g := g3) (cap := q3) (w1 := w2) (w1' := w2.alloc (.cells #[.string ⟨tx.toArray⟩] 9 (0, 0))) HB2.out rfl ((Below.refl _ _).alloc (Nat.le_refl _) _) (by rw [HLK.out]; exact hown3) hg3 (by
              rcases hat3 with h | h
              · left; rw [← h]; rfl
              · right; simp [Value.ownBlock] at h; omega)
            rw [HLK.out] at h
            rw [List.take_succ_eq_append_getElem hkt, List.map_append, List.map_cons, List.map_nil, ← HU.out, ← HTX.out]
            exact h
          have HNX := Lib.hid NX
          have BB := Lib.hid (((below_step HB.out HB2.out).alloc (by omega) (.cells #[.string ⟨tx.toArray⟩] 9 (0, 0))).grown hg3 (by simp; omega) (fun q e => by have := (HOWN.out.lt q e).1; omega))
          clear NX hown3 hg3 hnil3 hat3
          gi_wp2
          go_roundw
          case rel => exact ⟨k + 1, some ⟨g3, 0, none⟩, q3, _, by omega, by simp, by go_num, rfl, HNX.out, BB.out⟩
          case measure => simp [intOf]; omega
        · have hkn : k = n := by omega
          subst hkn
          obtain ⟨gt, rfl, hgt⟩ := owns_addr hrow.own hta
          have hpr := HPL.out.keep (C := wr) (fun k cs ty fr _ hc => hB.block _ (Array.getElem?_eq_some_iff.1 hc).1) (hB.mono HPL.out.below.size)
          have hbV : w1.heap.size + 1 < V.heap.size := lt_of_block HPL.out.box
          have hbW : w1.heap.size + 1 < wr.heap.size := by omega
          have cb := Lib.cell_of_heap hpr.box (j := 0)
          have fb := Lib.frozen_of_heap hpr.box 0
          simp only [List.getElem?_toArray, List.getElem?_cons_zero] at cb
          have f1' := keep1 hB f1
          have hBfW : Bf < wr.heap.size := by omega
          have hst : strs (x.ts.map T.text) = vs := by
            have := txE_strs hrow
            rw [HNN.out, List.take_length] at this
            exact this.symm
          have hnew : wr.ownsRow w1.heap.size 9 1 (PlX.val ⟨gt, tc, nd, x.ts.map T.text⟩) (x.ts.map T.text).length (strs (x.ts.map T.text)) := by
            have h := owns_base (base' := w1.heap.size) hrow.own (by have := HPL.out.below.size; omega)
            rw [hst, PlX.val, List.length_map, ← HNN.out]
            rw [hlk] at h
            exact h
          obtain ⟨m, hm⟩ : ∃ m, m = us.length := ⟨_, rfl⟩
          have HM := Lib.hid hm
          rw [← hm] at cb hk16
          have OWN := hpr.row
          rw [← hm] at OWN
          have HOA := Lib.hid (World.ownsRow.alloc OWN (.cells #[.int .i64 nd, .slice (some ⟨gt, 0, none⟩) k tc] 47 (0, 0)))
          have HBX : Hid ((wr.alloc (.cells #[.int .i64 nd, .slice (some ⟨gt, 0, none⟩) k tc] 47 (0, 0))).heap[w1.heap.size + 1]? = some (.cells #[.slice va m vc] 41 (0, 0))) := Lib.hid (by rw [Below.heap_alloc _ _ _ hbW, hm]; exact hpr.box)
          have HOB : Hid ((Value.slice va m vc).ownBlock ≠ some (w1.heap.size + 1)) := Lib.hid (by rw [hm]; exact hpr.ob)
          have HNEW := Lib.hid hnew
          have HWS : Hid ((wr.alloc (.cells #[.int .i64 nd, .slice (some ⟨gt, 0, none⟩) k tc] 47 (0, 0))).heap.size = wr.heap.size + 1) := Lib.hid (by simp)
          clear hta hrow hB hlk hpr hst hnew hm OWN
          gi_wp2_with (gi_at_builtin; refine wpListIn_append_own_at _ rfl _ _ 41 rfl w1.heap.size 47 i0 (.agg #[.int .i64 0, .slice none 0 0]) 2 32 Try.underlying41 hi0 hzz hzs hzb rfl (by decide) (.slice va m vc) m (us.flatMap PlX.cells) rfl HOA.out ⟨wr.heap.size, 0, none⟩ 1 1 [.int .i64 nd, .slice (some ⟨gt, 0, none⟩) k tc] rfl rfl (cells_two (by simp) _ _) (by simp [Value.oneCell']) (by unfold maxLen; omega) (by omega) (by simp; omega) ?_; intro v3 w7 hown3 hg3 hnil3 hat3; obtain ⟨g3, q3, rfl, _, _, _⟩ := owns_some hown3 (fun e => by have := hnil3.1 e; simp at this); have hbl7 := (hg3.block (w1.heap.size + 1) (by rw [HWS.out]; omega) (fun e => HOB.out e.symm)).trans HBX.out; have c7 := Lib.cell_of_heap hbl7 (j := 0); have f7 := Lib.frozen_of_heap hbl7 0; simp only [List.getElem?_toArray, List.getElem?_cons_zero] at c7)
          have hat : (Value.slice va m vc).ownBlock = some g3 ∨ g3 = (wr.alloc (.cells #[.int .i64 nd, .slice (some ⟨gt, 0, none⟩) k tc] 47 (0, 0))).heap.size := by
            rcases hat3 with h | h
            · left; rw [← h]; rfl
            · right; simpa [Value.ownBlock] using h
          have hcells : (us.flatMap PlX.cells ++ [.int .i64 nd, .slice (some ⟨gt, 0, none⟩) k tc]) = us.flatMap PlX.cells ++ PlX.cells ⟨gt, tc, nd, x.ts.map T.text⟩ := by
            simp only [PlX.cells, List.length_map]; rw [← HNN.out]
          rw [hcells, HM.out] at hown3
          rw [HM.out] at hg3 hat
          obtain ⟨⟨R', hbody, hpl'⟩, hko, hbl⟩ := HPL.out.next ⟨gt, tc, nd, x.ts.map T.text⟩ HB.out HNEW.out hgt hown3 hg3 hat
          rw [HM.out]
          exact ⟨hko.from _, hbl, R', hbody, us ++ [⟨gt, tc, nd, x.ts.map T.text⟩], some ⟨g3, 0, none⟩, q3, by rw [List.map_append, List.map_append, HKEYS.out]; simp [PlX.key, stKey, HND.out], hpl', Nat.le_trans hsV hbl.size⟩
    case done =>
      rintro D ys R V hD hys ⟨us, va, vc, hkeys, hpl, hsV⟩ hK
      have cb := Lib.cell_of_heap hpl.box (j := 0)
      have hbV : w1.heap.size + 1 < V.heap.size := lt_of_block hpl.box
      have HPL := Lib.hid hpl
      have HKE : Hid (us.map PlX.key = (plAll p t).map plTx) := Lib.hid (by
        rw [hkeys, ← plAll_stAll, ← hys, List.map_map, List.map_map]
        rfl)
      simp only [List.getElem?_toArray, List.getElem?_cons_zero] at cb
      clear hkeys hpl hys
      gi_wp2
      refine ⟨by simp, .inl ⟨_, _, rfl, run_takeDeferred hK, ?_⟩⟩
      refine ⟨.tuple #[.slice va us.length vc, .bool true], ?_, (HB1.out.trans (HPL.out.below.mono HB1.out.size)).trans ((belowK_b (w := W0) (Nat.le_refl _) V D _ _ (by omega) hK rfl rfl).mono (by have := HB1.out.size; omega)), .inr ⟨plAll p t, us, w1.heap.size + 1, w1, R, va, vc, HN.out, rfl, HKE.out, HB1.out.size, HPL.out.own (B := W0.heap.size) (by omega) (grownBy_putObj' V D _) (fun r e => by cases e; exact ⟨hD, .inr ⟨_, hK, rfl⟩⟩)⟩⟩
      simp [results, Try.f26, go_sem]
    case stop =>
      rintro D c pre V _ _ h _
      exact h.elim
end Go.Proofs.Ytfjodghnheliaaa
end
section
/- Places marked, held and compared. -/
namespace Go.Proofs.Ytfjodghnheliaaa
open Go.RowKit

/-- The mark at which the j-th place begins. -/
def offP (m : Nat) (us : List PlX) (j : Nat) : Nat := m + ((us.take j).map fun x => x.tx.length + 1).sum

theorem offP_zero (m : Nat) (us : List PlX) : offP m us 0 = m := by simp [offP]
theorem offP_succ (m : Nat) (us : List PlX) (j : Nat) (h : j < us.length) : offP m us (j + 1) = offP m us j + 1 + (us[j]).tx.length := by
  rw [offP, offP, List.take_succ_eq_append_getElem h, List.map_append, List.sum_append]; simp; omega
theorem offP_le (m : Nat) (us : List PlX) (L : Nat) (hL : ∀ j (h : j < us.length), (us[j]).tx.length ≤ L) : ∀ j, j ≤ us.length → offP m us j ≤ m + j * (L + 1)
  | 0, _ => by rw [offP_zero]; omega
  | j + 1, h => by
    have h1 := offP_le m us L hL j (by omega)
    have h2 := hL j (by omega)
    rw [offP_succ m us j (by omega), Nat.add_mul]
    omega
theorem offP_ge (m : Nat) (us : List PlX) (j : Nat) : m ≤ offP m us j := by rw [offP]; omega

theorem flat_get : ∀ (us : List PlX) (j : Nat) (h : j < us.length), (us.flatMap PlX.cells)[j * 2 + 1]? = some us[j].val
  | [], _, h => by simp at h
  | u :: us, 0, _ => by simp [PlX.cells, PlX.val]
  | u :: us, j + 1, h => by
    have := flat_get us j (by simpa using h)
    rw [List.flatMap_cons, List.getElem?_append_right (by simp [PlX.cells]; omega)]
    rw [show (j + 1) * 2 + 1 - (PlX.cells u).length = j * 2 + 1 by simp [PlX.cells]; omega, this]
    rfl

/-- The first i places are marked. -/
structure MP (w : World) (a : Option Addr) (us : List PlX) (m i base : Nat) : Prop where
  arr : ∀ _ : us ≠ [], ∃ g cur, a = some ⟨g, 0, none⟩ ∧ base ≤ g ∧ w.heap[g]? = some (.cells cur 47 (0, 0)) ∧ us.length * 2 ≤ cur.size ∧
    ∀ j (h : j < us.length), cur[j * 2 + 1]? = some us[j].val ∧ (j < i → cur[j * 2]? = some (.int .i64 (offP m us j))) ∧ us[j].g ≠ g
  txs : ∀ j (h : j < us.length), base ≤ us[j].g ∧ us[j].g < w.heap.size ∧ (i ≤ j → ∃ cj, w.heap[us[j].g]? = some (.cells cj 9 (0, 0)) ∧ us[j].tx.length ≤ cj.size) ∧ (j < i → Lies w (some ⟨us[j].g, 0, none⟩) ((List.range us[j].tx.length).map fun t => mark (offP m us j + 1 + t)))
  dist : ∀ j k (hj : j < us.length) (hk : k < us.length), j < k → us[j].g ≠ us[k].g

theorem MP.below {w w' : World} {a : Option Addr} {us : List PlX} {m i base : Nat} (h : MP w a us m i base) (hb : Below w.heap.size w w') : MP w' a us m i base :=
  ⟨fun hne => by
    obtain ⟨g, cur, e, h1, h2, h3, h4⟩ := h.arr hne
    exact ⟨g, cur, e, h1, (hb.block _ (lt_of_block h2)).trans h2, h3, h4⟩, fun j hj => by
    obtain ⟨h1, h2, h3, h4⟩ := h.txs j hj
    exact ⟨h1, by have := hb.size; omega, fun hle => by
      obtain ⟨cj, h5, h6⟩ := h3 hle
      exact ⟨cj, (hb.block _ h2).trans h5, h6⟩, fun hlt => (h4 hlt).below hb⟩, h.dist⟩

theorem MP.of_pl {b9 : Nat} {w1 : World} {us : List PlX} {R : Nat → Prop} {V : World} {va : Option Addr} {vc m : Nat} (h : PlI b9 w1 us R V va vc) : MP V va us m 0 w1.heap.size := by
  refine ⟨fun hne => ?_, fun j hj => ?_, h.dist⟩
  · rcases h.row.2 with ⟨_, e⟩ | ⟨g, cap, cur, e, hb, hg, hn, _, hs, ht⟩
    · exact absurd (List.length_eq_zero_iff.1 e) hne
    · simp only [Value.slice.injEq] at e
      obtain ⟨e1, _, _⟩ := e
      refine ⟨g, cur, e1, hb, hg, by rw [hs]; exact Nat.mul_le_mul_right 2 hn, fun j hj => ⟨?_, fun hlt => by omega, fun e => ?_⟩⟩
      · have h1 : (us.flatMap PlX.cells)[j * 2 + 1]? = some us[j].val := flat_get us j hj
        rw [← ht, List.getElem?_take, if_pos (by omega), Array.getElem?_toList] at h1
        exact h1
      · exact (h.inner j hj).2.1 (by rw [e1, e]; rfl)
  · obtain ⟨h1, _, _, _⟩ := h.inner j hj
    rcases h1.2 with ⟨e, _⟩ | ⟨g, cap, cur, e, hb, hg, hn, _, hs, _⟩
    · simp [PlX.val] at e
    · simp only [PlX.val, Value.slice.injEq, Option.some.injEq, Addr.mk.injEq] at e
      obtain ⟨⟨e1, _⟩, _, _⟩ := e
      rw [← e1] at hb hg
      exact ⟨hb, lt_of_block hg, fun _ => ⟨cur, hg, by omega⟩, fun hlt => by omega⟩

theorem plE.get {w : World} {P : Nat → Prop} {a : Option Addr} {ks : List (Nat × List (List UInt8))} (h : Rd plE w P a ks) (k : Nat) (hk : k < ks.length) :
    ∃ g g' c, a = some ⟨g, 0, none⟩ ∧ w.cell? ⟨g, k * 2, none⟩ = some (.int .i64 (ks[k]).1) ∧ w.cell? ⟨g, k * 2 + 1, none⟩ = some (.slice (some ⟨g', 0, none⟩) (ks[k]).2.length c) ∧ Lies w (some ⟨g', 0, none⟩) (ks[k]).2 := by
  obtain ⟨g, cs, e, _, hc, g', c, rfl, _, _, hl⟩ := h k hk
  have h0 := hc 0 (show 0 < 2 by decide)
  have h1 := hc 1 (show 1 < 2 by decide)
  exact ⟨g, g', c, e, by simpa [plE] using h0, by simpa [plE] using h1, fun j hj => ⟨g', rfl, hl j hj⟩⟩

end Go.Proofs.Ytfjodghnheliaaa
end
section
/- The law of PatternPlaces. -/
namespace Go.Proofs.Ytfjodghnheliaaa
open Go.RowKit

theorem plAll_mem {p t : T} (hp : p.wf) (ht : t.wf) {x : Nat × List T} (h : x ∈ plAll p t) : x.2.length = p.leaves := by
  rw [plAll, plUp, List.mem_filterMap] at h
  obtain ⟨k, hk, he⟩ := h
  have hk' : k < t.nodes := by simpa using hk
  obtain ⟨r, q, a, hc⟩ := cutAt_some t k hk'
  have hs := subs_cut t k r q a hc
  cases hq : p.partsOf q with
  | none => rw [plAt_none hs hq] at he; cases he
  | some ts =>
    rw [plAt_some hs hq, Option.some.injEq] at he
    rw [← he]
    exact (partsOf_ok p q ts hp (cutAt_wf t k r q a ht hc).2.1 hq).1

theorem plTxs_ok (pat s : ByteArray) : (plTxs pat s).length ≤ 100 ∧ ∀ x ∈ plTxs pat s, 0 < x.2.length ∧ x.2.length ≤ 100 := by
  unfold plTxs plV
  cases hp : patOf pat with
  | none => simp
  | some p =>
    cases ht : parse s.data.toList with
    | none => simp
    | some t =>
      obtain ⟨hpw, _, hpl, _⟩ := parse_some (patOf_some hp).1
      obtain ⟨htw, _, _, htn⟩ := parse_some ht
      simp only [Option.getD_some, List.length_map, List.mem_map]
      refine ⟨by have := plUp_length p t t.nodes; rw [plAll]; omega, ?_⟩
      rintro x ⟨y, hy, rfl⟩
      have h1 := plAll_mem hpw htw hy
      have h2 := leaves_pos p hpw
      simp only [plTx, List.length_map]
      omega

theorem flat_get0 : ∀ (us : List PlX) (j : Nat) (h : j < us.length), (us.flatMap PlX.cells)[j * 2]? = some (.int .i64 us[j].node)
  | [], _, h => by simp at h
  | u :: us, 0, _ => by simp [PlX.cells]
  | u :: us, j + 1, h => by
    have := flat_get0 us j (by simpa using h)
    rw [List.flatMap_cons, List.getElem?_append_right (by simp [PlX.cells]; omega)]
    rw [show (j + 1) * 2 - (PlX.cells u).length = j * 2 by simp [PlX.cells]; omega, this]
    rfl

theorem PlI.rd {b9 : Nat} {w1 : World} {us : List PlX} {R : Nat → Prop} {V : World} {va : Option Addr} {vc : Nat} (h : PlI b9 w1 us R V va vc) (h0 : ∀ x ∈ us.map PlX.key, 0 < x.2.length) : Rd plE V (fun _ => True) va (us.map PlX.key) := fun k hk => by
  have hku : k < us.length := by simpa using hk
  have hpos := h0 ((us.map PlX.key)[k]) (List.getElem_mem hk)
  rw [List.getElem_map] at hpos
  rcases h.row.2 with ⟨_, e⟩ | ⟨g, cap, cur, e, _, hg, _, _, hs, ht⟩
  · omega
  · simp only [Value.slice.injEq] at e
    obtain ⟨e1, _, _⟩ := e
    have c0 := flat_get0 us k hku
    have c1 := flat_get us k hku
    rw [← ht, List.getElem?_take, if_pos (by omega), Array.getElem?_toList] at c0 c1
    rw [List.getElem_map]
    refine ⟨g, [.int .i64 us[k].node, us[k].val], e1, trivial, fun j hj => ?_, us[k].g, us[k].cap, rfl, trivial, hpos, fun j hj => ?_⟩
    · rw [Lib.cell_of_heap hg]
      have hj2 : j < 2 := hj
      rcases j with _ | _ | j
      · exact c0
      · exact c1
      · omega
    · have hj2 : j < us[k].tx.length := hj
      rcases (h.inner k hku).1.2 with ⟨e, _⟩ | ⟨g', cap', cur', e, _, hg', _, _, _, ht'⟩
      · simp [PlX.val] at e
      · simp only [PlX.val, Value.slice.injEq, Option.some.injEq, Addr.mk.injEq] at e
        obtain ⟨⟨e2, _⟩, _, _⟩ := e
        rw [← e2] at hg'
        rw [Lib.cell_of_heap hg']
        have h2 : (strs us[k].tx)[j]? = some (.string ⟨(us[k].tx[j]).toArray⟩) := by simp [strs, hj2]
        rw [← ht', List.getElem?_take, if_pos (by omega), Array.getElem?_toList] at h2
        exact h2

theorem MP.base {w : World} {a : Option Addr} {us : List PlX} {m i base base' : Nat} (h : MP w a us m i base) (hb : base' ≤ base) : MP w a us m i base' :=
  ⟨fun hne => by
    obtain ⟨g, cur, e, h1, h2⟩ := h.arr hne
    exact ⟨g, cur, e, Nat.le_trans hb h1, h2⟩, fun j hj => ⟨Nat.le_trans hb (h.txs j hj).1, (h.txs j hj).2⟩, h.dist⟩

/-- What the law wants of 'impl.PatternPlaces'. -/
def PlsL (ks : List (Nat × List (List UInt8))) (n : Nat) (b : Bool) (w : World) (e : Ending) (w' : World) : Prop :=
  Below w.heap.size w w' ∧ ∃ us a c, e = .returned (.tuple #[.slice a n c, .bool b]) ∧ n = us.length ∧ (∀ j (h : j < us.length), (us[j]).tx.length ≤ 100) ∧ Rd plE w' (fun _ => True) a ks ∧ MP w' a us 1 0 w.heap.size

theorem iPl_any (pat s : ByteArray) (w : World) (hp : pat.size ≤ 1048576) (hs : s.size ≤ 1048576) :
    Calls Try.prog 26 #[.string pat, .string s] w (PlsL (plTxs pat s) (plTxs pat s).length (plV pat s).isSome w) := by
  refine (iPlaces_any pat s w hp hs).mono ?_
  rintro e w' ⟨hB, ⟨hno, rfl⟩ | ⟨pls, us, b9, w1, R, va, vc, hyes, rfl, hkeys, hle, hpl⟩⟩
  · refine ⟨hB, [], none, 0, by rw [plTxs, hno]; rfl, by rw [plTxs, hno]; rfl, fun j h => by simp at h, by rw [plTxs, hno]; exact Rd.nil, ⟨fun h => absurd rfl h, fun j h => by simp at h, fun j k h => by simp at h⟩⟩
  · have hk : us.map PlX.key = plTxs pat s := by rw [hkeys, plTxs, hyes]; rfl
    have hok := plTxs_ok pat s
    refine ⟨hB, us, va, vc, by rw [← hk, List.length_map, hyes]; rfl, by rw [← hk, List.length_map], fun j h => ?_, by rw [← hk]; exact hpl.rd (fun x hx => (hok.2 x (by rw [← hk]; exact hx)).1), (MP.of_pl hpl).base hle⟩
    exact (hok.2 (us[j]).key (by rw [← hk]; exact List.mem_map.2 ⟨us[j], List.getElem_mem h, rfl⟩)).2

theorem Rd.belowB {α : Type} {E : Elt α} {w w' : World} {B : Nat} {a : Option Addr} {us : List α} (h0 : 0 < E.size) (h : Rd E w (fun b => b < B) a us) (hb : Below B w w') : Rd E w' (fun b => b < B) a us :=
  h.keep h0 (fun _ _ hq hu => (hb.cell hq).trans hu) (fun _ h _ => h)

end Go.Proofs.Ytfjodghnheliaaa
end
