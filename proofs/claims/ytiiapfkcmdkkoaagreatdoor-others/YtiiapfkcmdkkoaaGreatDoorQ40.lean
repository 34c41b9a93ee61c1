import Derived.Test.YtiiapfkcmdkkoaaGreatDoorQ39
import Derived.Test.YtiiapfkcmdkkoaaGreatDoorQ28
import Derived.Test.YtiiapfkcmdkkoaaGreatDoorQ37
/-
  The program's reader is over only where the document's says that the request is over, or wrong.
-/
namespace Go.Proofs.YtiiapfkcmdkkoaaGreatDoor
open Go.RowKit

/-- In a head that is not over, the document's pen comes to the end. -/
theorem head_off {l : List UInt8} {σ : RS} (hi : RInv 0 σ) (ht : σ.tag ≠ 0 ∧ σ.tag ≠ 2 ∧ σ.tag ≤ 7) (hp : Phm σ) (hs : St l σ) : (h5 (bl l)).on = false := by
  obtain ⟨tag, sz, ph, kept, met, count, ho, fault, method, path, name, value, close, kind, length, signs, body⟩ := σ
  simp only at ht
  have ht' : tag = 1 ∨ tag = 3 ∨ tag = 4 ∨ tag = 5 ∨ tag = 6 ∨ tag = 7 := by omega
  rcases ht' with h | h | h | h | h | h <;> subst h <;> clear ht
  · obtain ⟨fs, htold, hf⟩ := hs
    obtain ⟨f, h1, h2⟩ := hf []
    rw [List.append_nil] at h2
    obtain ⟨f', rfl⟩ : ∃ f', f = f' + 1 := ⟨f - 1, by simp only [List.length_nil] at h1; omega⟩
    rw [h5_eq, h2]
    simp only [fieldsP]
    rw [if_pos (pn_on _ _), if_neg]
    · have e : (pn l l.length).f4.on = false := by
        refine f4_off ?_
        rw [f2_eq]
        exact rx_more (r := []) (m := 0) 110 1 20 [58] (by simp) (by simp) (by decide) (by intro c h; cases h; decide) (Or.inl rfl) (by decide)
      rw [fieldsP_off _ _ _ e]
      exact e
    · show ¬ (bl l).data.toList[l.length]? = some 13
      rw [bl_list]; simp
  · obtain ⟨rfl, hcap, htold⟩ := hs
    obtain ⟨q1, q2, q3, q4, q5, q6, q7⟩ := hi.spec
    have hlen := hi.lens.1
    simp only at hcap q4 q5 q6 hlen
    subst q5
    have e : (h2 (bl (method ++ (eL 3).take met))).on = false := by
      rw [h2_eq]
      refine rx_more (r := method) (m := met) 109 1 8 [32, 47] rfl hcap hlen (by intro c h; cases h; decide) ?_ q4
      rcases hp (show 3 ≤ 3 by decide) with h | h
      · exact Or.inl h.2
      · exact Or.inr (q6 h.1)
    have e4 : (h4 (bl (method ++ (eL 3).take met))) = h2 (bl (method ++ (eL 3).take met)) := by rw [h4_eq, rx_off _ _ _ _ _ e]
    show (h5 (bl (method ++ (eL 3).take met))).on = false
    rw [h5_off (by rw [e4]; exact e), e4]
    exact e
  · obtain ⟨l0, hm, rfl, hcap, htold⟩ := hs
    obtain ⟨q1, q2, q3, q4, q5⟩ := hi.spec
    have hlen := hi.lens.2.1
    simp only at hcap q4 q5 hlen
    have e : (h4 (bl (l0 ++ (path ++ (eL 4).take met)))).on = false := by
      rw [h4_eq, hm]
      exact rx_more (r := path) (m := met) 116 0 30 httpTail (drop_pre rfl) hcap hlen (by intro c h; cases h; decide) (Or.inr (Nat.zero_le _)) q4
    show (h5 (bl (l0 ++ (path ++ (eL 4).take met)))).on = false
    rw [h5_off e]
    exact e
  · obtain ⟨l0, fs, htold, hf, rfl, hne⟩ := hs
    obtain ⟨q1, q2, q3, q4, q5, q6, q7⟩ := hi.spec
    have hlen := hi.lens.2.2.1
    have hcap := hi.name
    simp only at hcap q4 q5 q6 hlen hne
    obtain ⟨c, nm', rfl⟩ : ∃ c nm', name = c :: nm' := by cases name with | nil => exact absurd rfl hne | cons c m => exact ⟨c, m, rfl⟩
    have hc : c ≠ 13 := name_ne (hcap c (by simp))
    show (h5 (bl (l0 ++ c :: (nm' ++ (eL 5).take met)))).on = false
    refine hf.off hc (f4_off ?_)
    rw [f2_eq]
    exact rx_more (r := c :: nm') (m := met) 110 1 20 [58] (drop_pre rfl) hcap hlen (by intro c h; cases h; decide) (Or.inr (by simp)) q4
  · obtain ⟨l0, fs, htold, hf, rfl, hne⟩ := hs
    obtain ⟨q1, q2, q3, q4, q5⟩ := hi.spec
    have hlen := hi.lens.2.2.1
    have hcap := hi.name
    have hval := hi.value
    simp only at hcap q4 q5 hlen hne hval
    obtain ⟨c, nm', rfl⟩ : ∃ c nm', name = c :: nm' := by cases name with | nil => exact absurd rfl hne | cons c m => exact ⟨c, m, rfl⟩
    have hc : c ≠ 13 := name_ne (hcap c (by simp))
    have e2 : l0 ++ c :: (nm' ++ [58] ++ (value ++ (eL 6).take met)) = l0 ++ (c :: nm' ++ [58] ++ (value ++ (eL 6).take met)) := by simp
    show (h5 (bl (l0 ++ (c :: nm' ++ [58] ++ (value ++ (eL 6).take met))))).on = false
    rw [← e2]
    refine hf.off hc ?_
    rw [f4_eq, (f2_done e2 hcap hne hlen).1]
    have hd := drop_pre2 (n := (c :: nm').length + 1) e2 (by simp)
    refine rx_more (r := value) (m := met) 118 0 _ [13, 10] hd hval ?_ (by intro c h; cases h; decide) (Or.inr (Nat.zero_le _)) q4
    show value.length ≤ (bl _).size
    rw [bl_size]; simp; omega
  · obtain ⟨l0, fs, htold, hf, rfl⟩ := hs
    obtain ⟨f, h1, h2⟩ := hf [13]
    obtain ⟨f', rfl⟩ : ∃ f', f = f' + 1 := ⟨f - 1, by simp only [List.length_cons] at h1; omega⟩
    rw [h5_eq, h2]
    simp only [fieldsP]
    rw [if_pos (pn_on _ _), if_pos]
    · show ((pn _ _).exact ([13] ++ 10 :: [])).on = false
      rw [ex_more [13] [] (drop_pre rfl)]
      rfl
    · show (bl (l0 ++ [13])).data.toList[l0.length]? = some 13
      rw [bl_list]; simp

theorem count_step (σ : RS) (b : UInt8) : (σ.step b).count = σ.count := by
  have hf : ∀ τ : RS, τ.endField.count = τ.count := by
    intro τ
    unfold RS.endField
    split
    · rfl
    · split
      · rfl
      · split <;> rfl
  have hh : ∀ τ : RS, τ.endHead.count = τ.count := by
    intro τ
    unfold RS.endHead RS.readBody
    split
    · rfl
    · split
      · rfl
      · split
        · rfl
        · split <;> rfl
  have hs : ∀ τ : RS, τ.endSigns.count = τ.count := by
    intro τ
    unfold RS.endSigns
    split
    · rfl
    · split <;> rfl
  have hn : ∀ τ : RS, τ.next.count = τ.count := by
    intro τ
    unfold RS.next
    split
    · rfl
    · rfl
    · rfl
    · exact hf τ
    · exact hh τ
    · exact hs τ
    · rfl
    · rfl
  have he : ∀ τ : RS, (τ.ending b).count = τ.count := by
    intro τ
    unfold RS.ending
    split
    · split
      · rfl
      · exact hn τ
    · rfl
  have hp : ∀ τ : RS, (τ.piece b).count = τ.count := by
    intro τ
    unfold RS.piece
    split
    · split
      · exact (push_same τ _ b).1
      · split
        · rfl
        · exact he τ
    · exact he τ
  unfold RS.step
  split
  · unfold RS.fields
    split
    · rfl
    · exact hp _
  · unfold RS.counted
    split <;> rfl
  · exact hp _

/-- The reader behind l. -/
structure MInv (l : List UInt8) (σ : RS) : Prop where
  inv : RInv 0 σ
  cnt : σ.count = l.length
  ph : Phm σ
  st : St l σ
  at_ : (σ.headOver = false ∧ σ.tag ≠ 0 ∧ σ.tag ≠ 2 ∧ σ.tag ≤ 7) ∨ (σ.headOver = true ∧ (σ.tag = 2 ∨ 8 ≤ σ.tag))

theorem MInv.alive {l : List UInt8} {σ : RS} (h : MInv l σ) : σ.tag ≠ 0 := by
  rcases h.at_ with h | h <;> omega

theorem MInv.start : MInv [] RS.start := ⟨RInv.start, rfl, phm0 rfl rfl, ⟨rfl, by intro c h; exact absurd h (by show ¬ c ∈ ([] : List UInt8); simp), Or.inl ⟨rfl, rfl, rfl, rfl⟩⟩, Or.inl ⟨rfl, show (3 : Nat) ≠ 0 ∧ 3 ≠ 2 ∧ 3 ≤ 7 by decide⟩⟩

theorem rinv_count {σ : RS} (h : RInv 0 σ) (h0 : σ.tag ≠ 0) (hc : ¬ (σ.headOver = false ∧ 200 < σ.count + 1)) : RInv 1 { σ with count := σ.count + 1 } := by
  have hs := h.spec
  refine ⟨h.ph, h.lens, h.name, h.value, h.signs, h.len, ?_⟩
  have ht := h.tags
  obtain ⟨tag, sz, ph, kept, met, count, headOver, fault, method, path, name, value, close, kind, length, signs, body⟩ := σ
  dsimp only at h0 ht hc
  have hcc : headOver = false → count + 1 ≤ 200 := fun e => by
    rcases Nat.lt_or_ge 200 (count + 1) with h1 | h1
    · exact absurd ⟨e, h1⟩ hc
    · exact h1
  clear hc
  obtain e | e | h3 : tag = 1 ∨ tag = 2 ∨ 3 ≤ tag := by omega
  · subst e; exact ⟨hs.1, hcc hs.1, hs.2.2⟩
  · subst e
    obtain ⟨s1, s2, s3⟩ := hs
    exact ⟨s1, s2, by dsimp only at s3 ⊢; omega⟩
  · rcases Go.Proofs.YtiiapfkcmdkkoaaGreatDoor.tags h3 ht with rfl | rfl | rfl | rfl | rfl | rfl | rfl | rfl
    · exact ⟨hs.1, hcc hs.1, hs.2.2⟩
    · exact ⟨hs.1, hcc hs.1, hs.2.2⟩
    · exact ⟨hs.1, hcc hs.1, hs.2.2⟩
    · exact ⟨hs.1, hcc hs.1, hs.2.2⟩
    · exact ⟨hs.1, hcc hs.1, hs.2.2⟩
    · obtain ⟨s1, s2, s3, s4⟩ := hs
      exact ⟨s1, s2, s3, by dsimp only at s4 ⊢; omega⟩
    · obtain ⟨s1, s2, s3, s4, s5, s6⟩ := hs
      exact ⟨s1, s2, s3, s4, s5, by dsimp only at s6 ⊢; omega⟩
    · obtain ⟨s1, s2, s3⟩ := hs
      exact ⟨s1, s2, by dsimp only at s3 ⊢; omega⟩
theorem rinv_one {σ : RS} (h : RInv 0 σ) (ht : σ.tag ≠ 0 ∧ σ.tag ≠ 2 ∧ σ.tag ≤ 7) : RInv 1 σ := by
  have hs := h.spec
  refine ⟨h.ph, h.lens, h.name, h.value, h.signs, h.len, ?_⟩
  obtain ⟨tag, sz, ph, kept, met, count, headOver, fault, method, path, name, value, close, kind, length, signs, body⟩ := σ
  dsimp only at ht
  have ht' : tag = 1 ∨ tag = 3 ∨ tag = 4 ∨ tag = 5 ∨ tag = 6 ∨ tag = 7 := by omega
  rcases ht' with h | h | h | h | h | h <;> subst h <;> exact hs

/-- A byte: the reader goes on, or the request is over by the document as well. -/
theorem MInv.read {l : List UInt8} {σ : RS} (h : MInv l σ) (b : UInt8) : MInv (l ++ [b]) (σ.read b) ∨ ((σ.read b).tag = 0 ∧ 1 < (readP (bl (l ++ [b]))).kind) := by
  have hr := h.inv.read h.alive b
  have hlen : (l ++ [b]).length = σ.count + 1 := by rw [h.cnt]; simp
  unfold RS.read at hr ⊢
  by_cases hc : σ.headOver = false ∧ 200 < σ.count + 1
  · rw [if_pos hc]
    refine Or.inr ⟨rfl, ?_⟩
    have hat : σ.tag ≠ 0 ∧ σ.tag ≠ 2 ∧ σ.tag ≤ 7 := by
      rcases h.at_ with k | k
      · exact k.2
      · rw [hc.1] at k; cases k.1
    have hi := rinv_one h.inv hat
    have hcnt : σ.count ≤ 200 := by
      have hs := h.inv.spec
      obtain ⟨tag, sz, ph, kept, met, count, headOver, fault, method, path, name, value, close, kind, length, signs, body⟩ := σ
      dsimp only at hat
      have ht' : tag = 1 ∨ tag = 3 ∨ tag = 4 ∨ tag = 5 ∨ tag = 6 ∨ tag = 7 := by omega
      rcases ht' with h | h | h | h | h | h <;> subst h <;> exact hs.2.1
    have hsz : 200 < (bl (l ++ [b])).size := by rw [bl_size, hlen]; exact hc.2
    rcases head_step (b := b) hat.1 hi hat.2 h.ph (by rw [← h.cnt]; exact hcnt) h.st with ⟨k1, k2, k3, k4⟩ | ⟨_, k2⟩ | ⟨fs, τ, k1, k2, k3, k4⟩
    · exact off_kind (head_off (hi.step hat.1 b) k1 k3 k4) hsz
    · exact bad_kind k2
    · exact k2.far (by rw [hlen]; exact hc.2)
  · rw [if_neg hc] at hr ⊢
    have hi := rinv_count h.inv h.alive hc
    have hcs := count_step { σ with count := σ.count + 1 } b
    have fin : ∀ τ : RS, τ.count = σ.count + 1 → RInv 0 τ → BFate (l ++ [b]) τ → MInv (l ++ [b]) τ ∨ (τ.tag = 0 ∧ 1 < (readP (bl (l ++ [b]))).kind) := by
      intro τ hτ hri hb
      rcases hb with ⟨k1, k2, k3, k4⟩ | k
      · exact Or.inl ⟨hri, by rw [hτ, hlen], k3, k4, Or.inr ⟨k2, k1⟩⟩
      · exact Or.inr k
    rcases h.at_ with ⟨a1, a2⟩ | ⟨a1, a2⟩
    · have hcnt : σ.count + 1 ≤ 200 := by
        rcases Nat.lt_or_ge 200 (σ.count + 1) with g | g
        · exact absurd ⟨a1, g⟩ hc
        · exact g
      rcases head_step (σ := { σ with count := σ.count + 1 }) (b := b) a2.1 hi a2.2 h.ph (by rw [← h.cnt]; omega) h.st with ⟨k1, k2, k3, k4⟩ | ⟨k1, k2⟩ | ⟨fs, τ, k1, k2, k3, k4⟩
      · exact Or.inl ⟨hr, by rw [hcs, hlen], k3, k4, Or.inl ⟨k2, k1⟩⟩
      · exact Or.inr ⟨k1, bad_kind k2⟩
      · refine fin _ hcs hr ?_
        rw [k4]
        exact headOver_step k1 k2 k3 (by rw [hlen]; exact hcnt)
    · exact fin _ hcs hr (body_step (σ := { σ with count := σ.count + 1 }) hi a1 a2 h.ph h.st)

end Go.Proofs.YtiiapfkcmdkkoaaGreatDoor

/-
  A server on which others have begun requests that are not over.
-/
namespace Go.Proofs.YtiiapfkcmdkkoaaGreatDoor
open Go.RowKit Go.MapKept

theorem kset_other (K : Ks) (id j : Int) (cx : CX) (hn : (K.map (·.1)).Nodup) (h : j ≠ id) {y : Nat × CX} (hy : aget K j = some y) : aget (kset K id cx) j = some y := by
  have hm := aget_mem hy
  have hm' : (j, y) ∈ kset K id cx := by
    unfold kset
    refine List.mem_map.2 ⟨(j, y), hm, ?_⟩
    rw [if_neg h]
  exact mem_aget (K := kset K id cx) (by rw [kset_keys]; exact hn) hm'

/-- Nothing was answered, nothing is kept; the first connection is new. -/
structure Calm (x : Xs) : Prop where
  dr : x.dr = false
  L : x.L = []
  u : x.u = 0
  zero : ∃ c, aget x.K 0 = some (c, cxNew)
  len : x.K.length = x.made
  nd : (x.K.map (·.1)).Nodup
  pos : 1 ≤ x.made

/-- A connection over which l has come, and no request is over. -/
def Begun (x : Xs) (id : Int) (l : List UInt8) : Prop := ∃ c cx, aget x.K id = some (c, cx) ∧ cx.kind ≠ 2 ∧ cx.out = [] ∧ cx.unread = [] ∧ MInv l cx.rd

theorem calm_new (c : Nat) : Calm (xNew.joined c) := ⟨rfl, rfl, rfl, ⟨c, aget_joined c⟩, rfl, nd_joined c, Nat.le_refl _⟩

section
variable {N : Nat} {w0 wr : World} {Sa Sb : Nat} {pa pb : Ps} {xa xb : Xs}

theorem Two.nd (h : Two N w0 wr Sa pa xa Sb pb xb) : (xa.K.map (·.1)).Nodup := by
  obtain ⟨Fa, Fsa, Fb, Fsb, h1, _⟩ := h.st
  exact h1.nd

theorem Two.joins (h : Two N w0 wr Sb pb xb Sa pa xa) (hc : Calm xb) (hlt : xb.made < 4) :
    Calls Tryz.prog 10 #[.pointer (some ⟨Sb, 0, none⟩)] wr fun e w' => e = .returned (.tuple #[.int .i64 xb.made, .bool true]) ∧ ∃ y, Two N w0 w' Sb pb y Sa pa xa ∧ Calm y ∧ Begun y xb.made [] ∧ y.made = xb.made + 1 := by
  refine (h.call (y := xb.joined wr.heap.size) (R := fun e => e = .returned (.tuple #[.int .i64 xb.made, .bool true])) (fun F Fs hv => connect_any (hid hv) hc.dr (by rw [hc.len]; exact hlt) (by omega))).mono ?_
  rintro e w' ⟨h1, h2⟩
  have hnd := h2.nd
  refine ⟨h1, xb.joined wr.heap.size, h2, ⟨hc.dr, hc.L, hc.u, ?_, ?_, hnd, Nat.le_add_left _ _⟩, ?_, rfl⟩
  · obtain ⟨c, hz⟩ := hc.zero
    exact ⟨c, mem_aget (K := (xb.joined wr.heap.size).K) hnd (e := (0, c, cxNew)) (List.mem_append_left _ (aget_mem hz))⟩
  · show (xb.K ++ _).length = xb.made + 1
    rw [List.length_append, hc.len]; rfl
  · exact ⟨wr.heap.size, cxAt xb.made, mem_aget (K := (xb.joined wr.heap.size).K) hnd (e := ((xb.made : Int), wr.heap.size, cxAt xb.made)) (List.mem_append_right _ (by simp)), by show (0 : Nat) ≠ 2; decide, rfl, rfl, MInv.start⟩

theorem Two.full (h : Two N w0 wr Sb pb xb Sa pa xa) (hc : Calm xb) (hge : ¬ xb.made < 4) :
    Calls Tryz.prog 10 #[.pointer (some ⟨Sb, 0, none⟩)] wr fun e w' => e = .returned (.tuple #[.int .i64 0, .bool false]) ∧ Two N w0 w' Sb pb xb Sa pa xa :=
  h.same (R := fun e => e = .returned (.tuple #[.int .i64 0, .bool false])) (fun F Fs hv => connect_no (hid hv) (Or.inr (by rw [hc.len]; omega)))

theorem got_one {cx : CX} {b : UInt8} (h2 : cx.kind ≠ 2) (ho : cx.out = []) (hu : cx.unread = []) (ht : (cx.rd.read b).tag ≠ 0) : Cs.got false ⟨cx, [], 0⟩ [b] = ⟨{ cx with kind := 1, σ := cx.rd.read b, out := [], unread := [] }, [], 0⟩ := by
  have hg : (⟨cx, [], 0⟩ : Cs).goes := ⟨h2, by show cx.out.length < 250; rw [ho]; decide⟩
  have ha : Cs.ate false ⟨cx, [], 0⟩ [b] = 1 := by
    unfold Cs.ate
    rw [if_pos hg]
    rfl
  have hr : Cs.reads false ⟨cx, [], 0⟩ ([b].take 1) = ⟨{ cx with kind := 1, σ := cx.rd.read b }, [], 0⟩ := by
    show Cs.read false ⟨cx, [], 0⟩ b = _
    unfold Cs.read CX.next CX.nextL CX.nextU
    simp only
    rw [if_neg ht, if_neg ht, if_neg ht]
  unfold Cs.got
  rw [ha, hr]
  unfold Cs.admit
  rw [if_neg (show ¬ (1 : Nat) = 2 by decide)]
  obtain ⟨k, σ, un, out, i⟩ := cx
  simp only at ho hu
  subst ho hu
  simp

theorem Two.byte (h : Two N w0 wr Sb pb xb Sa pa xa) (hc : Calm xb) {id : Int} {l : List UInt8} (hb : Begun xb id l) (hid0 : id ≠ 0) (b : UInt8) (bs : ByteArray) (hbs : bs.data.toList = [b]) (hk : ¬ 1 < (readP (bl (l ++ [b]))).kind) :
    Calls Tryz.prog 19 #[.pointer (some ⟨Sb, 0, none⟩), .int .i64 id, .string bs] wr fun e w' => (∃ n : Nat, e = .returned (.int .i64 n)) ∧ ∃ y, Two N w0 w' Sb pb y Sa pa xa ∧ Calm y ∧ Begun y id (l ++ [b]) ∧ y.made = xb.made := by
  obtain ⟨c, cx, g1, g2, g3, g4, g5⟩ := hb
  have hm : MInv (l ++ [b]) (cx.rd.read b) := by
    rcases g5.read b with q | q
    · exact q
    · exact absurd q.2 hk
  have hgot := got_one g2 g3 g4 hm.alive
  have hsz : bs.size = 1 := by rw [← size_list, hbs]; rfl
  refine (h.call (y := xb.after id (Cs.got xb.dr ⟨cx, xb.L, xb.u⟩ bs.data.toList)) (R := fun e => ∃ n : Nat, e = .returned (.int .i64 n)) (fun F Fs hv => (data_any (hid hv) (hid g1) bs (by omega)).mono (by rintro e w' ⟨q1, q2⟩; exact ⟨⟨_, q1⟩, q2⟩))).mono ?_
  rintro e w' ⟨h1, h2⟩
  rw [hc.dr, hc.L, hc.u, hbs, hgot] at h2
  refine ⟨h1, _, h2, ⟨hc.dr, rfl, rfl, ?_, ?_, h2.nd, hc.pos⟩, ?_, rfl⟩
  · obtain ⟨c0, hz⟩ := hc.zero
    exact ⟨c0, kset_other xb.K id 0 _ hc.nd (fun e => hid0 e.symm) hz⟩
  · show (kset xb.K id _).length = xb.made
    unfold kset
    rw [List.length_map, hc.len]
  · exact ⟨c, _, aget_after g1 _, by show (1 : Nat) ≠ 2; decide, rfl, rfl, hm⟩

/-- All bytes over the first connection: as over one of a server of its own. -/
theorem Two.allB (h : Two N w0 wr Sa pa xa Sb pb xb) (hc : Calm xa) (bs : ByteArray) (hb : bs.size ≤ 140737488355328) :
    Calls Tryz.prog 15 #[.pointer (some ⟨Sa, 0, none⟩), .int .i64 0, .string bs, .slice none 0 0] wr fun e w' => (∃ at_ : Int, e = .returned (.tuple #[.string ⟨(allOf bs.data.toList).2.toArray⟩, .int .i64 at_])) ∧ Two N w0 w' Sa pa (xa.taken 0 (allOf bs.data.toList).1.core) Sb pb xb := by
  obtain ⟨c, hz⟩ := hc.zero
  have e0 : Cs.run xa.dr ⟨cxNew, xa.L, xa.u⟩ bs.data.toList = allOf bs.data.toList := by rw [hc.dr, hc.L, hc.u]; rfl
  refine h.call (fun F Fs hv => ?_)
  refine (all_any (hid hv) (hid hz) (hid ⟨by decide, rfl, rfl⟩) bs hb (.slice none 0 0) [] (hid .none) (by decide)).mono ?_
  rintro e w' ⟨at_, h1, h2, h3⟩
  rw [e0] at h1 h2
  exact ⟨⟨at_, h1⟩, h2⟩
theorem Two.openB {l : List UInt8} {x : Xs} (hc : Calm x) (h : Two N w0 wr Sa pa (x.taken 0 (allOf l).1.core) Sb pb xb) :
    Calls Tryz.prog 16 #[.pointer (some ⟨Sa, 0, none⟩), .int .i64 0] wr fun e w' => e = .returned (.bool (opOf l)) ∧ Two N w0 w' Sa pa (x.taken 0 (allOf l).1.core) Sb pb xb := by
  obtain ⟨c, hz⟩ := hc.zero
  have ho : (aget (x.taken 0 (allOf l).1.core).K 0).isSome = opOf l := by
    rw [aget_taken hc.nd hz]
    unfold opOf
    have e : (allOf l).1.core.cx.kind = (allOf l).1.cx.kind := rfl
    rw [e]
    by_cases h : (allOf l).1.cx.kind = 2
    · rw [if_pos ⟨h, rfl⟩]; simp [h]
    · rw [if_neg (fun q => h q.1)]; simp [h]
  refine h.same (R := fun e => e = .returned (.bool (opOf l))) (fun F Fs hv => ?_)
  have := open_any (hid hv) 0
  rw [ho] at this
  exact this
end

/-- A row of strings. -/
inductive StrsAt (B : Nat) (w : World) : Value → List ByteArray → Prop where
  | none : StrsAt B w (.slice none 0 0) []
  | some (a : Addr) (cap : Nat) (zs : List ByteArray) (hb : 0 < zs.length → a.block < B) (hc : ∀ i z, zs[i]? = some z → w.cell? (a.add i) = some (.string z)) : StrsAt B w (.slice (some a) zs.length cap) zs
theorem StrsAt.keep {B : Nat} {w w' : World} {v : Value} {zs : List ByteArray} (h : StrsAt B w v zs) (hb : Below B w w') : StrsAt B w' v zs := by
  cases h with
  | none => exact .none
  | some a cap zs hlt hc => exact .some a cap zs hlt (fun i z hz => (hb.cell (by rw [block_add']; exact hlt (Nat.lt_of_le_of_lt (Nat.zero_le _) (List.getElem?_eq_some_iff.1 hz).1))).trans (hc i z hz))

end Go.Proofs.YtiiapfkcmdkkoaaGreatDoor
