import Derived.Test.YtohoddhegkjehaaGreatDoorG9
/-
  New, Connect, Drain, Tick.
-/
namespace Go.Proofs.YtohoddhegkjehaaGreatDoor
open Go.RowKit Go.MapKept

def xNew : Xs := ⟨[], [], 0, 0, false⟩

theorem news_end {N : Nat} {w w1 : World} (hT : Hid (Tb N w)) (hN : N ≤ w.heap.size) (hs1 : Sto w1 (w.heap.size + 1 + 1) (w.heap.size + 1) [] 0) (hu1 : Upd (fun _ => False) (w.alloc (.map #[] 0)) w1) (hz1 : w1.heap.size = w.heap.size + 1 + 2) :
    Sv N (fun k => w.heap.size ≤ k ∧ k < (w1.alloc (.cells #[.map (some w.heap.size), .int .i64 0, .bool false, .pointer (some ⟨w.heap.size + 1 + 1, 0, none⟩)] 50)).heap.size) (fun _ _ => False) (w1.alloc (.cells #[.map (some w.heap.size), .int .i64 0, .bool false, .pointer (some ⟨w.heap.size + 1 + 1, 0, none⟩)] 50)) w1.heap.size ⟨w.heap.size + 2, w.heap.size + 1, w.heap.size⟩ xNew ∧ Upd (fun _ => False) w (w1.alloc (.cells #[.map (some w.heap.size), .int .i64 0, .bool false, .pointer (some ⟨w.heap.size + 1 + 1, 0, none⟩)] 50)) := by
  have hcm : (w.alloc (.map #[] 0)).heap[w.heap.size]? = some (.map #[] 0) := heap_alloc_new w _
  generalize hW : w1.alloc (.cells #[.map (some w.heap.size), .int .i64 0, .bool false, .pointer (some ⟨w.heap.size + 1 + 1, 0, none⟩)] 50) = W
  have U2 : Same w1 W := by rw [← hW]; exact (Upd.refl _ _).alloc _
  have U : Same w W := (((Upd.refl _ w).alloc _).trans hu1).trans U2
  have hz : W.heap.size = w.heap.size + 4 := by rw [← hW]; simp; omega
  have hnil : ∀ {P : Int × Nat × CX → Prop}, ∀ e ∈ xNew.K, P e := by intro P e he; cases he
  refine ⟨⟨⟨?_, ?_⟩, ⟨#[], 0, ?_, rfl, Born.nil⟩, List.nodup_nil, hnil, hnil, hnil, ⟨?_, ?_, ?_, ?_⟩, hnil, ?_, fun k hk => ⟨by omega, hk.2⟩, hT.out.keep (U.below hN (fun _ _ h => h)), hnil, TInv.nil, hnil, Nat.zero_le _⟩, U⟩
  · rw [← hW]; exact heap_alloc_new w1 _
  · exact hs1.keep U2 (fun h => h) (fun h => h)
  · exact U2.keep (hu1.keep hcm (fun h => h)) (fun h => h)
  · show w.heap.size ≤ w1.heap.size ∧ w1.heap.size < W.heap.size; omega
  · show w.heap.size ≤ w.heap.size + 2 ∧ w.heap.size + 2 < W.heap.size; omega
  · show w.heap.size ≤ w.heap.size + 1 ∧ w.heap.size + 1 < W.heap.size; omega
  · show w.heap.size ≤ w.heap.size ∧ w.heap.size < W.heap.size; omega
  · show w.heap.size ≠ w.heap.size + 1; omega

set_option maxHeartbeats 800000 in
set_option maxRecDepth 100000 in
theorem new_any (N : Nat) (w : World) (hT : Hid (Tb N w)) (hN : N ≤ w.heap.size) :
    Calls Tryz.prog 8 #[] w fun e w' => ∃ S p, e = .returned (.pointer (some ⟨S, 0, none⟩)) ∧ Sv N (fun k => w.heap.size ≤ k ∧ k < w'.heap.size) (fun _ _ => False) w' S p xNew ∧ Upd (fun _ => False) w w' := by
  have hmk : ∀ W : World, (Instr.makeMap 46 none).run Tryz.prog W = .ok (.map (some W.heap.size)) (W.alloc (.map #[] 0)) := fun W => by simp [Instr.makeMap, Result.andThen]
  go_enter Tryz.func8, Tryz.ntmps8
  go_wp2_with fail
  refine (storeNew_any _).mono ?_
  rintro e w1 ⟨rfl, hs1, hu1, hz1⟩
  have hsz : (w.alloc (.map #[] 0)).heap.size = w.heap.size + 1 := by simp
  rw [hsz] at hs1 hz1
  have HE := hid (news_end hT hN hs1 hu1 hz1)
  rw [hsz]
  clear hs1 hu1 hz1 hsz
  go_wp2
  go_ret
  exact ⟨w1.heap.size, _, rfl, HE.out.1, HE.out.2⟩

def cxNew : CX := ⟨0, RS.start, [], []⟩
theorem kinv_new : KInv cxNew := ⟨⟨RInv.start, by decide, by decide⟩, by decide, fun hne => absurd rfl hne, by decide⟩
def Xs.joined (x : Xs) (c : Nat) : Xs := { x with K := x.K ++ [((x.made : Int), c, cxNew)], made := x.made + 1 }

theorem aidx_none (K : List (Int × Nat)) (a : Int) (h : ∀ e ∈ K, e.1 ≠ a) : aidx K a = K.length := by
  unfold aidx
  rw [List.findIdx_eq_length]
  intro e he
  have := h e he
  simpa using this
theorem aput_new (K : List (Int × Nat)) (a : Int) (c : Nat) (h : ∀ e ∈ K, e.1 ≠ a) : aput K a c = K ++ [(a, c)] := by
  unfold aput
  rw [aidx_none K a h, if_neg (Nat.lt_irrefl _)]

/-- A connection is made. -/
theorem connected {N : Nat} {F : Nat → Prop} {Fs : Int → Nat → Prop} {w W0 : World} {S : Nat} {p : Ps} {x : Xs} (h : Sv N F Fs w S p x) (hfew : x.K.length < 4) (hW0 : W0 = (w.setCell ⟨S, 1, none⟩ (.int .i64 (x.made + 1 : Nat))).alloc (.cells #[restingV, .slice none 0 0, .slice none 0 0] 63)) :
    ∃ W1, (Instr.mapUpdate 46 (.map (some p.cm)) (.int .i64 x.made) (.pointer (some ⟨w.heap.size, 0, none⟩))).run Tryz.prog W0 = .ok () W1 ∧ SvX N F w W1 S p (x.joined w.heap.size) := by
  have U0 : Upd (fun k => k = S) w W0 := by rw [hW0]; exact (Upd.one w S 1 _).alloc _
  have hbc : W0.heap[w.heap.size]? = some (.cells #[restingV, .slice none 0 0, .slice none 0 0] 63 (0, 0)) := by
    have := heap_alloc_new (w.setCell ⟨S, 1, none⟩ (.int .i64 (x.made + 1 : Nat))) (.cells #[restingV, .slice none 0 0, .slice none 0 0] 63)
    rw [size_setCell] at this
    rw [hW0]; exact this
  have hSl := lt_of_heap h.srv.blk
  have hbS : W0.heap[S]? = some (.cells #[.map (some p.cm), .int .i64 (x.made + 1 : Nat), .bool x.dr, .pointer (some ⟨p.s, 0, none⟩)] 50 (0, 0)) := by
    have := heap_setCell h.srv.blk 1 (.int .i64 (x.made + 1 : Nat))
    rw [hW0]
    exact (heap_alloc_old (w.setCell ⟨S, 1, none⟩ (.int .i64 (x.made + 1 : Nat))) _ (by rw [size_setCell]; exact hSl)).trans (by simpa using this)
  have hz : W0.heap.size = w.heap.size + 1 := by rw [hW0]; simp
  obtain ⟨es, clock, hb, he, hbo⟩ := h.cms
  have hne2 := h.nes.1
  have hne1 := h.nes.2
  have hns : p.s ≠ S := fun e => by have := h.srv.sto.blk; rw [e, h.srv.blk] at this; simp at this
  have hnm : p.m ≠ S := fun e => by obtain ⟨es', cl', h3, _⟩ := h.srv.sto.map; rw [e, h.srv.blk] at h3; simp at h3
  have hb0 : W0.heap[p.cm]? = some (.map es clock) := U0.keep hb hne1
  have hfresh : ∀ e ∈ kmap x.K, e.1 ≠ (x.made : Int) := by
    intro e he
    obtain ⟨f, hf, rfl⟩ := List.mem_map.1 he
    have := h.ids f hf
    show f.1 ≠ _
    omega
  have hfreshK : ∀ e ∈ x.K, e.1 ≠ (x.made : Int) := fun e he => by have := h.ids e he; omega
  obtain ⟨es', clock', h5, h6⟩ := run_update_born (P := Tryz.prog) (w := W0) (vv := ptrV) Tryz.und46 Tryz.und3' int_key int_inj hb0 he hbo (x.made : Int) w.heap.size
  rw [aput_new _ _ _ hfresh] at h6
  refine ⟨_, h5, ?_⟩
  have U1 : Upd (fun k => k = p.cm) W0 { W0 with heap := W0.heap.setIfInBounds p.cm (.map es' clock') } := Upd.setObj _
  have hcm1 : ({ W0 with heap := W0.heap.setIfInBounds p.cm (.map es' clock') } : World).heap[p.cm]? = some (.map es' clock') := (MapKept.heap_set hb0 (o' := .map es' clock')).1
  generalize hW1 : ({ W0 with heap := W0.heap.setIfInBounds p.cm (.map es' clock') } : World) = W1 at U1 hcm1
  have U : Upd (fun k => k = S ∨ k = p.cm) w W1 := (U0.mono (fun _ _ h => Or.inl h)).trans (U1.mono (fun _ _ h => Or.inr h))
  have hcml := lt_of_heap hb
  have hz1 := U1.size
  have hS := h.low S h.own.1
  have hmem : ∀ {P : Int × Nat × CX → Prop}, (∀ e ∈ x.K, e.1 ≠ (x.made : Int) → P e) → P ((x.made : Int), w.heap.size, cxNew) → ∀ e ∈ (x.joined w.heap.size).K, P e := by
    intro P ha hb e he
    rcases List.mem_append.1 he with h1 | h1
    · exact ha e h1 (hfreshK e h1)
    · have : e = ((x.made : Int), w.heap.size, cxNew) := by simpa using h1
      rw [this]; exact hb
  let Fs' : Int → Nat → Prop := fun j => if j = (x.made : Int) then (fun k => k = w.heap.size) else Fs j
  have e1 : Fs' (x.made : Int) = (fun k => k = w.heap.size) := if_pos rfl
  have e2 : ∀ j, j ≠ (x.made : Int) → Fs' j = Fs j := fun j hj => if_neg hj
  refine ⟨fun k => F k ∨ k = w.heap.size, Fs', ⟨⟨?_, ?_⟩, ⟨es', clock', hcm1, ?_⟩, ?_, ?_, ?_, ?_, ⟨Or.inl h.own.1, Or.inl h.own.2.1, Or.inl h.own.2.2.1, Or.inl h.own.2.2.2⟩, ?_, h.ne, ?_, ?_, ?_, h.ti, ?_, ?_⟩, U.mono ?_, ?_⟩
  · exact U1.keep hbS (fun e => hne1 e.symm)
  · exact h.srv.sto.keep U (by rintro (e | e); exact hns e; exact hne2 e.symm) (by rintro (e | e); exact hnm e; exact h.ne e.symm)
  · have : kmap (x.joined w.heap.size).K = kmap x.K ++ [((x.made : Int), w.heap.size)] := by unfold kmap Xs.joined; simp
    rw [this]; exact h6
  · show ((x.K ++ [((x.made : Int), w.heap.size, cxNew)]).map (·.1)).Nodup
    rw [List.map_append]
    refine List.nodup_append.2 ⟨h.nd, by simp, ?_⟩
    intro a ha b hb
    obtain ⟨f, hf, rfl⟩ := List.mem_map.1 ha
    have : b = (x.made : Int) := by simpa using hb
    rw [this]
    exact hfreshK f hf
  · refine hmem (fun e q1 q2 => ?_) ?_
    · rw [e2 _ q2]
      obtain ⟨dv, uv, ov, hc⟩ := h.cn e q1
      refine ⟨dv, uv, ov, hc.keep U ?_⟩
      rintro k hk (rfl | rfl)
      · exact (h.off e q1).1 hk
      · exact (h.off e q1).2.2.2 hk
    · simp only
      rw [e1]
      refine ⟨restingV, .slice none 0 0, .slice none 0 0, ⟨U1.keep hbc (by show ¬ w.heap.size = p.cm; omega), Row.nil _, Row.nil _, ?_, rfl, ?_, ?_, ?_, Or.inl ⟨rfl, rfl⟩⟩⟩
      · intro k hk; cases hk
      · intro k hk; cases hk
      · intro k hk; cases hk
      · rintro k rfl; omega
  · refine hmem (fun e q1 q2 => ?_) ?_
    · rw [e2 _ q2]; exact fun k hk => Or.inl (h.sub e q1 k hk)
    · simp only
      rw [e1]; exact fun k hk => Or.inr hk
  · have hlt : ∀ f ∈ x.K, ∀ k, Fs f.1 k → k < w.heap.size := fun f hf k hk => (h.low k (h.sub f hf k hk)).2
    refine hmem (fun e q1 q2 => hmem (fun f q4 q5 => ?_) ?_) (hmem (fun f q4 q5 => ?_) ?_)
    · intro hne k; rw [e2 _ q2, e2 _ q5]; exact h.dis e q1 f q4 hne k
    · intro _ k; simp only; rw [e2 _ q2, e1]; intro a b; have := hlt e q1 k a; have b' : k = w.heap.size := b; omega
    · intro _ k; simp only; rw [e1, e2 _ q5]; intro a b; have := hlt f q4 k b; have a' : k = w.heap.size := a; omega
    · intro hne; exact absurd rfl hne
  · refine hmem (fun e q1 q2 => ?_) ?_
    · rw [e2 _ q2]; exact h.off e q1
    · simp only
      rw [e1]
      refine ⟨?_, ?_, ?_, ?_⟩
      · intro e; have : S = w.heap.size := e; omega
      · intro e; have := (h.low p.s h.own.2.1).2; have : p.s = w.heap.size := e; omega
      · intro e; have := (h.low p.m h.own.2.2.1).2; have : p.m = w.heap.size := e; omega
      · intro e; have : p.cm = w.heap.size := e; omega
  · rintro k (hk | hk)
    · have := h.low k hk; omega
    · omega
  · exact h.tb.keep (U.below (by omega) (by rintro k hk (rfl | rfl); omega; have := h.low _ h.own.2.2.2; omega))
  · exact hmem (fun e q1 _ => h.ki e q1) kinv_new
  · refine hmem (fun e q1 _ => ?_) ?_
    · have := h.ids e q1
      show 0 ≤ e.1 ∧ e.1 < ((x.made + 1 : Nat) : Int)
      omega
    · show 0 ≤ (x.made : Int) ∧ (x.made : Int) < ((x.made + 1 : Nat) : Int)
      omega
  · show (x.K ++ [((x.made : Int), w.heap.size, cxNew)]).length ≤ 4
    simp
    omega
  · rintro k _ (rfl | rfl)
    · exact h.own.1
    · exact h.own.2.2.2
  · rintro k (hk | hk)
    · exact Or.inl hk
    · right; omega

theorem Cm.len {w : World} {cm : Nat} {K : List (Int × Nat)} (h : Cm w cm K) (ty : TypeId) : (Builtin.len_ #[46] ty #[.map (some cm)]).run Tryz.prog w = .ok (.int .i64 K.length) w := by
  obtain ⟨es, clock, h3, h4, _⟩ := h
  have hlen : es.size = K.length := by have := congrArg List.length h4; simpa using this
  simp [Builtin.len_, MapKept.run_getObj_map h3, Result.andThen, hlen]
  rfl

set_option maxHeartbeats 800000 in
set_option maxRecDepth 100000 in
theorem connect_any {N : Nat} {F : Nat → Prop} {Fs : Int → Nat → Prop} {w : World} {S : Nat} {p : Ps} {x : Xs} (h : Hid (Sv N F Fs w S p x)) (hdr : x.dr = false) (hfew : x.K.length < 4) (hmade : x.made ≤ 1000000000) :
    Calls Tryz.prog 9 #[.pointer (some ⟨S, 0, none⟩)] w fun e w' => e = .returned (.tuple #[.int .i64 x.made, .bool true]) ∧ SvX N F w w' S p (x.joined w.heap.size) := by
  have c0 : w.cell? ⟨S, 0, none⟩ = some (.map (some p.cm)) := cell_of_heap h.out.srv.blk 0
  have c1 : w.cell? ⟨S, 1, none⟩ = some (.int .i64 x.made) := cell_of_heap h.out.srv.blk 1
  have c2 : w.cell? ⟨S, 2, none⟩ = some (.bool x.dr) := cell_of_heap h.out.srv.blk 2
  rw [hdr] at c2
  have f1 : w.frozen? ⟨S, 1, none⟩ = false := unfrozen_of_heap h.out.srv.blk 1
  have hlen := fun ty => h.out.cms.len ty
  have hkl : (kmap x.K).length = x.K.length := by unfold kmap; simp
  rw [hkl] at hlen
  obtain ⟨W1, hW1, hs1⟩ := connected h.out hfew rfl
  have HE := hid hs1
  unfold restingV at hW1
  have hmm : ((x.made + 1 : Nat) : Int) = (x.made : Int) + 1 := by omega
  rw [hmm] at hW1
  clear hs1 hkl hmm
  go_enter Tryz.func9, Tryz.ntmps9
  go_wp2
  go_ret2
  exact ⟨rfl, HE.out⟩

set_option maxHeartbeats 800000 in
set_option maxRecDepth 100000 in
theorem connect_no {N : Nat} {F : Nat → Prop} {Fs : Int → Nat → Prop} {w : World} {S : Nat} {p : Ps} {x : Xs} (h : Hid (Sv N F Fs w S p x)) (hno : x.dr = true ∨ 4 ≤ x.K.length) :
    Calls Tryz.prog 9 #[.pointer (some ⟨S, 0, none⟩)] w fun e w' => e = .returned (.tuple #[.int .i64 0, .bool false]) ∧ Same w w' := by
  have c0 : w.cell? ⟨S, 0, none⟩ = some (.map (some p.cm)) := cell_of_heap h.out.srv.blk 0
  have c2 : w.cell? ⟨S, 2, none⟩ = some (.bool x.dr) := cell_of_heap h.out.srv.blk 2
  have hlen := fun ty => h.out.cms.len ty
  have hkl : (kmap x.K).length = x.K.length := by unfold kmap; simp
  rw [hkl] at hlen
  have hfew := h.out.few
  clear hkl
  cases hd : x.dr
  · rw [hd] at c2
    have hl : 4 ≤ x.K.length := by
      rcases hno with h1 | h1
      · rw [hd] at h1; cases h1
      · exact h1
    clear hno hd
    go_enter Tryz.func9, Tryz.ntmps9
    go_wp2
    go_ret2
    exact ⟨rfl, Upd.refl _ _⟩
  · rw [hd] at c2
    clear hno hd
    go_enter Tryz.func9, Tryz.ntmps9
    go_wp2
    go_ret2
    exact ⟨rfl, Upd.refl _ _⟩

end Go.Proofs.YtohoddhegkjehaaGreatDoor
