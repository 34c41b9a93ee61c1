import Derived.Test.YtiiapfkcmdkkoaaGreatDoorQ25
import Derived.Test.YtiiapfkcmdkkoaaGreatDoorQ22
import Derived.Deep.LoopGhost
/-
  New, Connect.
-/
namespace Go.Proofs.YtiiapfkcmdkkoaaGreatDoor
open Go.RowKit Go.MapKept

def xNew : Xs := ⟨[], [], 0, 0, false⟩

theorem news_end {N : Nat} {w w1 w2 : World} {wb : Nat} {G : Nat → Prop} (hT : Hid (Tb N w)) (hN : N ≤ w.heap.size) (hs1 : Sto w1 (w.heap.size + 1 + 1) (w.heap.size + 1) [] 0) (hu1 : Upd (fun _ => False) (w.alloc (.map #[] 0)) w1) (hz1 : w1.heap.size = w.heap.size + 1 + 2)
    (hw : WAt G w2 wb Wst.new) (hu2 : Same w1 w2) (hG : ∀ k, G k → w1.heap.size ≤ k ∧ k < w2.heap.size) :
    Sv N (fun k => w.heap.size ≤ k ∧ k < (w2.alloc (.cells #[.map (some w.heap.size), .int .i64 0, .bool false, .pointer (some ⟨w.heap.size + 1 + 1, 0, none⟩), .pointer (some ⟨wb, 0, none⟩)] 64)).heap.size) (fun _ _ => False) (w2.alloc (.cells #[.map (some w.heap.size), .int .i64 0, .bool false, .pointer (some ⟨w.heap.size + 1 + 1, 0, none⟩), .pointer (some ⟨wb, 0, none⟩)] 64)) w2.heap.size ⟨w.heap.size + 2, w.heap.size + 1, w.heap.size, wb⟩ xNew ∧ Upd (fun _ => False) w (w2.alloc (.cells #[.map (some w.heap.size), .int .i64 0, .bool false, .pointer (some ⟨w.heap.size + 1 + 1, 0, none⟩), .pointer (some ⟨wb, 0, none⟩)] 64)) := by
  have hcm : (w.alloc (.map #[] 0)).heap[w.heap.size]? = some (.map #[] 0) := heap_alloc_new w _
  generalize hW : w2.alloc (.cells #[.map (some w.heap.size), .int .i64 0, .bool false, .pointer (some ⟨w.heap.size + 1 + 1, 0, none⟩), .pointer (some ⟨wb, 0, none⟩)] 64) = W
  have U2 : Same w2 W := by rw [← hW]; exact (Upd.refl _ _).alloc _
  have U12 : Same w1 W := hu2.trans U2
  have U : Same w W := (((Upd.refl _ w).alloc _).trans hu1).trans U12
  have hz : W.heap.size = w2.heap.size + 1 := by rw [← hW]; simp
  have hz2 := hu2.size
  have hnil : ∀ {P : Int × Nat × CX → Prop}, ∀ e ∈ xNew.K, P e := by intro P e he; cases he
  refine ⟨⟨⟨?_, ?_⟩, ⟨#[], 0, ?_, rfl, Born.nil⟩, List.nodup_nil, hnil, hnil, hnil, ⟨?_, ?_, ?_, ?_⟩, hnil, ?_, fun k hk => ⟨by omega, hk.2⟩, hT.out.keep (U.below hN (fun _ _ h => h)), hnil, TInv.nil, hnil, Nat.zero_le _, ⟨G, Wst.new, hw.keep U2 (fun _ _ h => h), WF.new _, hnil, fun k hk => ?_, hnil, ?_, ?_, ?_, ?_⟩, hnil⟩, U⟩
  · rw [← hW]; exact heap_alloc_new w2 _
  · exact hs1.keep U12 (fun h => h) (fun h => h)
  · exact U12.keep (hu1.keep hcm (fun h => h)) (fun h => h)
  · show w.heap.size ≤ w2.heap.size ∧ w2.heap.size < W.heap.size; omega
  · show w.heap.size ≤ w.heap.size + 2 ∧ w.heap.size + 2 < W.heap.size; omega
  · show w.heap.size ≤ w.heap.size + 1 ∧ w.heap.size + 1 < W.heap.size; omega
  · show w.heap.size ≤ w.heap.size ∧ w.heap.size < W.heap.size; omega
  · show w.heap.size ≠ w.heap.size + 1; omega
  · have := hG k hk
    show w.heap.size ≤ k ∧ k < W.heap.size
    omega
  · intro e; have := hG _ e; omega
  · intro e; have := hG _ e; have : w1.heap.size ≤ w.heap.size + 2 := (hG _ e).1; omega
  · intro e; have : w1.heap.size ≤ w.heap.size + 1 := (hG _ e).1; omega
  · intro e; have : w1.heap.size ≤ w.heap.size := (hG _ e).1; omega

set_option maxHeartbeats 800000 in
set_option maxRecDepth 100000 in
theorem new_any (N : Nat) (w : World) (hT : Hid (Tb N w)) (hN : N ≤ w.heap.size) :
    Calls Tryz.prog 9 #[] w fun e w' => ∃ S p, e = .returned (.pointer (some ⟨S, 0, none⟩)) ∧ Sv N (fun k => w.heap.size ≤ k ∧ k < w'.heap.size) (fun _ _ => False) w' S p xNew ∧ Upd (fun _ => False) w w' := by
  have hmk : ∀ W : World, (Instr.makeMap 55 none).run Tryz.prog W = .ok (.map (some W.heap.size)) (W.alloc (.map #[] 0)) := fun W => by simp [Instr.makeMap, Result.andThen]
  go_enter Tryz.func9, Tryz.ntmps9
  go_wp2_with fail
  refine (storeNew_any _).mono ?_
  rintro e w1 ⟨rfl, hs1, hu1, hz1⟩
  have hsz : (w.alloc (.map #[] 0)).heap.size = w.heap.size + 1 := by simp
  rw [hsz] at hs1 hz1
  rw [hsz]
  have HS1 := hid hs1
  have HU1 := hid hu1
  have HZ1 := hid hz1
  clear hs1 hu1 hz1 hsz
  go_wp2_with fail
  refine (wnew_any w1).mono ?_
  rintro e w2 ⟨wb, G, rfl, hw, hu2, hG⟩
  have HE := hid (news_end hT hN HS1.out HU1.out HZ1.out hw hu2 hG)
  clear hw hu2 hG HS1 HU1 HZ1
  go_wp2
  go_ret
  exact ⟨w2.heap.size, _, rfl, HE.out.1, HE.out.2⟩

def cxAt (id : Int) : CX := ⟨0, RS.start, [], [], id⟩
def cxNew : CX := cxAt 0
theorem kinv_at (id : Int) : KInv (cxAt id) := ⟨⟨RInv.start, (by show RS.start.tag ≠ 0; decide), Nat.zero_le _⟩, Nat.zero_le _, fun hne => absurd rfl hne, Nat.zero_le _⟩
def Xs.joined (x : Xs) (c : Nat) : Xs := { x with K := x.K ++ [((x.made : Int), c, cxAt x.made)], made := x.made + 1 }

theorem aidx_none (K : List (Int × Nat)) (a : Int) (h : ∀ e ∈ K, e.1 ≠ a) : aidx K a = K.length := by
  unfold aidx
  rw [List.findIdx_eq_length]
  intro e he
  have := h e he
  simpa using this
theorem aput_new (K : List (Int × Nat)) (a : Int) (c : Nat) (h : ∀ e ∈ K, e.1 ≠ a) : aput K a c = K ++ [(a, c)] := by
  unfold aput
  rw [aidx_none K a h, if_neg (Nat.lt_irrefl _)]

/-- A connection is made; its deadlines are to stand. -/
theorem connected {N : Nat} {F : Nat → Prop} {Fs : Int → Nat → Prop} {w W0 : World} {S : Nat} {p : Ps} {x : Xs} (h : Sv N F Fs w S p x) (hfew : x.K.length < 4) {G : Nat → Prop} {W : Wst} (hw : WSv F Fs w S p x.K G W) (hW0 : W0 = ((w.setCell ⟨S, 1, none⟩ (.int .i64 (x.made + 1 : Nat))).alloc (.cells #[restingV, .int .i64 x.made, .slice none 0 0, .slice none 0 0] 77)).drew) :
    ∃ W1, (Instr.mapUpdate 55 (.map (some p.cm)) (.int .i64 x.made) (.pointer (some ⟨w.heap.size, 0, none⟩))).run Tryz.prog W0 = .ok () W1 ∧
      Calls Tryz.prog 27 #[.pointer (some ⟨S, 0, none⟩), .pointer (some ⟨w.heap.size, 0, none⟩)] W1 fun e w2 => e = .returned (.tuple #[]) ∧ (w2.cell? ⟨w.heap.size, 1, none⟩ = some (.int .i64 x.made) ∧ SvX N F w w2 S p (x.joined w.heap.size)) := by
  have hSl := lt_of_heap h.srv.blk
  have U0 : Upd (fun k => k = S) w W0 := by rw [hW0]; exact ((Upd.one w S 1 _).alloc _).drew
  have hbc : W0.heap[w.heap.size]? = some (.cells #[restingV, .int .i64 x.made, .slice none 0 0, .slice none 0 0] 77 (0, 0)) := by
    have := heap_alloc_new (w.setCell ⟨S, 1, none⟩ (.int .i64 (x.made + 1 : Nat))) (.cells #[restingV, .int .i64 x.made, .slice none 0 0, .slice none 0 0] 77)
    rw [size_setCell] at this
    rw [hW0]; exact this
  have hbS : W0.heap[S]? = some (.cells #[.map (some p.cm), .int .i64 (x.made + 1 : Nat), .bool x.dr, .pointer (some ⟨p.s, 0, none⟩), .pointer (some ⟨p.wb, 0, none⟩)] 64 (0, 0)) := by
    have := heap_setCell h.srv.blk 1 (.int .i64 (x.made + 1 : Nat))
    rw [hW0]
    exact (heap_alloc_old (w.setCell ⟨S, 1, none⟩ (.int .i64 (x.made + 1 : Nat))) _ (by rw [size_setCell]; exact hSl)).trans (by simpa using this)
  have hz : W0.heap.size = w.heap.size + 1 := by
    rw [hW0]
    show ((w.setCell ⟨S, 1, none⟩ (.int .i64 (x.made + 1 : Nat))).alloc (.cells #[restingV, .int .i64 x.made, .slice none 0 0, .slice none 0 0] 77)).heap.size = _
    simp
  obtain ⟨es, clock, hb, he, hbo⟩ := h.cms
  have hne2 := h.nes.1
  have hne1 := h.nes.2
  have hns : p.s ≠ S := fun e => by have := h.srv.sto.blk; rw [e, h.srv.blk] at this; simp at this
  have hnm : p.m ≠ S := fun e => by obtain ⟨es', cl', h3, _⟩ := h.srv.sto.map; rw [e, h.srv.blk] at h3; simp at h3
  have hb0 : W0.heap[p.cm]? = some (.map es clock) := U0.keep hb hne1
  have hfresh : ∀ e ∈ kmap x.K, e.1 ≠ (x.made : Int) := by
    intro e he
    obtain ⟨f, hf, rfl⟩ := List.mem_map.1 he
    have := h.ids f hf
    show f.1 ≠ _
    omega
  have hfreshK : ∀ e ∈ x.K, e.1 ≠ (x.made : Int) := fun e he => by have := h.ids e he; omega
  obtain ⟨es', clock', h5, h6⟩ := run_update_born (P := Tryz.prog) (w := W0) (vv := ptrV) Tryz.und55 Tryz.und3' int_key int_inj hb0 he hbo (x.made : Int) w.heap.size
  rw [aput_new _ _ _ hfresh] at h6
  refine ⟨_, h5, ?_⟩
  have U1 : Upd (fun k => k = p.cm) W0 { W0 with heap := W0.heap.setIfInBounds p.cm (.map es' clock') } := Upd.setObj _
  have hcm1 : ({ W0 with heap := W0.heap.setIfInBounds p.cm (.map es' clock') } : World).heap[p.cm]? = some (.map es' clock') := (MapKept.heap_set hb0 (o' := .map es' clock')).1
  generalize hW1 : ({ W0 with heap := W0.heap.setIfInBounds p.cm (.map es' clock') } : World) = W1 at U1 hcm1
  have U : Upd (fun k => k = S ∨ k = p.cm) w W1 := (U0.mono (fun _ _ h => Or.inl h)).trans (U1.mono (fun _ _ h => Or.inr h))
  have hcml := lt_of_heap hb
  have hz1 := U1.size
  have hS := h.low S h.own.1
  have hGlt := hw.at_.lt
  have hGn : ¬ G w.heap.size := fun e => by have := hGlt _ e; omega
  have hbS1 : W1.heap[S]? = _ := U1.keep hbS (fun e => hne1 e.symm)
  have hbc1 : W1.heap[w.heap.size]? = _ := U1.keep hbc (by show ¬ w.heap.size = p.cm; omega)
  have hcn1 : Cn (fun k => k = w.heap.size) W1 w.heap.size (cxAt x.made) restingV (.slice none 0 0) (.slice none 0 0) := by
    refine ⟨hbc1, Row.nil _, Row.nil _, ?_, rfl, ?_, ?_, ?_, Or.inl ⟨rfl, rfl⟩⟩
    · intro k hk; cases hk
    · intro k hk; cases hk
    · intro k hk; cases hk
    · rintro k rfl; exact lt_of_heap hbc1
  have hwf : WF ((x.joined w.heap.size).K.map (·.1)) W := hw.wf.mono (fun i hi => by
    show i ∈ (x.K ++ [((x.made : Int), w.heap.size, cxAt x.made)]).map (·.1)
    rw [List.map_append]
    exact List.mem_append_left _ hi)
  have hIn : (cxAt x.made).id ∈ (x.joined w.heap.size).K.map (·.1) := by
    show (x.made : Int) ∈ (x.K ++ [((x.made : Int), w.heap.size, cxAt x.made)]).map (·.1)
    simp
  have hW1G : WAt G W1 p.wb W := hw.at_.keep U (by
    rintro k hk (rfl | rfl)
    · exact hw.gS.1 hk
    · exact hw.gS.2.2.2 hk)
  refine (settle_any (hid hcn1) (hid ⟨lt_of_heap hbS1, cell_of_heap hbS1 4⟩) (hid hW1G) (hid hwf) (hid hIn) (by
      rw [List.length_map]
      show (x.K ++ [((x.made : Int), w.heap.size, cxAt x.made)]).length ≤ 1000
      simp; omega) (hid hw.gS.1) (hid hGn) (hid fun X hX => ?_)).mono ?_
  · refine (h.tb X ?_).2
    have UX : Upd (fun k => (k = S ∨ k = p.cm) ∨ G k) w X := (U.mono (fun _ _ h => Or.inl h)).trans (hX.mono (fun _ _ h => Or.inr h))
    refine UX.below (by omega) ?_
    rintro k hk ((rfl | rfl) | h1)
    · omega
    · have := h.low _ h.own.2.2.2; omega
    · have := h.low _ (hw.gF k h1); omega
  rintro e w2 ⟨rfl, G2, k1, k2, k3⟩
  obtain ⟨q1, q2, q3⟩ := hwf.settleN hIn (cxAt x.made) 4 (Nat.le_refl _)
  have hz2 := k2.size
  have hcn2 : Cn (fun k => k = w.heap.size) w2 w.heap.size (cxAt x.made) restingV (.slice none 0 0) (.slice none 0 0) := hcn1.keep k2 (by rintro k rfl; exact hGn)
  have U3 : Upd (fun k => k = S ∨ k = p.cm ∨ G k) w w2 := (U.mono (fun k _ h => h.elim Or.inl (fun h => Or.inr (Or.inl h)))).trans (k2.mono (fun _ _ h => Or.inr (Or.inr h)))
  have hmem : ∀ {P : Int × Nat × CX → Prop}, (∀ e ∈ x.K, e.1 ≠ (x.made : Int) → P e) → P ((x.made : Int), w.heap.size, cxAt x.made) → ∀ e ∈ (x.joined w.heap.size).K, P e := by
    intro P ha hb e he
    rcases List.mem_append.1 he with h1 | h1
    · exact ha e h1 (hfreshK e h1)
    · have : e = ((x.made : Int), w.heap.size, cxAt x.made) := by simpa using h1
      rw [this]; exact hb
  have hGo : ∀ k, k < w.heap.size → ¬ G k → ¬ G2 k := fun k hk hn e => by
    rcases k3 k e with h4 | h4
    · exact hn h4
    · omega
  have hG2n : ¬ G2 w.heap.size := fun e => by
    rcases k3 _ e with h4 | h4
    · exact hGn h4
    · omega
  have hlt : ∀ f ∈ x.K, ∀ k, Fs f.1 k → k < w.heap.size := fun f hf k hk => (h.low k (h.sub f hf k hk)).2
  let Fs' : Int → Nat → Prop := fun j => if j = (x.made : Int) then (fun k => k = w.heap.size) else Fs j
  have e1 : Fs' (x.made : Int) = (fun k => k = w.heap.size) := if_pos rfl
  have e2 : ∀ j, j ≠ (x.made : Int) → Fs' j = Fs j := fun j hj => if_neg hj
  refine ⟨rfl, cell_of_heap hcn2.blk 1, fun k => F k ∨ (w.heap.size ≤ k ∧ k < w2.heap.size), Fs', ⟨⟨?_, ?_⟩, ⟨es', clock', k2.keep hcm1 hw.gS.2.2.2, ?_⟩, ?_, ?_, ?_, ?_, ⟨Or.inl h.own.1, Or.inl h.own.2.1, Or.inl h.own.2.2.1, Or.inl h.own.2.2.2⟩, ?_, h.ne, ?_, ?_, ?_, h.ti, ?_, ?_, ⟨G2, _, k1, q1, ?_, ?_, ?_, ?_⟩, ?_⟩, U3.mono ?_, fun k hk => hk⟩
  · exact k2.keep hbS1 hw.gS.1
  · exact h.srv.sto.keep U3 (by rintro (e | e | e); exact hns e; exact hne2 e.symm; exact hw.gS.2.1 e) (by rintro (e | e | e); exact hnm e; exact h.ne e.symm; exact hw.gS.2.2.1 e)
  · have : kmap (x.joined w.heap.size).K = kmap x.K ++ [((x.made : Int), w.heap.size)] := by unfold kmap Xs.joined; simp
    rw [this]; exact h6
  · show ((x.K ++ [((x.made : Int), w.heap.size, cxAt x.made)]).map (·.1)).Nodup
    rw [List.map_append]
    refine List.nodup_append.2 ⟨h.nd, by simp, ?_⟩
    intro a ha b hb
    obtain ⟨f, hf, rfl⟩ := List.mem_map.1 ha
    have : b = (x.made : Int) := by simpa using hb
    rw [this]
    exact hfreshK f hf
  · refine hmem (fun e q1 q2 => ?_) ?_
    · rw [e2 _ q2]
      obtain ⟨dv, uv, ov, hc⟩ := h.cn e q1
      refine ⟨dv, uv, ov, hc.keep U3 ?_⟩
      rintro k hk (rfl | rfl | h1)
      · exact (h.off e q1).1 hk
      · exact (h.off e q1).2.2.2 hk
      · exact hw.gd e q1 k hk h1
    · simp only
      rw [e1]
      exact ⟨_, _, _, hcn2⟩
  · refine hmem (fun e q1 q2 => ?_) ?_
    · rw [e2 _ q2]; exact fun k hk => Or.inl (h.sub e q1 k hk)
    · simp only
      rw [e1]; rintro k rfl; right; omega
  · refine hmem (fun e q1 q2 => hmem (fun f q4 q5 => ?_) ?_) (hmem (fun f q4 q5 => ?_) ?_)
    · intro hne k; rw [e2 _ q2, e2 _ q5]; exact h.dis e q1 f q4 hne k
    · intro _ k; simp only; rw [e2 _ q2, e1]; intro a b; have := hlt e q1 k a; have b' : k = w.heap.size := b; omega
    · intro _ k; simp only; rw [e1, e2 _ q5]; intro a b; have := hlt f q4 k b; have a' : k = w.heap.size := a; omega
    · intro hne; exact absurd rfl hne
  · refine hmem (fun e q1 q2 => ?_) ?_
    · rw [e2 _ q2]; exact h.off e q1
    · simp only
      rw [e1]
      refine ⟨?_, ?_, ?_, ?_⟩
      · intro e; have : S = w.heap.size := e; omega
      · intro e; have := (h.low p.s h.own.2.1).2; have : p.s = w.heap.size := e; omega
      · intro e; have := (h.low p.m h.own.2.2.1).2; have : p.m = w.heap.size := e; omega
      · intro e; have : p.cm = w.heap.size := e; omega
  · rintro k (hk | hk)
    · have := h.low k hk; omega
    · omega
  · exact h.tb.keep (U3.below (by omega) (by rintro k hk (rfl | rfl | h1); omega; have := h.low _ h.own.2.2.2; omega; have := h.low _ (hw.gF k h1); omega))
  · exact hmem (fun e q1 _ => h.ki e q1) (kinv_at _)
  · refine hmem (fun e q1 _ => ?_) ?_
    · have := h.ids e q1
      show 0 ≤ e.1 ∧ e.1 < ((x.made + 1 : Nat) : Int)
      omega
    · show 0 ≤ (x.made : Int) ∧ (x.made : Int) < ((x.made + 1 : Nat) : Int)
      omega
  · show (x.K ++ [((x.made : Int), w.heap.size, cxAt x.made)]).length ≤ 4
    simp
    omega
  · refine hmem (fun e q4 q5 => ?_) q3
    intro i hi
    rw [q2.2 (e.1, (i : Int)) q5]
    exact hw.set e q4 i hi
  · intro k hk
    rcases k3 k hk with h4 | h4
    · exact Or.inl (hw.gF k h4)
    · right; omega
  · refine hmem (fun e q4 q5 => ?_) ?_
    · rw [e2 _ q5]
      exact fun k hk => hGo k (hlt e q4 k hk) (hw.gd e q4 k hk)
    · simp only
      rw [e1]
      rintro k rfl
      exact hG2n
  · exact ⟨hGo _ (h.low _ h.own.1).2 hw.gS.1, hGo _ (h.low _ h.own.2.1).2 hw.gS.2.1, hGo _ (h.low _ h.own.2.2.1).2 hw.gS.2.2.1, hGo _ (h.low _ h.own.2.2.2).2 hw.gS.2.2.2⟩
  · exact hmem (fun e q4 _ => h.idk e q4) rfl
  · rintro k _ (rfl | rfl | h1)
    · exact h.own.1
    · exact h.own.2.2.2
    · exact hw.gF k h1

theorem Cm.len {w : World} {cm : Nat} {K : List (Int × Nat)} (h : Cm w cm K) (ty : TypeId) : (Builtin.len_ #[55] ty #[.map (some cm)]).run Tryz.prog w = .ok (.int .i64 K.length) w := by
  obtain ⟨es, clock, h3, h4, _⟩ := h
  have hlen : es.size = K.length := by have := congrArg List.length h4; simpa using this
  simp [Builtin.len_, MapKept.run_getObj_map h3, Result.andThen, hlen]
  rfl

set_option maxHeartbeats 800000 in
set_option maxRecDepth 100000 in
theorem connect_any {N : Nat} {F : Nat → Prop} {Fs : Int → Nat → Prop} {w : World} {S : Nat} {p : Ps} {x : Xs} (h : Hid (Sv N F Fs w S p x)) (hdr : x.dr = false) (hfew : x.K.length < 4) (hmade : x.made ≤ 1000000000) :
    Calls Tryz.prog 10 #[.pointer (some ⟨S, 0, none⟩)] w fun e w' => e = .returned (.tuple #[.int .i64 x.made, .bool true]) ∧ SvX N F w w' S p (x.joined w.heap.size) := by
  have c0 : w.cell? ⟨S, 0, none⟩ = some (.map (some p.cm)) := cell_of_heap h.out.srv.blk 0
  have c1 : w.cell? ⟨S, 1, none⟩ = some (.int .i64 x.made) := cell_of_heap h.out.srv.blk 1
  have c2 : w.cell? ⟨S, 2, none⟩ = some (.bool x.dr) := cell_of_heap h.out.srv.blk 2
  rw [hdr] at c2
  have f1 : w.frozen? ⟨S, 1, none⟩ = false := unfrozen_of_heap h.out.srv.blk 1
  have hSl := lt_of_heap h.out.srv.blk
  have hlen := fun ty => h.out.cms.len ty
  have hkl : (kmap x.K).length = x.K.length := by unfold kmap; simp
  rw [hkl] at hlen
  obtain ⟨G, W, hw⟩ := h.out.wh
  obtain ⟨W1, hW1, hs1⟩ := connected h.out hfew hw rfl
  have HE := hid hs1
  unfold restingV at hW1
  have hmm : ((x.made + 1 : Nat) : Int) = (x.made : Int) + 1 := by omega
  rw [hmm] at hW1
  clear hs1 hkl hmm hw
  go_enter Tryz.func10, Tryz.ntmps10
  go_wp2_with fail
  go_region
  all_goals
    go_wp2_with fail
    refine HE.out.mono ?_
    rintro e w2 ⟨rfl, hc2, hsv⟩
    have HS := hid hsv
    clear hsv HE hW1
    go_wp2
    go_ret2
    exact ⟨rfl, HS.out⟩

set_option maxHeartbeats 800000 in
set_option maxRecDepth 100000 in
theorem connect_no {N : Nat} {F : Nat → Prop} {Fs : Int → Nat → Prop} {w : World} {S : Nat} {p : Ps} {x : Xs} (h : Hid (Sv N F Fs w S p x)) (hno : x.dr = true ∨ 4 ≤ x.K.length) :
    Calls Tryz.prog 10 #[.pointer (some ⟨S, 0, none⟩)] w fun e w' => e = .returned (.tuple #[.int .i64 0, .bool false]) ∧ Same w w' := by
  have c0 : w.cell? ⟨S, 0, none⟩ = some (.map (some p.cm)) := cell_of_heap h.out.srv.blk 0
  have c2 : w.cell? ⟨S, 2, none⟩ = some (.bool x.dr) := cell_of_heap h.out.srv.blk 2
  have hlen := fun ty => h.out.cms.len ty
  have hkl : (kmap x.K).length = x.K.length := by unfold kmap; simp
  rw [hkl] at hlen
  have hfew := h.out.few
  clear hkl
  cases hd : x.dr
  · rw [hd] at c2
    have hl : 4 ≤ x.K.length := by
      rcases hno with h1 | h1
      · rw [hd] at h1; cases h1
      · exact h1
    clear hno hd
    go_enter Tryz.func10, Tryz.ntmps10
    go_wp2
    go_ret2
    exact ⟨rfl, Upd.refl _ _⟩
  · rw [hd] at c2
    clear hno hd
    go_enter Tryz.func10, Tryz.ntmps10
    go_wp2
    go_ret2
    exact ⟨rfl, Upd.refl _ _⟩

end Go.Proofs.YtiiapfkcmdkkoaaGreatDoor

/-
  held, kept; the store's Used.
-/
namespace Go.Proofs.YtiiapfkcmdkkoaaGreatDoor
open Go.RowKit Go.MapKept

set_option maxHeartbeats 400000 in
theorem restingHeld (w : World) : Calls Tryz.prog 164 #[.agg #[]] w fun e w' => e = .returned (.int .i64 0) ∧ Same w w' := by
  go_enter Tryz.func164, Tryz.ntmps164
  go_wp2
  go_ret
  exact ⟨rfl, by first | exact Upd.refl _ w | exact (Upd.refl _ w).alloc _⟩
set_option maxHeartbeats 400000 in
theorem leavingHeld (w : World) : Calls Tryz.prog 237 #[.agg #[]] w fun e w' => e = .returned (.int .i64 0) ∧ Same w w' := by
  go_enter Tryz.func237, Tryz.ntmps237
  go_wp2
  go_ret
  exact ⟨rfl, by first | exact Upd.refl _ w | exact (Upd.refl _ w).alloc _⟩
set_option maxHeartbeats 400000 in
theorem count_any {F : Nat → Prop} {w : World} {r : Nat} {σ : RS} (h : Hid (Rd F w r σ)) : Calls Tryz.prog 240 #[.pointer (some ⟨r, 0, none⟩)] w fun e w' => e = .returned (.int .i64 σ.count) ∧ Same w w' := by
  obtain ⟨sv, ⟨R, hB⟩, _⟩ := h.out
  have c1 : w.cell? ⟨r, 1, none⟩ = some (.int .i64 σ.count) := hB.cell 1
  clear hB
  go_enter Tryz.func240, Tryz.ntmps240
  go_wp2
  go_ret
  exact ⟨rfl, Upd.refl _ w⟩
set_option maxHeartbeats 400000 in
theorem readingHeld {F : Nat → Prop} {w : World} {r : Nat} {σ : RS} (h : Hid (Rd F w r σ)) : Calls Tryz.prog 241 #[.agg #[.pointer (some ⟨r, 0, none⟩)]] w fun e w' => e = .returned (.int .i64 σ.count) ∧ Same w w' := by
  have hU0 : Same w (w.alloc (.cells #[.pointer (some ⟨r, 0, none⟩)] 141)) := (Upd.refl _ w).alloc _
  have HC : Hid (∀ W, Same w W → Calls Tryz.prog 240 #[.pointer (some ⟨r, 0, none⟩)] W fun e w' => e = .returned (.int .i64 σ.count) ∧ Same W w') := fun W hW => count_any (hid (h.out.keep hW (fun _ _ h => h)))
  have HU0 := hid hU0
  clear hU0
  go_enter Tryz.func241, Tryz.ntmps241
  go_wp2_with fail
  refine Calls.mono (HC.out _ (by first | exact HU0.out | exact Upd.refl _ _)) ?_
  rintro e w1 ⟨rfl, hu1⟩
  have HU1 : Hid (Same w w1) := by first | exact HU0.out.trans hu1 | exact hu1
  clear hu1
  go_wp2
  go_ret
  exact ⟨rfl, HU1.out⟩

/-- A call of a method of an interface's value, without arguments, as one step of a region that draws. -/
theorem step_invoke0 {ops : Array Oper} {o : Oper} {a : Act} {w : World} {K : Act → World → Prop} {Q : Exit → Act → World → Prop} {E : Prop} {f : Nat} {ty : TypeId} {rv : Value} {nm : String} {ts : Array TypeId} (R : Value → World → Prop)
    (hg : o.guard = none) (x : Operand) (hop : o.op = Op.call { callee := Callee.invoke x nm, args := #[], argTypes := ts }) (hx : a.eval x = .iface ty rv) (hm : ∀ W : World, (method 395 ty rv nm).run Tryz.prog W = .ok (f, rv) W) (hent : Ent f)
    (hc : Calls Tryz.prog f #[rv] w fun e w' => ∃ r, e = .returned r ∧ R r w') (hK : ∀ r w', R r w' → K (a.put o.dst r) w') :
    if Region.wanted o (yielded ops a.tmps) = true then Oper.wp Tryz.prog o a w K Q else E := by
  have hw : Region.wanted o (yielded ops a.tmps) = true := by simp [Region.wanted, hg]
  rw [if_pos hw]
  have hrun : (execOp a.eval o).run Tryz.prog w = .ok (.enter f #[rv]) w := by
    have he := hent #[rv] w
    have hm' := hm w
    have hcm : (callMethod (.iface ty rv) nm #[]).run Tryz.prog w = .ok (.enter f #[rv]) w := by
      simp [callMethod, Made.depth, hm', he, Result.andThen]
    simp [execOp, hop, resolve, invoke, hx, hcm]
  unfold Oper.wp
  rw [hrun, Oper.upon_enter]
  refine hc.mono ?_
  rintro e w' ⟨r, rfl, hR⟩
  exact hK r w' hR
theorem ent63 : Ent 63 := enters_of Tryz.func63 (by kernel_rfl) rfl

/-- What a connection keeps of a request that is not over. -/
def CX.held (x : CX) : Nat := if x.kind = 1 then x.σ.count else 0
def CX.kept (x : CX) : Nat := x.held + x.unread.length + x.out.length

def Hel (w : World) (dv : Value) (n : Nat) : Prop := ∃ ty rv f, dv = .iface ty rv ∧ (∀ W : World, (method 395 ty rv "hearth/hearth.held").run Tryz.prog W = .ok (f, rv) W) ∧ Ent f ∧ ∀ W, Same w W → Calls Tryz.prog f #[rv] W fun e w' => e = .returned (.int .i64 n) ∧ Same W w'
theorem held_calls {F : Nat → Prop} {w : World} {c : Nat} {x : CX} {dv uv ov : Value} (h : Cn F w c x dv uv ov) : Hel w dv x.held := by
  unfold CX.held
  rcases h.doing with ⟨h1, rfl⟩ | ⟨h1, h2, h3, r, Fr, rfl, h5, h6⟩ | ⟨h1, rfl⟩
  · rw [if_neg (by omega)]
    exact ⟨_, _, 164, rfl, fun W => by kernel_rfl, enters_of Tryz.func164 (by kernel_rfl) rfl, fun W _ => restingHeld W⟩
  · rw [if_pos h1]
    exact ⟨_, _, 241, rfl, fun W => by cases x.σ.headOver <;> kernel_rfl, enters_of Tryz.func241 (by kernel_rfl) rfl, fun W hW => readingHeld (hid (h5.keep hW (fun _ _ h => h)))⟩
  · rw [if_neg (by omega)]
    exact ⟨_, _, 237, rfl, fun W => by kernel_rfl, enters_of Tryz.func237 (by kernel_rfl) rfl, fun W _ => leavingHeld W⟩

set_option maxHeartbeats 800000 in
set_option maxRecDepth 100000 in
theorem kept_any {F : Nat → Prop} {w : World} {c : Nat} {x : CX} {dv uv ov : Value} (h : Hid (Cn F w c x dv uv ov)) (h1 : x.held ≤ 1000000) (h2 : x.unread.length ≤ 1000000) (h3 : x.out.length ≤ 1000000) :
    Calls Tryz.prog 39 #[.pointer (some ⟨c, 0, none⟩)] w fun e w' => e = .returned (.int .i64 x.kept) ∧ Same w w' := by
  obtain ⟨c0, c1, c2, c3, f0, f1, f2, f3⟩ := h.out.blk'
  obtain ⟨ty, rv, f, rfl, hm, hent, hc⟩ := held_calls h.out
  have HC := hid hc
  have HK : Hid ((x.kept : Int) = x.held + x.unread.length + x.out.length) := by show _ = _; unfold CX.kept; omega
  clear hc
  rw [HK.out]
  generalize x.held = n at *
  have HS1 : Hid (∀ W, Same w W → Calls Tryz.prog 63 #[.pointer (some ⟨c, 2, none⟩)] W fun e w' => e = .returned (.int .i64 x.unread.length) ∧ Same W w') := fun W hW => qsize_any (hid (h.out.keep hW (fun _ _ h => h)).quUn)
  have HS2 : Hid (∀ W, Same w W → Calls Tryz.prog 63 #[.pointer (some ⟨c, 3, none⟩)] W fun e w' => e = .returned (.int .i64 x.out.length) ∧ Same W w') := fun W hW => qsize_any (hid (h.out.keep hW (fun _ _ h => h)).quOut)
  have HC1 := hid (Calls.ret (HC.out w.drew (Upd.refl _ w).drew))
  clear HC
  generalize x.unread.length = lu at *
  generalize x.out.length = lo at *
  go_enter Tryz.func39, Tryz.ntmps39
  go_wp2_with fail
  go_region_law (
    (first
      | (refine step_invoke0 (ty := ty) (rv := rv) _ rfl (.tmp 6) rfl (by first | rfl | simp [Act.eval]) hm hent HC1.out ?_
         rintro r w1 ⟨rfl, hu⟩
         have hu1 : Same w w1 := (Upd.refl _ w).drew.trans hu
         have HU1 := hid hu1
         have HQ1 := hid (Calls.ret (HS1.out w1 hu1))
         clear hu hu1)
      | (refine step_call1 (v := .pointer (some ⟨c, 2, none⟩)) _ rfl (.tmp 11) rfl ent63 (by first | rfl | simp [Act.eval]) HQ1.out ?_
         rintro r w2 ⟨rfl, hu⟩
         have hu2 : Same w w2 := HU1.out.trans hu
         have HU2 := hid hu2
         have HQ2 := hid (Calls.ret (HS2.out w2 hu2))
         clear hu hu2)
      | (refine step_call1 (v := .pointer (some ⟨c, 3, none⟩)) _ rfl (.tmp 17) rfl ent63 (by first | rfl | simp [Act.eval]) HQ2.out ?_
         rintro r w3 ⟨rfl, hu⟩
         have HU3 := hid (HU2.out.trans hu)
         clear hu)))
  all_goals
    go_wp2
    go_ret
    exact ⟨by first | rfl | exact ret_int (by rw [IntWalk.i64_in (↑n + ↑lu) (by omega), IntWalk.i64_in _ (by omega)]), HU3.out⟩

set_option maxHeartbeats 400000 in
theorem storeUsed_any {w : World} {s m : Nat} {L : Texts} {u : Int} (h : Hid (Sto w s m L u)) : Calls Tryz.prog 38 #[.pointer (some ⟨s, 0, none⟩)] w fun e w' => e = .returned (.int .i64 u) ∧ Same w w' := by
  have c1 : w.cell? ⟨s, 1, none⟩ = some (.int .i64 u) := cell_of_heap h.out.blk 1
  go_enter Tryz.func38, Tryz.ntmps38
  go_wp2
  go_ret
  exact ⟨rfl, Upd.refl _ w⟩

end Go.Proofs.YtiiapfkcmdkkoaaGreatDoor

/-
  Used.
-/
namespace Go.Proofs.YtiiapfkcmdkkoaaGreatDoor
open Go.RowKit Go.MapKept

def sumSeen (f : MapEntry → Int) : List MapEntry → Array Nat → Int
  | [], _ => 0
  | x :: l, seen => (if seen.contains x.born then f x else 0) + sumSeen f l seen
def withVal (f : MapEntry → Int) (e : MapEntry) : MapEntry := { e with val := .int .i64 (f e) }
theorem sumSeen_eq (f : MapEntry → Int) (seen : Array Nat) : ∀ l : List MapEntry, sumSeen f l seen = seenSum (l.map (withVal f)) seen
  | [] => rfl
  | x :: l => by simp only [sumSeen, List.map_cons, seenSum, sumSeen_eq f seen l]; rfl
theorem withVal_born (f : MapEntry → Int) (l : List MapEntry) : (l.map (withVal f)).map (·.born) = l.map (·.born) := by
  rw [List.map_map]; rfl
theorem sumSeen_push (f : MapEntry → Int) (l : List MapEntry) (seen : Array Nat) (hn : (l.map (·.born)).Nodup) {e : MapEntry} (he : e ∈ l) (hs : seen.contains e.born = false) : sumSeen f l (seen.push e.born) = sumSeen f l seen + f e := by
  rw [sumSeen_eq, sumSeen_eq]
  have := seenSum_push seen (withVal f e) hs (l.map (withVal f)) (by rw [withVal_born]; exact hn) (List.mem_map.2 ⟨e, he, rfl⟩)
  exact this
theorem sumSeen_none (f : MapEntry → Int) (l : List MapEntry) : sumSeen f l #[] = 0 := by rw [sumSeen_eq]; exact seenSum_none _
theorem sumSeen_full (f : MapEntry → Int) (seen : Array Nat) : ∀ (l : List MapEntry), (∀ x ∈ l, seen.contains x.born = true) → sumSeen f l seen = (l.map f).sum
  | [], _ => rfl
  | x :: l, h => by
    simp only [sumSeen, h x (List.mem_cons.2 (Or.inl rfl)), if_true, List.map_cons, List.sum_cons, sumSeen_full f seen l (fun y hy => h y (List.mem_cons.2 (Or.inr hy)))]
theorem sumSeen_le (f : MapEntry → Int) (seen : Array Nat) : ∀ (l : List MapEntry), (∀ x ∈ l, 0 ≤ f x) → 0 ≤ sumSeen f l seen ∧ sumSeen f l seen ≤ (l.map f).sum
  | [], _ => by simp [sumSeen]
  | x :: l, h => by
    have ih := sumSeen_le f seen l (fun y hy => h y (List.mem_cons.2 (Or.inr hy)))
    have := h x (List.mem_cons.2 (Or.inl rfl))
    simp only [sumSeen, List.map_cons, List.sum_cons]
    split <;> omega

/-- What the connection of a key keeps. -/
def keyKept (K : Ks) : Value → Int
  | .int _ id => match aget K id with | some q => (q.2.kept : Int) | none => 0
  | _ => 0
def keptSum (K : Ks) : Int := (K.map fun e => (e.2.2.kept : Int)).sum

theorem ents_keys {es : Array MapEntry} {K : Ks} (he : Ents (Value.int .i64) ptrV es (kmap K)) : es.toList.map (·.key) = K.map (fun e => Value.int .i64 e.1) := by
  have := congrArg (List.map Prod.fst) he
  rw [List.map_map, List.map_map] at this
  unfold kmap at this
  rw [List.map_map] at this
  exact this
theorem sum_keys {es : Array MapEntry} {K : Ks} (he : Ents (Value.int .i64) ptrV es (kmap K)) (hn : (K.map (·.1)).Nodup) : (es.toList.map (fun e => keyKept K e.key)).sum = keptSum K := by
  have h1 : es.toList.map (fun e => keyKept K e.key) = (es.toList.map (·.key)).map (keyKept K) := by rw [List.map_map]; rfl
  rw [h1, ents_keys he, List.map_map]
  unfold keptSum
  congr 1
  apply List.map_congr_left
  intro e hm
  show keyKept K (.int .i64 e.1) = _
  unfold keyKept
  simp only
  rw [mem_aget hn hm]
theorem ents_entry {es : Array MapEntry} {K : Ks} (he : Ents (Value.int .i64) ptrV es (kmap K)) {e : MapEntry} (hm : e ∈ es.toList) : ∃ k ∈ K, e.key = .int .i64 k.1 ∧ e.val = .pointer (some ⟨k.2.1, 0, none⟩) := by
  have : (e.key, e.val) ∈ (kmap K).map (fun p => (Value.int .i64 p.1, ptrV p.2)) := by rw [← he]; exact List.mem_map.2 ⟨e, hm, rfl⟩
  obtain ⟨q, hq, h1⟩ := List.mem_map.1 this
  obtain ⟨k, hk, rfl⟩ := List.mem_map.1 hq
  injection h1 with h2 h3
  exact ⟨k, hk, h2.symm, h3.symm⟩

theorem kept_le {x : CX} (h : KInv x) : x.kept ≤ 3000 := by
  have h1 := h.un
  have h2 := h.out
  have h3 := h.ci.rd.count h.ci.tag
  unfold CX.kept CX.held
  split <;> omega
theorem held_le {x : CX} (h : KInv x) : x.held ≤ 1000000 := by
  have h3 := h.ci.rd.count h.ci.tag
  unfold CX.held
  split <;> omega
theorem keptSum_le : ∀ {K : Ks}, (∀ e ∈ K, KInv e.2.2) → 0 ≤ keptSum K ∧ keptSum K ≤ 3000 * K.length
  | [], _ => by simp [keptSum]
  | e :: K, h => by
    have ih := keptSum_le (K := K) (fun f hf => h f (List.mem_cons.2 (Or.inr hf)))
    have := kept_le (h e (List.mem_cons.2 (Or.inl rfl)))
    unfold keptSum at ih ⊢
    simp only [List.map_cons, List.sum_cons, List.length_cons]
    omega

/-- What stands between two rounds over the connections. -/
structure UsedAt (w wr : World) (r cm : Nat) (es : Array MapEntry) (clock : Nat) (seen : Array Nat) : Prop where
  same : Same w wr
  iter : wr.heap[r]? = some (.mapIter (some cm) clock seen clock)
  lt : w.heap.size ≤ r

theorem UsedAt.next {w wr w1 : World} {r cm : Nat} {es : Array MapEntry} {clock : Nat} {seen : Array Nat} (h : UsedAt w wr r cm es clock seen) (h1 : w1 = wr ∨ w1 = wr.drew) (b : Nat) : UsedAt w (ChangeMaps.setBlock w1 r (.mapIter (some cm) clock (seen.push b) clock)) r cm es clock (seen.push b) := by
  have hlt := lt_of_heap h.iter
  have U1 : Same w w1 := by
    rcases h1 with rfl | rfl
    · exact h.same
    · exact h.same.drew
  have hl1 : r < w1.heap.size := by rcases h1 with rfl | rfl <;> exact hlt
  refine ⟨⟨U1.os, U1.tape, U1.output, ?_, fun k hk hn => ?_⟩, ?_, h.lt⟩
  · show w.heap.size ≤ (w1.heap.setIfInBounds r _).size
    rw [Array.size_setIfInBounds]; exact U1.size
  · show (w1.heap.setIfInBounds r _)[k]? = _
    rw [Array.getElem?_setIfInBounds_ne (by have := h.lt; omega)]
    exact U1.block k hk hn
  · show (w1.heap.setIfInBounds r _)[r]? = _
    rw [Array.getElem?_setIfInBounds_self_of_lt hl1]
theorem UsedAt.same' {w wr w1 : World} {r cm : Nat} {es : Array MapEntry} {clock : Nat} {seen : Array Nat} (h : UsedAt w wr r cm es clock seen) (hu : Same wr w1) : UsedAt w w1 r cm es clock seen := ⟨h.same.trans hu, hu.keep h.iter (fun h => h), h.lt⟩

set_option maxHeartbeats 1600000 in
set_option maxRecDepth 100000 in
theorem used_any {N : Nat} {F : Nat → Prop} {Fs : Int → Nat → Prop} {w : World} {S : Nat} {p : Ps} {x : Xs} (h : Hid (Sv N F Fs w S p x)) :
    Calls Tryz.prog 17 #[.pointer (some ⟨S, 0, none⟩)] w fun e w' => e = .returned (.int .i64 (x.u + keptSum x.K)) ∧ Same w w' := by
  have c0 : w.cell? ⟨S, 0, none⟩ = some (.map (some p.cm)) := cell_of_heap h.out.srv.blk 0
  have c3 : w.cell? ⟨S, 3, none⟩ = some (.pointer (some ⟨p.s, 0, none⟩)) := cell_of_heap h.out.srv.blk 3
  obtain ⟨es, clock, hmap, hents, hborn⟩ := h.out.cms
  have HM := hid hmap
  have HEn := hid hents
  have HB := hid hborn
  have hu1 := h.out.ti.low
  have hu2 := h.out.ti.most
  clear hmap hents hborn
  go_enter Tryz.func17, Tryz.ntmps17
  go_wp2_with fail
  refine (storeUsed_any (hid h.out.srv.sto)).mono ?_
  rintro e w1 ⟨rfl, hu⟩
  have d0 : w1.cell? ⟨S, 0, none⟩ = some (.map (some p.cm)) := (hu.cell (lt_of_heap h.out.srv.blk) (fun h => h)).trans c0
  have hr := run_range_map (P := Tryz.prog) w1 55 3 65 p.cm es clock Tryz.und55 (hu.keep HM.out (fun h => h))
  have HU := hid hu
  clear hu c0 c3
  have HT : Hid (0 ≤ keptSum x.K ∧ keptSum x.K ≤ 12000) := by
    have := keptSum_le h.out.ki
    have := h.out.few
    show _ ∧ _
    omega
  have HS0 := hid (sum_keys HEn.out h.out.nd)
  have HI0 : Hid (UsedAt w (w1.alloc (.mapIter (some p.cm) clock #[] clock)) w1.heap.size p.cm es clock #[]) := ⟨HU.out.alloc _, heap_alloc_new w1 _, HU.out.size⟩
  go_wp2_with fail
  generalize w1.alloc (.mapIter (some p.cm) clock #[] clock) = w2 at *
  generalize w1.heap.size = r at *
  clear hr d0 HU
  go_loopg [3] es.size (fun g uv wr => ∃ seen : Array Nat, uv = .int .i64 (x.u + sumSeen (fun e => keyKept x.K e.key) es.toList seen) ∧ (leftOf es seen).size ≤ g ∧ Hid (UsedAt w wr r p.cm es clock seen))
  case atStart =>
    refine ⟨#[], ?_, ?_, HI0⟩
    · rw [sumSeen_none]; simp
    · unfold leftOf; exact Array.size_filter_le
  case round =>
    obtain ⟨seen, rfl, hleft, hat⟩ := hrel
    clear HI0
    have hpos := sumSeen_le (fun e => keyKept x.K e.key) seen es.toList (by
      intro e _
      show 0 ≤ keyKept x.K e.key
      unfold keyKept
      split
      · split <;> omega
      · omega)
    rw [HS0.out] at hpos
    have hT := HT.out
    rcases run_next_at (P := Tryz.prog) wr 0 r p.cm clock clock seen es clock hat.out.iter (hat.out.same.keep HM.out (fun h => h)) HB.out.lt (Nat.le_refl _) with ⟨h0, hnext⟩ | ⟨e, he, wn, hwn, hnext⟩
    · have HE : Hid (x.u + sumSeen (fun e => keyKept x.K e.key) es.toList seen = x.u + keptSum x.K ∧ Same w wr) := by
        refine ⟨?_, hat.out.same⟩
        rw [sumSeen_full _ _ _ (all_seen es seen h0), HS0.out]
      clear hat h0 hleft
      generalize sumSeen (fun e => keyKept x.K e.key) es.toList seen = sm at *
      go_wp2
      go_ret
      exact ⟨by rw [← HE.out.1]; rfl, HE.out.2⟩
    · have hm := mem_left he
      obtain ⟨k, hk, hkey, hval⟩ := ents_entry HEn.out hm.1
      have hat1 := hat.out.next hwn e.born
      generalize hW : ChangeMaps.setBlock wn r (.mapIter (some p.cm) clock (seen.push e.born) clock) = W at hnext hat1
      have hent := run_entry_at (P := Tryz.prog) W r p.cm clock seen es clock e hat1.iter (hat1.same.keep HM.out (fun h => h)) hm.1 HB.out.nd
      have hp := sumSeen_push (fun e => keyKept x.K e.key) es.toList seen HB.out.nd hm.1 hm.2
      have hkk : keyKept x.K e.key = k.2.2.kept := by rw [hkey]; unfold keyKept; simp only; rw [mem_aget h.out.nd hk]
      have hkl := kept_le (h.out.ki k hk)
      have hsv := h.out.same hat1.same
      obtain ⟨dv, uv', ov, hcn⟩ := hsv.cn k hk
      have HKp := hid (kept_any (hid hcn) (held_le (h.out.ki k hk)) (by have := (h.out.ki k hk).un; omega) (by have := (h.out.ki k hk).out; omega))
      have hshr := left_shrinks es seen e he
      have HP : Hid (sumSeen (fun e => keyKept x.K e.key) es.toList (seen.push e.born) = sumSeen (fun e => keyKept x.K e.key) es.toList seen + k.2.2.kept) := by
        show _ = _
        rw [hp, hkk]
      have HA := hid hat1
      rw [hkey, hval] at hnext hent
      clear hW hwn hcn hsv hp hkk he hm hat hkey hval hat1
      generalize hsm : sumSeen (fun e => keyKept x.K e.key) es.toList seen = sm at *
      clear hsm
      go_wp2_with fail
      refine HKp.out.mono ?_
      rintro e' w3 ⟨rfl, hu3⟩
      have HA3 := hid (HA.out.same' hu3)
      clear hu3
      go_wp2_with fail
      go_roundg (leftOf es (seen.push e.born)).size
      case measure => omega
      case rel =>
        refine ⟨seen.push e.born, ?_, Nat.le_refl _, HA3⟩
        rw [HP.out, ← Int.add_assoc]

end Go.Proofs.YtiiapfkcmdkkoaaGreatDoor
