/- RosterPlays: the walk. -/
import Derived.Test.YtknmipbjkkeebaaSN
namespace Go.Proofs.Ytknmipbjkkeebaa
open Go.RowKit
def PV31 (q : Ro) (vy vz : Value) : Nat → Value → Prop
  | 0, v => v = .agg (q.arr vy)
  | 1, v => v = .agg (q.arr vz)
  | _, _ => True
def PV25 (r : Ro) (vx vr : Value) : Nat → Value → Prop
  | 0, v => v = .agg (r.arr vx)
  | 2, v => v = .agg (r.arr vr)
  | _, _ => True
def PV13 (r : Ro) (vx vr : Value) : Nat → Value → Prop
  | 0, v => v = .agg (r.arr vx)
  | 1, v => v = .agg (r.arr vr)
  | _, _ => True
set_option maxHeartbeats 20000000 in
set_option maxRecDepth 100000 in
theorem plays_walk (aa : Option Addr) (an acap KA oA : Nat) (kd sr : Nat → Int) (w : World) (haa : 0 < an → aa = some ⟨KA, oA, none⟩)
    (hax : ∀ j, j < an → w.rangeAt KA (oA + j * 2) [.int .i64 (kd j), .int .i64 (sr j)]) :
    Calls Try.prog 6 #[.slice aa an acap] w fun e w' => e = .returned (.bool true) ∧ Below w.heap.size w w' := by
  have HAA : Hid _ := haa
  have HAX : Hid _ := hax
  clear haa hax
  go_enter Try.func6, Try.ntmps6
  go_wp2_with fail
  go_call (awake10 w) as e w1 ⟨rfl, hb1⟩
  obtain ⟨T, hT⟩ : ∃ T, T = w.heap.size := ⟨_, rfl⟩
  rw [← hT] at hb1
  have hT1 : T ≤ w1.heap.size := by rw [hT]; exact hb1.size
  have HT : Hid _ := hT
  have H0 : Hid _ := PInv.start hb1 hT1
  clear hb1 hT hT1
  go_wp2
  go_loopw [5, 6] (fun jv i wr => ∃ k : Nat, k ≤ an ∧ k ≤ 60 ∧ i = .int .i64 (k : Nat) ∧ Hid (PInv T w w1.heap.size (w1.heap.size + 1) k jv wr)) (fun _ i _ => 60 - (intOf i).toNat)
  case atStart => exact ⟨0, by omega, by omega, rfl, H0.out⟩
  case round =>
    clear H0
    obtain ⟨k, hk1, hk2, rfl, HI⟩ := hrel
    rcases Nat.lt_or_ge k an with hka | hka
    · rcases Nat.lt_or_ge k 60 with hkb | hkb
      · refine wp_seq_k (fun K0 hK0 => ?_)
        have HK0 : Hid _ := hK0
        clear hK0
        go_wp2
        refine HK0.out _ _ ?_
        clear HK0
        refine wp_seq_k (fun K1 hK1 => ?_)
        obtain rfl := HAA.out (by omega)
        have HEND : Hid (∀ (x2 x7 x8 x9 x10 x11 x12 x13 x14 x16 x21 x22 x23 x24 x25 x26 x27 x28 x29 x30 x31 x32 x33 x34 x35 x36 x37 x38 x39 x40 x41 x42 x43 x44 x45 x46 x47 x48 x49 x50 x51 x52 x53 x54 x55 x56 x57 x58 x59 x60 x61 x62 x63 x64 x65 x66 x67 x68 x69 x70 x71 x72 x73 x74 x75 x76 x77 x78 x79 x80 x81 x82 x83 x84 x85 x86 x87 x88 x89 x90 x91 x92 x93 x94 x95 x96 x97 x98 x99 x100 x101 x102 x103 x104 x105 x106 x107 x108 x109 x110 x111 x112 x113 x114 x115 x116 x117 x118 x119 x120 x121 x122 x123 x124 x125 x126 x127 x128 x129 x130 x131 x132 x133 x134 x135 x136 x137 x138 x139 x140 x141 x142 x143 x144 x145 x146 x147 x148 x149 x150 x151 x152 x153 x154 x155 x156 x157 x158 x159 x160 x161 x162 x163 jv' : Value) (W' : World), Hid (PInv T w w1.heap.size (w1.heap.size + 1) (k + 1) jv' W') → K1 ⟨#[.slice (some ⟨KA, oA, none⟩) an acap, undef, x2, .pointer (some ⟨w1.heap.size, 0, none⟩), .pointer (some ⟨w1.heap.size + 1, 0, none⟩), jv', .int .i64 (k : Int), x7, x8, x9, x10, x11, x12, x13, x14, undef, x16, .bool true, .bool false, .agg #[.int .u64 1, .int .u64 0, .int .u64 0, .int .u64 0, .slice none 0 0], .agg #[.int .u64 1, .int .u64 0, .int .u64 0, .int .u64 0, .slice none 0 0], x21, x22, x23, x24, x25, x26, x27, x28, x29, x30, x31, x32, x33, x34, x35, x36, x37, x38, x39, x40, x41, x42, x43, x44, x45, x46, x47, x48, x49, x50, x51, x52, x53, x54, x55, x56, x57, x58, x59, x60, x61, x62, x63, x64, x65, x66, x67, x68, x69, x70, x71, x72, x73, x74, x75, x76, x77, x78, x79, x80, x81, x82, x83, x84, x85, x86, x87, x88, x89, x90, x91, x92, x93, x94, x95, x96, x97, x98, x99, x100, x101, x102, x103, x104, x105, x106, x107, x108, x109, x110, x111, x112, x113, x114, x115, x116, x117, x118, x119, x120, x121, x122, x123, x124, x125, x126, x127, x128, x129, x130, x131, x132, x133, x134, x135, x136, x137, x138, x139, x140, x141, x142, x143, x144, x145, x146, x147, x148, x149, x150, x151, x152, x153, x154, x155, x156, x157, x158, x159, x160, x161, x162, x163], []⟩ W') := by
          intro x2 x7 x8 x9 x10 x11 x12 x13 x14 x16 x21 x22 x23 x24 x25 x26 x27 x28 x29 x30 x31 x32 x33 x34 x35 x36 x37 x38 x39 x40 x41 x42 x43 x44 x45 x46 x47 x48 x49 x50 x51 x52 x53 x54 x55 x56 x57 x58 x59 x60 x61 x62 x63 x64 x65 x66 x67 x68 x69 x70 x71 x72 x73 x74 x75 x76 x77 x78 x79 x80 x81 x82 x83 x84 x85 x86 x87 x88 x89 x90 x91 x92 x93 x94 x95 x96 x97 x98 x99 x100 x101 x102 x103 x104 x105 x106 x107 x108 x109 x110 x111 x112 x113 x114 x115 x116 x117 x118 x119 x120 x121 x122 x123 x124 x125 x126 x127 x128 x129 x130 x131 x132 x133 x134 x135 x136 x137 x138 x139 x140 x141 x142 x143 x144 x145 x146 x147 x148 x149 x150 x151 x152 x153 x154 x155 x156 x157 x158 x159 x160 x161 x162 x163 jv' W' h
          refine hK1 _ _ ?_
          go_wp2
          go_roundw
          case rel => exact ⟨k + 1, by omega, by omega, rfl, h.out⟩
          case measure => simp only [intOf]; omega
        clear hK1
        obtain ⟨r, vx, vr, js, hL, hOk, he, hj, hc, hl, hjs, hjn⟩ := HI.out
        have hr := HAX.out k hka
        have hKT : KA < T := by rw [HT.out]; exact World.block_lt_of_cell? w _ (hr 0 _ rfl)
        have c0 : wr.cell? ⟨KA, oA + k * 2, none⟩ = some (.int .i64 (kd k)) := (hL.bel.cell (by exact hKT)).trans (hr 0 _ rfl)
        have c1 : wr.cell? ⟨KA, oA + k * 2 + 1, none⟩ = some (.int .i64 (sr k)) := (hL.bel.cell (by exact hKT)).trans (hr 1 _ rfl)
        have HL0 : Hid _ := hL
        have HOK : Hid _ := hOk
        have HJS : Hid _ := hjs
        generalize kd k = kk at *
        generalize sr k = ss at *
        clear hr hKT HI hL hOk hjs HAA HAX
        refine wp_block_hide (fun Q0 hQn hQx => ?_)
        have HQN : Hid _ := hQn
        have HQX : Hid _ := hQx
        clear hQn hQx
        refine wp_seq_k (fun K9 hK9 => ?_)
        have HK9 : Hid _ := hK9
        clear hK9
        go_wp2
        refine HK9.out _ _ ?_
        clear HK9
        have HL7 : Hid (Lot T w w1.heap.size (w1.heap.size + 1) r vx vr u5 js (wr.alloc (.cells #[.int .i64 kk, .int .i64 ss] 75))) := HL0.out.below ((Below.refl _ wr).alloc (Nat.le_refl _) _)
        have HA7 : Hid ((wr.alloc (.cells #[.int .i64 kk, .int .i64 ss] 75)).heap[wr.heap.size]? = some (.cells #[.int .i64 kk, .int .i64 ss] 75)) := heap_new _ _
        generalize wr.alloc (.cells #[.int .i64 kk, .int .i64 ss] 75) = W7 at *
        generalize wr.heap.size = B7 at *
        clear c0 c1 HL0
        have a1 := cell_of HA7.out 1
        simp at a1
        refine wp_seq_k (fun K10 hK10 => ?_)
        have HK10 : Hid _ := hK10
        clear hK10
        go_wp2
        refine HK10.out _ _ ?_
        clear HK10
        clear a1
        refine wp_seq_k (fun K11 hK11 => ?_)
        have H13 : Hid (∀ (t : Int) (x9 x10 x11 x12 x13 x14 x16 x21 x22 x23 x24 x25 x26 x27 x28 x29 x30 x31 x32 x33 x34 x35 x36 x37 x38 x39 x40 x41 x42 x43 x44 x45 x46 x47 x48 x49 x50 x51 x52 x53 x54 x55 x56 x57 x58 x59 x60 x61 x62 x63 x64 x65 x66 x67 x68 x69 x70 x71 x72 x73 x74 x75 x76 x77 x78 x79 x80 x81 x82 x83 x84 x85 x86 x87 x88 x89 x90 x91 x92 x93 x94 x95 x96 x97 x98 x99 x100 x101 x102 x103 x104 x105 x106 x107 x108 x109 x110 x111 x112 x113 x114 x115 x116 x117 x118 x119 x120 x121 x122 x123 x124 x125 x126 x127 x128 x129 x130 x131 x132 x133 x134 x135 x136 x137 x138 x139 x140 x141 x142 x143 x144 x145 x146 x147 x148 x149 x150 x151 x152 x153 x154 x155 x156 x157 x158 x159 x160 x161 x162 x163 : Value), K11 ⟨#[.slice (some ⟨KA, oA, none⟩) an acap, undef, u2, .pointer (some ⟨w1.heap.size, 0, none⟩), .pointer (some ⟨w1.heap.size + 1, 0, none⟩), u5, .int .i64 (k : Int), .pointer (some ⟨B7, 0, none⟩), .int .i64 t, x9, x10, x11, x12, x13, x14, undef, x16, .bool true, .bool false, .agg #[.int .u64 1, .int .u64 0, .int .u64 0, .int .u64 0, .slice none 0 0], .agg #[.int .u64 1, .int .u64 0, .int .u64 0, .int .u64 0, .slice none 0 0], x21, x22, x23, x24, x25, x26, x27, x28, x29, x30, x31, x32, x33, x34, x35, x36, x37, x38, x39, x40, x41, x42, x43, x44, x45, x46, x47, x48, x49, x50, x51, x52, x53, x54, x55, x56, x57, x58, x59, x60, x61, x62, x63, x64, x65, x66, x67, x68, x69, x70, x71, x72, x73, x74, x75, x76, x77, x78, x79, x80, x81, x82, x83, x84, x85, x86, x87, x88, x89, x90, x91, x92, x93, x94, x95, x96, x97, x98, x99, x100, x101, x102, x103, x104, x105, x106, x107, x108, x109, x110, x111, x112, x113, x114, x115, x116, x117, x118, x119, x120, x121, x122, x123, x124, x125, x126, x127, x128, x129, x130, x131, x132, x133, x134, x135, x136, x137, x138, x139, x140, x141, x142, x143, x144, x145, x146, x147, x148, x149, x150, x151, x152, x153, x154, x155, x156, x157, x158, x159, x160, x161, x162, x163], []⟩ W7) := by
          intro t x9 x10 x11 x12 x13 x14 x16 x21 x22 x23 x24 x25 x26 x27 x28 x29 x30 x31 x32 x33 x34 x35 x36 x37 x38 x39 x40 x41 x42 x43 x44 x45 x46 x47 x48 x49 x50 x51 x52 x53 x54 x55 x56 x57 x58 x59 x60 x61 x62 x63 x64 x65 x66 x67 x68 x69 x70 x71 x72 x73 x74 x75 x76 x77 x78 x79 x80 x81 x82 x83 x84 x85 x86 x87 x88 x89 x90 x91 x92 x93 x94 x95 x96 x97 x98 x99 x100 x101 x102 x103 x104 x105 x106 x107 x108 x109 x110 x111 x112 x113 x114 x115 x116 x117 x118 x119 x120 x121 x122 x123 x124 x125 x126 x127 x128 x129 x130 x131 x132 x133 x134 x135 x136 x137 x138 x139 x140 x141 x142 x143 x144 x145 x146 x147 x148 x149 x150 x151 x152 x153 x154 x155 x156 x157 x158 x159 x160 x161 x162 x163
          refine hK11 _ _ ?_
          refine wp_seq_k (fun K13 hK13 => ?_)
          have HK13 : Hid _ := hK13
          clear hK13
          refine O.wp_region_pb (fun f => ⟨#[.slice (some ⟨KA, oA, none⟩) an acap, undef, u2, .pointer (some ⟨w1.heap.size, 0, none⟩), .pointer (some ⟨w1.heap.size + 1, 0, none⟩), u5, .int .i64 (k : Int), .pointer (some ⟨B7, 0, none⟩), .int .i64 t, f 2, f 3, x11, x12, x13, x14, undef, x16, .bool true, .bool false, .agg #[.int .u64 1, .int .u64 0, .int .u64 0, .int .u64 0, .slice none 0 0], .agg #[.int .u64 1, .int .u64 0, .int .u64 0, .int .u64 0, .slice none 0 0], x21, x22, x23, x24, x25, x26, x27, x28, x29, x30, x31, x32, x33, x34, x35, x36, x37, x38, x39, x40, x41, x42, x43, x44, f 0, f 1, x47, x48, x49, x50, x51, x52, x53, x54, x55, x56, x57, x58, x59, x60, x61, x62, x63, x64, x65, x66, x67, x68, x69, x70, x71, x72, x73, x74, x75, x76, x77, x78, x79, x80, x81, x82, x83, x84, x85, x86, x87, x88, x89, x90, x91, x92, x93, x94, x95, x96, x97, x98, x99, x100, x101, x102, x103, x104, x105, x106, x107, x108, x109, x110, x111, x112, x113, x114, x115, x116, x117, x118, x119, x120, x121, x122, x123, x124, x125, x126, x127, x128, x129, x130, x131, x132, x133, x134, x135, x136, x137, x138, x139, x140, x141, x142, x143, x144, x145, x146, x147, x148, x149, x150, x151, x152, x153, x154, x155, x156, x157, x158, x159, x160, x161, x162, x163], []⟩) (PV13 r vx vr) (P13 T w w1.heap.size (w1.heap.size + 1) r vx vr u5 js B7 #[.int .i64 kk, .int .i64 ss] W7.heap.size) (fun i => [x45, x46, x9, x10, undef, undef].getD i undef) (by kernel_rfl) rfl rfl ?hI13 ?hput13 ?step13 ?fin13
          case hI13 => exact ⟨HL7.out.below (Below.refl _ _).drew, HA7.out, Nat.le_refl _, getElem?_lt HL7.out.x, getElem?_lt HL7.out.p, (fun e => by cases e), (fun e => by cases e), (fun e => by cases e), (fun e => by cases e)⟩
          case fin13 =>
            intro f W hP hV
            have v0 : f 0 = .agg (r.arr vx) := hV 0 (by decide)
            have v1 : f 1 = .agg (r.arr vr) := hV 1 (by decide)
            clear hV
            obtain ⟨B9, B10, v2, v3, hAl⟩ := hP.al
            have HAL : Hid _ := hAl
            clear hP hAl
            generalize f 0 = y0 at *
            subst v0
            generalize f 1 = y1 at *
            subst v1
            generalize f 2 = y2 at *
            subst v2
            generalize f 3 = y3 at *
            subst v3
            clear f HL7 HA7
            refine HK13.out _ _ ?_
            clear HK13
            refine wp_seq_k (fun K14 hK14 => ?_)
            have HK14 : Hid _ := hK14
            clear hK14
            go_wp2
            refine HK14.out _ _ ?_
            clear HK14
            refine wp_seq_k (fun K15 hK15 => ?_)
            have H28 : Hid (∀ (q : Ro) (kz : Int) (vy vz : Value) (W' : World) (x13 x14 x16 x21 x22 x23 x24 x25 x26 x27 x28 x29 x30 x31 x32 x33 x34 x35 x36 x37 x38 x39 x40 x41 x42 x43 x44 x45 x46 x47 x48 x49 x50 x51 x52 x53 x54 x55 x56 x57 x58 x59 x60 x61 x62 x63 x64 x65 x66 x67 x68 x69 x70 x71 x72 x73 x74 x75 x76 x77 x78 x79 x80 x81 x82 x83 x84 x85 x86 x87 x88 x89 x90 x91 x92 x93 x94 x95 x96 x97 x98 x99 x100 x101 x102 x103 x104 x105 x106 x107 x108 x109 x110 x111 x112 x113 x114 x115 x116 x117 x118 x119 x120 x121 x122 x123 x124 x125 x126 x127 x128 x129 x130 x131 x132 x133 x134 x135 x136 x137 x138 x139 x140 x141 x142 x143 x144 x145 x146 x147 x148 x149 x150 x151 x152 x153 x154 x155 x156 x157 x158 x159 x160 x161 x162 x163 : Value), Al T w w1.heap.size (w1.heap.size + 1) r vx vr u5 js B7 #[.int .i64 kk, .int .i64 ss] B9 B10 q vy vz W' → q.ms.length ≤ 1000 → (kz = 0 → Nx r q ∧ (kk = 0 → q.j = r.j + 1 ∧ ∃ p, p < q.ms.length ∧ mbAt q.ms p = ⟨t, q.j, 1⟩)) → K15 ⟨#[.slice (some ⟨KA, oA, none⟩) an acap, undef, u2, .pointer (some ⟨w1.heap.size, 0, none⟩), .pointer (some ⟨w1.heap.size + 1, 0, none⟩), u5, .int .i64 (k : Int), .pointer (some ⟨B7, 0, none⟩), .int .i64 t, .pointer (some ⟨B9, 0, none⟩), .pointer (some ⟨B10, 0, none⟩), .int .i64 kz, .int .i64 kz, x13, x14, undef, x16, .bool true, .bool false, .agg #[.int .u64 1, .int .u64 0, .int .u64 0, .int .u64 0, .slice none 0 0], .agg #[.int .u64 1, .int .u64 0, .int .u64 0, .int .u64 0, .slice none 0 0], x21, x22, x23, x24, x25, x26, x27, x28, x29, x30, x31, x32, x33, x34, x35, x36, x37, x38, x39, x40, x41, x42, x43, x44, x45, x46, x47, x48, x49, x50, x51, x52, x53, x54, x55, x56, x57, x58, x59, x60, x61, x62, x63, x64, x65, x66, x67, x68, x69, x70, x71, x72, x73, x74, x75, x76, x77, x78, x79, x80, x81, x82, x83, x84, x85, x86, x87, x88, x89, x90, x91, x92, x93, x94, x95, x96, x97, x98, x99, x100, x101, x102, x103, x104, x105, x106, x107, x108, x109, x110, x111, x112, x113, x114, x115, x116, x117, x118, x119, x120, x121, x122, x123, x124, x125, x126, x127, x128, x129, x130, x131, x132, x133, x134, x135, x136, x137, x138, x139, x140, x141, x142, x143, x144, x145, x146, x147, x148, x149, x150, x151, x152, x153, x154, x155, x156, x157, x158, x159, x160, x161, x162, x163], []⟩ W') := by
              intro q kz vy vz W' x13 x14 x16 x21 x22 x23 x24 x25 x26 x27 x28 x29 x30 x31 x32 x33 x34 x35 x36 x37 x38 x39 x40 x41 x42 x43 x44 x45 x46 x47 x48 x49 x50 x51 x52 x53 x54 x55 x56 x57 x58 x59 x60 x61 x62 x63 x64 x65 x66 x67 x68 x69 x70 x71 x72 x73 x74 x75 x76 x77 x78 x79 x80 x81 x82 x83 x84 x85 x86 x87 x88 x89 x90 x91 x92 x93 x94 x95 x96 x97 x98 x99 x100 x101 x102 x103 x104 x105 x106 x107 x108 x109 x110 x111 x112 x113 x114 x115 x116 x117 x118 x119 x120 x121 x122 x123 x124 x125 x126 x127 x128 x129 x130 x131 x132 x133 x134 x135 x136 x137 x138 x139 x140 x141 x142 x143 x144 x145 x146 x147 x148 x149 x150 x151 x152 x153 x154 x155 x156 x157 x158 x159 x160 x161 x162 x163 hAl hfew hq
              refine hK15 _ _ ?_
              have HAL8 : Hid _ := hAl
              have HFEW : Hid _ := hfew
              have HQ8 : Hid _ := hq
              clear hAl hfew hq HAL
              by_cases hz : kz = 0
              · subst hz
                go_wp2_with (first | (refine ld72g (by rfl) _ rfl _ _ (Ro.arr_size _ _) rfl HAL8.out.yz.z ?_) | (refine ld72p _ rfl _ _ (Ro.arr_size _ _) rfl HAL8.out.yz.z ?_) | (refine ld69g (by rfl) _ rfl _ _ (Ro.arr_size _ _) rfl HAL8.out.yz.y ?_) | (refine ld69p _ rfl _ _ (Ro.arr_size _ _) rfl HAL8.out.yz.y ?_))
                go_call (same_any q vz vy _ (MIs.least HAL8.out.yz.zi (Nat.zero_le _)) (XIs.least HAL8.out.yz.yi (Nat.zero_le _)) HFEW.out) as e w2 ⟨rfl, hb2⟩
                have HAL9 : Hid _ := HAL8.out.below hb2
                clear hb2 HAL8
                go_wp2_with (first | (refine ld72g (by rfl) _ rfl _ _ (Ro.arr_size _ _) rfl HAL9.out.lot.p ?_) | (refine ld72p _ rfl _ _ (Ro.arr_size _ _) rfl HAL9.out.lot.p ?_) | (refine ld69g (by rfl) _ rfl _ _ (Ro.arr_size _ _) rfl HAL9.out.lot.x ?_) | (refine ld69p _ rfl _ _ (Ro.arr_size _ _) rfl HAL9.out.lot.x ?_))
                go_call (same_any r vr vx _ (MIs.least HAL9.out.lot.mi (Nat.zero_le _)) (XIs.least HAL9.out.lot.xi (Nat.zero_le _)) (by have := HOK.out.few; omega)) as e w3 ⟨rfl, hb3⟩
                have HALX : Hid _ := HAL9.out.below hb3
                clear hb3 HAL9
                go_wp2
                refine O.wp_region_pb (fun f => ⟨#[.slice (some ⟨KA, oA, none⟩) an acap, undef, u2, .pointer (some ⟨w1.heap.size, 0, none⟩), .pointer (some ⟨w1.heap.size + 1, 0, none⟩), u5, .int .i64 (k : Int), .pointer (some ⟨B7, 0, none⟩), .int .i64 t, .pointer (some ⟨B9, 0, none⟩), .pointer (some ⟨B10, 0, none⟩), .int .i64 0, .int .i64 0, x13, x14, undef, x16, .bool true, .bool false, .agg #[.int .u64 1, .int .u64 0, .int .u64 0, .int .u64 0, .slice none 0 0], .agg #[.int .u64 1, .int .u64 0, .int .u64 0, .int .u64 0, .slice none 0 0], x21, x22, x23, x24, x25, x26, x27, x28, x29, x30, x31, x32, x33, x34, x35, x36, x37, x38, x39, x40, x41, x42, x43, x44, x45, x46, x47, x48, x49, x50, x51, x52, x53, x54, x55, x56, x57, x58, x59, x60, x61, x62, x63, x64, x65, x66, x67, x68, x69, x70, x71, x72, x73, x74, x75, x76, x77, x78, x79, x80, x81, x82, x83, x84, x85, x86, x87, x88, x89, x90, x91, x92, x93, x94, x95, x96, x97, x98, x99, x100, .int .i64 0, .int .i64 0, .bool false, .bool false, .agg (q.arr vz), .agg (q.arr vy), .bool true, .bool false, .bool false, .bool false, .agg (r.arr vr), .agg (r.arr vx), .bool true, .bool false, .bool false, .int .i64 0, .bool false, f 0, f 1, x120, x121, x122, x123, x124, x125, x126, x127, x128, x129, x130, x131, x132, x133, x134, x135, x136, x137, x138, x139, x140, x141, x142, x143, x144, x145, x146, x147, x148, x149, x150, x151, x152, x153, x154, x155, x156, x157, x158, x159, x160, x161, x162, x163], []⟩) (PV31 q vy vz) (fun done _ W => P31 T w w1.heap.size (w1.heap.size + 1) u5 js B7 #[.int .i64 kk, .int .i64 ss] B9 B10 q vy vz done W) (fun i => [x118, x119, undef, undef].getD i undef) (by kernel_rfl) rfl rfl ?hI31 ?hput31 ?step31 ?fin31
                case hI31 => exact ⟨HALX.out.lot.bel.drew, HALX.out.lot.t3, HALX.out.lot.t4, HALX.out.yz.below (Below.refl _ _).drew, own_below HALX.out.lot.jo (Below.refl _ _).drew, HALX.out.a, ⟨_, HALX.out.lot.x, Ro.arr_size _ _, (fun e => by cases e)⟩, ⟨_, HALX.out.lot.p, Ro.arr_size _ _, (fun e => by cases e)⟩⟩
                case fin31 =>
                  intro f W hP hV
                  have v0 : f 0 = .agg (q.arr vy) := hV 0 (by decide)
                  have v1 : f 1 = .agg (q.arr vz) := hV 1 (by decide)
                  clear hV
                  replace hP : P31 T w w1.heap.size (w1.heap.size + 1) u5 js B7 #[.int .i64 kk, .int .i64 ss] B9 B10 q vy vz (fun i => decide (i < 4)) W := hP
                  have HLQ : Hid _ := P31.lot hP
                  have HAQ : Hid _ := hP.a
                  have HNX : Hid (Nx r q) := (HQ8.out (by first | rfl | trivial)).1
                  have HJN : Hid _ := (HQ8.out (by first | rfl | trivial)).2
                  generalize f 0 = y0 at *
                  subst v0
                  generalize f 1 = y1 at *
                  subst v1
                  clear hP HALX HQ8 f
                  go_wp2_with (first | (refine ld72g (by rfl) _ rfl _ _ (Ro.arr_size _ _) rfl HLQ.out.p ?_) | (refine ld72p _ rfl _ _ (Ro.arr_size _ _) rfl HLQ.out.p ?_))
                  go_call (check_ok q vz _ (MIs.least HLQ.out.mi (Nat.zero_le _)) HNX.out.ok) as e w2 ⟨rfl, hb2⟩
                  have HLQ2 : Hid _ := HLQ.out.below hb2
                  have HAQ2 : Hid _ := (hb2.block _ (getElem?_lt HAQ.out)).trans HAQ.out
                  clear hb2 HLQ HAQ
                  have e1 : w2.cell? ⟨w1.heap.size + 1, 1, none⟩ = some (.int .u64 (q.e : Nat)) := cell_of HLQ2.out.p 1
                  have e2 : w2.cell? ⟨w1.heap.size, 1, none⟩ = some (.int .u64 (q.e : Nat)) := cell_of HLQ2.out.x 1
                  go_wp2_with (first | (refine ld72g (by rfl) _ rfl _ _ (Ro.arr_size _ _) rfl HLQ2.out.p ?_) | (refine ld72p _ rfl _ _ (Ro.arr_size _ _) rfl HLQ2.out.p ?_) | (refine ld69g (by rfl) _ rfl _ _ (Ro.arr_size _ _) rfl HLQ2.out.x ?_) | (refine ld69p _ rfl _ _ (Ro.arr_size _ _) rfl HLQ2.out.x ?_))
                  go_call (looks_any q vz vy _ (MIs.least HLQ2.out.mi (Nat.zero_le _)) (XIs.least HLQ2.out.xi (Nat.zero_le _)) HNX.out.ok) as e w3 ⟨rfl, hb3⟩
                  have HLQ3 : Hid _ := HLQ2.out.below hb3
                  have HAQ3 : Hid _ := (hb3.block _ (getElem?_lt HAQ2.out)).trans HAQ2.out
                  clear hb3 HLQ2 HAQ2 e1 e2
                  obtain ⟨m, b, hf, hm⟩ := find_all q HNX.out.ok t
                  have HF : Hid _ := hf
                  have HM : Hid _ := hm
                  clear hf hm
                  go_wp2_with (first | (refine ld72g (by rfl) _ rfl _ _ (Ro.arr_size _ _) rfl HLQ3.out.p ?_) | (refine ld72p _ rfl _ _ (Ro.arr_size _ _) rfl HLQ3.out.p ?_))
                  go_call (HF.out vz _ (MIs.least HLQ3.out.mi (Nat.zero_le _))) as e w4 ⟨rfl, hb4⟩
                  have HLQ4 : Hid _ := HLQ3.out.below hb4
                  have HAQ4 : Hid _ := (hb4.block _ (getElem?_lt HAQ3.out)).trans HAQ3.out
                  clear hb4 HLQ3 HAQ3 HF
                  unfold Mb.val
                  have a0 : ∀ o, (w4.alloc o).cell? ⟨B7, 0, none⟩ = some (.int .i64 kk) := fun o => (World.cell?_alloc_past _ _ _ (by exact getElem?_lt HAQ4.out)).trans (cell_of HAQ4.out 0)
                  have HB5 : Hid (∀ o, Below w4.heap.size w4 (w4.alloc o)) := fun o => (Below.refl _ _).alloc (Nat.le_refl _) _
                  by_cases hbb : b = true
                  · by_cases h0 : kk = 0
                    · subst hbb h0
                      obtain ⟨hj1, p, hp, hmp⟩ := HJN.out (by first | rfl | trivial)
                      have hmj : m.j = q.j := by rw [HM.out p hp (by rw [hmp]), hmp]
                      obtain ⟨ja, jc, hjv⟩ := own_slice HLQ4.out.jo
                      subst hjv
                      have HMJ : Hid _ := hmj
                      have HJ1 : Hid _ := hj1
                      clear hmj hj1 hmp hp HJN HM
                      go_wp2
                      go_loopw [150] (fun i wr => ∃ k2 : Nat, k2 ≤ js.length ∧ i = .int .i64 (k2 : Nat) ∧ wr = w4.alloc (.cells #[.int .i64 m.s, .int .u64 (m.j : Nat), .int .i64 m.t] 85)) (fun i _ => js.length - (intOf i).toNat)
                      case atStart => exact ⟨0, by omega, rfl, rfl⟩
                      case round =>
                        obtain ⟨k2, hk2, rfl, rfl⟩ := hrel
                        rcases Nat.lt_or_ge k2 js.length with hkn | hkn
                        · obtain ⟨gj, hgj⟩ : ∃ g, ja = some ⟨g, 0, none⟩ := by
                            rcases HLQ4.out.jo.2 with ⟨_, h0⟩ | ⟨g, cap, cur, e0, _⟩
                            · omega
                            · injection e0 with e0 _ _; exact ⟨g, e0⟩
                          subst hgj
                          have hgjT : gj < w4.heap.size := (World.ownsRow.lt HLQ4.out.jo gj rfl).2
                          have hcj : w4.cell? ⟨gj, k2, none⟩ = some (.int .u64 ((js.getD k2 0 : Nat) : Int)) := by
                            have q := World.ownsRow.cells HLQ4.out.jo (g := gj) rfl _ _ (jcs_at js k2 hkn)
                            rw [Addr.add_lit, Nat.zero_add] at q; exact q
                          have cj : ∀ o, (w4.alloc o).cell? ⟨gj, k2, none⟩ = some (.int .u64 ((js.getD k2 0 : Nat) : Int)) := fun o => (World.cell?_alloc_past _ _ _ (by exact hgjT)).trans hcj
                          have hlt : js.getD k2 0 < m.j := by
                            have h1 := HJS.out (js.getD k2 0) (by simp [List.getD, hkn])
                            have h2 := HMJ.out
                            have h3 := HJ1.out
                            omega
                          generalize js.getD k2 0 = jj at *
                          clear hcj hgjT
                          go_wp2
                          go_roundw
                          case rel => exact ⟨k2 + 1, by omega, rfl, by first | rfl | trivial⟩
                          case measure => simp only [intOf]; omega
                        · obtain rfl : k2 = js.length := by omega
                          have HOJ : Hid (∀ o1 o2, ((w4.alloc o1).alloc o2).ownsRow T 66 1 (.slice ja js.length jc) js.length (jcs js)) := fun o1 o2 => own_below HLQ4.out.jo (((Below.refl _ w4).alloc (Nat.le_refl _) _).alloc (by simp) _)
                          have HNW : Hid (∀ o1 o2, ((w4.alloc o1).alloc o2).heap[w4.heap.size + 1]? = some o2) := fun o1 o2 => heap_alloc2_new w4 o1 o2
                          have HTS : Hid (∀ o1 o2, T ≤ ((w4.alloc o1).alloc o2).heap.size) := fun o1 o2 => by have := HLQ4.out.ts; simp; omega
                          have HB6 : Hid (∀ o1 o2, Below w4.heap.size w4 ((w4.alloc o1).alloc o2)) := fun o1 o2 => ((Below.refl _ w4).alloc (Nat.le_refl _) _).alloc (by simp) _
                          go_wp2_with (at_builtin; refine jappend rfl _ _ rfl T _ js rfl (HOJ.out _ _) (w4.heap.size + 1) rfl m.j (HNW.out _ _) (by omega) (HTS.out _ _) ?cJ)
                          case cJ =>
                            intro ao cp w5 h1 h2 h3
                            have HLE : Hid _ := Lot.joined (js' := js ++ [m.j]) (HLQ4.out.below (HB6.out _ _)) h2 h3 (by rw [List.length_append]; exact h1)
                            clear h1 h2 h3 HOJ HNW HTS HB6
                            go_wp2
                            exact HQN.out _ _ (HEND.out _ _ _ _ _ _ _ _ _ _ _ _ _ _ _ _ _ _ _ _ _ _ _ _ _ _ _ _ _ _ _ _ _ _ _ _ _ _ _ _ _ _ _ _ _ _ _ _ _ _ _ _ _ _ _ _ _ _ _ _ _ _ _ _ _ _ _ _ _ _ _ _ _ _ _ _ _ _ _ _ _ _ _ _ _ _ _ _ _ _ _ _ _ _ _ _ _ _ _ _ _ _ _ _ _ _ _ _ _ _ _ _ _ _ _ _ _ _ _ _ _ _ _ _ _ _ _ _ _ _ _ _ _ _ _ _ _ _ _ _ _ _ _ _ _ _ _ _ _ _ _ _ _ _ _ ⟨q, vy, vz, js ++ [m.j], HLE.out, HNX.out.ok, by have := HNX.out.e; omega, by have := HNX.out.j1; omega, by have := HNX.out.c; omega, by have := HNX.out.l; omega, (fun j hj => by rcases List.mem_append.1 hj with h | h; exact Nat.le_trans (HJS.out j h) HNX.out.j; (have h2 := HMJ.out; simp at h; omega)), by simp; omega⟩)
                    · subst hbb
                      go_wp2
                      exact HQN.out _ _ (HEND.out _ _ _ _ _ _ _ _ _ _ _ _ _ _ _ _ _ _ _ _ _ _ _ _ _ _ _ _ _ _ _ _ _ _ _ _ _ _ _ _ _ _ _ _ _ _ _ _ _ _ _ _ _ _ _ _ _ _ _ _ _ _ _ _ _ _ _ _ _ _ _ _ _ _ _ _ _ _ _ _ _ _ _ _ _ _ _ _ _ _ _ _ _ _ _ _ _ _ _ _ _ _ _ _ _ _ _ _ _ _ _ _ _ _ _ _ _ _ _ _ _ _ _ _ _ _ _ _ _ _ _ _ _ _ _ _ _ _ _ _ _ _ _ _ _ _ _ _ _ _ _ _ _ _ _ ⟨q, vy, vz, js, HLQ4.out.below (HB5.out _), HNX.out.ok, by have := HNX.out.e; omega, by have := HNX.out.j1; omega, by have := HNX.out.c; omega, by have := HNX.out.l; omega, fun j hj => Nat.le_trans (HJS.out j hj) HNX.out.j, by omega⟩)
                  · obtain rfl : b = false := by cases b <;> simp_all
                    go_wp2
                    exact HQN.out _ _ (HEND.out _ _ _ _ _ _ _ _ _ _ _ _ _ _ _ _ _ _ _ _ _ _ _ _ _ _ _ _ _ _ _ _ _ _ _ _ _ _ _ _ _ _ _ _ _ _ _ _ _ _ _ _ _ _ _ _ _ _ _ _ _ _ _ _ _ _ _ _ _ _ _ _ _ _ _ _ _ _ _ _ _ _ _ _ _ _ _ _ _ _ _ _ _ _ _ _ _ _ _ _ _ _ _ _ _ _ _ _ _ _ _ _ _ _ _ _ _ _ _ _ _ _ _ _ _ _ _ _ _ _ _ _ _ _ _ _ _ _ _ _ _ _ _ _ _ _ _ _ _ _ _ _ _ _ _ ⟨q, vy, vz, js, HLQ4.out.below (HB5.out _), HNX.out.ok, by have := HNX.out.e; omega, by have := HNX.out.j1; omega, by have := HNX.out.c; omega, by have := HNX.out.l; omega, fun j hj => Nat.le_trans (HJS.out j hj) HNX.out.j, by omega⟩)
                case hput31 =>
                  repeat (refine ⟨fun f v => rfl, ?_⟩)
                  trivial
                case step31 =>
                  refine ⟨?_, ?_⟩
                  · intro done f W hP hdn hd K hK
                    clear hd
                    replace hP : P31 T w w1.heap.size (w1.heap.size + 1) u5 js B7 #[.int .i64 kk, .int .i64 ss] B9 B10 q vy vz done W := hP
                    rw [if_pos (by rfl)]
                    refine ld69p _ rfl _ _ (Ro.arr_size _ _) rfl hP.yz.y ?_
                    exact hK _ _ rfl (hP.pure _ (by decide))
                  refine ⟨?_, ?_⟩
                  · intro done f W hP hdn hd K hK
                    clear hd
                    replace hP : P31 T w w1.heap.size (w1.heap.size + 1) u5 js B7 #[.int .i64 kk, .int .i64 ss] B9 B10 q vy vz done W := hP
                    rw [if_pos (by rfl)]
                    refine ld72p _ rfl _ _ (Ro.arr_size _ _) rfl hP.yz.z ?_
                    exact hK _ _ rfl (hP.pure _ (by decide))
                  refine ⟨?_, ?_⟩
                  · intro done f W hP hdn hd K hK
                    have d0 := (hd.1 rfl).2
                    have e0 : done 0 = true := (hd.1 rfl).1
                    clear hd
                    replace d0 : f 0 = .agg (q.arr vy) := d0
                    replace hP : P31 T w w1.heap.size (w1.heap.size + 1) u5 js B7 #[.int .i64 kk, .int .i64 ss] B9 B10 q vy vz done W := hP
                    obtain ⟨cx, x1, x2, x3⟩ := hP.x
                    rw [if_pos (by rfl)]
                    refine dst5p _ _ rfl _ _ (Ro.arr_size _ _) rfl (by exact d0) x2 x1 (arr_one _ hP.yz.yi) ?_
                    intro W' ho hk
                    exact hK _ _ trivial (hP.sx ho hk)
                  refine ⟨?_, ?_⟩
                  · intro done f W hP hdn hd K hK
                    have d1 := (hd.1 rfl).2
                    have e1 : done 1 = true := (hd.1 rfl).1
                    clear hd
                    replace d1 : f 1 = .agg (q.arr vz) := d1
                    replace hP : P31 T w w1.heap.size (w1.heap.size + 1) u5 js B7 #[.int .i64 kk, .int .i64 ss] B9 B10 q vy vz done W := hP
                    obtain ⟨cx, x1, x2, x3⟩ := hP.p
                    rw [if_pos (by rfl)]
                    refine rst5p _ _ rfl _ _ (Ro.arr_size _ _) rfl (by exact d1) x2 x1 (arr_one _ hP.yz.zi) ?_
                    intro W' ho hk
                    exact hK _ _ trivial (hP.sp ho hk)
                  trivial
              · go_wp2_with (first | (refine ld72g (by rfl) _ rfl _ _ (Ro.arr_size _ _) rfl HAL8.out.yz.z ?_) | (refine ld72p _ rfl _ _ (Ro.arr_size _ _) rfl HAL8.out.yz.z ?_) | (refine ld69g (by rfl) _ rfl _ _ (Ro.arr_size _ _) rfl HAL8.out.yz.y ?_) | (refine ld69p _ rfl _ _ (Ro.arr_size _ _) rfl HAL8.out.yz.y ?_))
                go_call (same_any q vz vy _ (MIs.least HAL8.out.yz.zi (Nat.zero_le _)) (XIs.least HAL8.out.yz.yi (Nat.zero_le _)) HFEW.out) as e w2 ⟨rfl, hb2⟩
                have HAL9 : Hid _ := HAL8.out.below hb2
                clear hb2 HAL8
                go_wp2_with (first | (refine ld72g (by rfl) _ rfl _ _ (Ro.arr_size _ _) rfl HAL9.out.lot.p ?_) | (refine ld72p _ rfl _ _ (Ro.arr_size _ _) rfl HAL9.out.lot.p ?_) | (refine ld69g (by rfl) _ rfl _ _ (Ro.arr_size _ _) rfl HAL9.out.lot.x ?_) | (refine ld69p _ rfl _ _ (Ro.arr_size _ _) rfl HAL9.out.lot.x ?_))
                go_call (same_any r vr vx _ (MIs.least HAL9.out.lot.mi (Nat.zero_le _)) (XIs.least HAL9.out.lot.xi (Nat.zero_le _)) (by have := HOK.out.few; omega)) as e w3 ⟨rfl, hb3⟩
                have HALX : Hid _ := HAL9.out.below hb3
                clear hb3 HAL9
                go_wp2
                exact HQX.out _ _ (HEND.out _ _ _ _ _ _ _ _ _ _ _ _ _ _ _ _ _ _ _ _ _ _ _ _ _ _ _ _ _ _ _ _ _ _ _ _ _ _ _ _ _ _ _ _ _ _ _ _ _ _ _ _ _ _ _ _ _ _ _ _ _ _ _ _ _ _ _ _ _ _ _ _ _ _ _ _ _ _ _ _ _ _ _ _ _ _ _ _ _ _ _ _ _ _ _ _ _ _ _ _ _ _ _ _ _ _ _ _ _ _ _ _ _ _ _ _ _ _ _ _ _ _ _ _ _ _ _ _ _ _ _ _ _ _ _ _ _ _ _ _ _ _ _ _ _ _ _ _ _ _ _ _ _ _ _ ⟨r, vx, vr, js, HALX.out.lot, HOK.out, by omega, by omega, by omega, by omega, HJS.out, by omega⟩)
            clear hK15
            have a0 := cell_of HAL.out.a 0
            simp at a0
            by_cases k1 : kk = 1
            · subst k1
              obtain ⟨q, kz, hp, hq⟩ := drain_pair r HOK.out t (by omega)
              have HPR : Hid _ := hp
              have HQQ : Hid _ := hq
              clear hp hq
              go_wp2_with (first | (refine ld69 rfl _ rfl _ _ (Ro.arr_size _ _) rfl HAL.out.lot.x ?c1A) | (refine ld69p _ rfl _ _ (Ro.arr_size _ _) rfl HAL.out.lot.x ?c1A))
              go_wp2_with fail
              go_call (HPR.out.doc vx W (XIs.least HAL.out.lot.xi (Nat.zero_le _))) as e w2 ⟨vy, rfl, hxy, hb2⟩
              have HAL2 : Hid _ := HAL.out.below hb2
              have HXY : Hid _ := hxy
              have HTB : Hid (T ≤ W.heap.size) := HAL.out.lot.ts
              clear hb2 hxy
              unfold Ro.val
              go_wp2_with (first | (refine dst5 rfl _ _ rfl _ _ (Ro.arr_size _ _) rfl rfl (Ro.arr_size _ _) HAL2.out.yz.y (arr_one _ HXY.out) ?c1B) | (refine dst5p _ _ rfl _ _ (Ro.arr_size _ _) rfl rfl (Ro.arr_size _ _) HAL2.out.yz.y (arr_one _ HXY.out) ?c1B))
              intro w3 ho3 hk3
              have HH3 : Hid _ := HAL2.out.half HTB.out HXY.out ho3 hk3
              clear ho3 hk3
              go_wp2_with (first | (refine ld72 rfl _ rfl _ _ (Ro.arr_size _ _) rfl HH3.out.lot.p ?c1C) | (refine ld72p _ rfl _ _ (Ro.arr_size _ _) rfl HH3.out.lot.p ?c1C))
              go_wp2_with fail
              go_call (HPR.out.prog vr w3 (MIs.least HH3.out.lot.mi (Nat.zero_le _))) as e w4 ⟨vz, rfl, hmz, hb4⟩
              have HH4 : Hid _ := HH3.out.below hb4
              have HMZ : Hid _ := hmz
              have HTB4 : Hid (T ≤ w3.heap.size) := HH3.out.lot.ts
              clear hb4 hmz
              unfold Ro.val
              obtain ⟨cz, z1, z2⟩ := HH4.out.z
              have Z1 : Hid _ := z1
              have Z2 : Hid _ := z2
              clear z1 z2
              go_wp2_with (first | (refine rst5 rfl _ _ rfl _ _ (Ro.arr_size _ _) rfl rfl Z2.out Z1.out (arr_one _ HMZ.out) ?c1D) | (refine rst5p _ _ rfl _ _ (Ro.arr_size _ _) rfl rfl Z2.out Z1.out (arr_one _ HMZ.out) ?c1D))
              intro w5 ho5 hk5
              have HAL5 : Hid _ := HH4.out.al HTB4.out HMZ.out ho5 hk5
              clear ho5 hk5
              go_wp2
              exact H28.out q kz vy vz w5 _ _ _ _ _ _ _ _ _ _ _ _ _ _ _ _ _ _ _ _ _ _ _ _ _ _ _ _ _ _ _ _ _ _ _ _ _ _ _ _ _ _ _ _ _ _ _ _ _ _ _ _ _ _ _ _ _ _ _ _ _ _ _ _ _ _ _ _ _ _ _ _ _ _ _ _ _ _ _ _ _ _ _ _ _ _ _ _ _ _ _ _ _ _ _ _ _ _ _ _ _ _ _ _ _ _ _ _ _ _ _ _ _ _ _ _ _ _ _ _ _ _ _ _ _ _ _ _ _ _ _ _ _ _ _ _ _ _ _ _ _ _ _ _ _ _ HAL5.out HPR.out.few (fun h0 => ⟨HQQ.out h0, fun h => absurd h (by decide)⟩)
            · by_cases k2 : kk = 2
              · subst k2
                obtain ⟨q, kz, hp, hq⟩ := remove_pair r HOK.out t (by omega)
                have HPR : Hid _ := hp
                have HQQ : Hid _ := hq
                clear hp hq
                go_wp2_with (first | (refine ld69 rfl _ rfl _ _ (Ro.arr_size _ _) rfl HAL.out.lot.x ?c2A) | (refine ld69p _ rfl _ _ (Ro.arr_size _ _) rfl HAL.out.lot.x ?c2A))
                go_wp2_with fail
                go_call (HPR.out.doc vx W (XIs.least HAL.out.lot.xi (Nat.zero_le _))) as e w2 ⟨vy, rfl, hxy, hb2⟩
                have HAL2 : Hid _ := HAL.out.below hb2
                have HXY : Hid _ := hxy
                have HTB : Hid (T ≤ W.heap.size) := HAL.out.lot.ts
                clear hb2 hxy
                unfold Ro.val
                go_wp2_with (first | (refine dst5 rfl _ _ rfl _ _ (Ro.arr_size _ _) rfl rfl (Ro.arr_size _ _) HAL2.out.yz.y (arr_one _ HXY.out) ?c2B) | (refine dst5p _ _ rfl _ _ (Ro.arr_size _ _) rfl rfl (Ro.arr_size _ _) HAL2.out.yz.y (arr_one _ HXY.out) ?c2B))
                intro w3 ho3 hk3
                have HH3 : Hid _ := HAL2.out.half HTB.out HXY.out ho3 hk3
                clear ho3 hk3
                go_wp2_with (first | (refine ld72 rfl _ rfl _ _ (Ro.arr_size _ _) rfl HH3.out.lot.p ?c2C) | (refine ld72p _ rfl _ _ (Ro.arr_size _ _) rfl HH3.out.lot.p ?c2C))
                go_wp2_with fail
                go_call (HPR.out.prog vr w3 (MIs.least HH3.out.lot.mi (Nat.zero_le _))) as e w4 ⟨vz, rfl, hmz, hb4⟩
                have HH4 : Hid _ := HH3.out.below hb4
                have HMZ : Hid _ := hmz
                have HTB4 : Hid (T ≤ w3.heap.size) := HH3.out.lot.ts
                clear hb4 hmz
                unfold Ro.val
                obtain ⟨cz, z1, z2⟩ := HH4.out.z
                have Z1 : Hid _ := z1
                have Z2 : Hid _ := z2
                clear z1 z2
                go_wp2_with (first | (refine rst5 rfl _ _ rfl _ _ (Ro.arr_size _ _) rfl rfl Z2.out Z1.out (arr_one _ HMZ.out) ?c2D) | (refine rst5p _ _ rfl _ _ (Ro.arr_size _ _) rfl rfl Z2.out Z1.out (arr_one _ HMZ.out) ?c2D))
                intro w5 ho5 hk5
                have HAL5 : Hid _ := HH4.out.al HTB4.out HMZ.out ho5 hk5
                clear ho5 hk5
                go_wp2
                exact H28.out q kz vy vz w5 _ _ _ _ _ _ _ _ _ _ _ _ _ _ _ _ _ _ _ _ _ _ _ _ _ _ _ _ _ _ _ _ _ _ _ _ _ _ _ _ _ _ _ _ _ _ _ _ _ _ _ _ _ _ _ _ _ _ _ _ _ _ _ _ _ _ _ _ _ _ _ _ _ _ _ _ _ _ _ _ _ _ _ _ _ _ _ _ _ _ _ _ _ _ _ _ _ _ _ _ _ _ _ _ _ _ _ _ _ _ _ _ _ _ _ _ _ _ _ _ _ _ _ _ _ _ _ _ _ _ _ _ _ _ _ _ _ _ _ _ _ _ _ _ _ _ HAL5.out HPR.out.few (fun h0 => ⟨HQQ.out h0, fun h => absurd h (by decide)⟩)
              · by_cases k3 : kk = 3
                · subst k3
                  go_wp2
                  refine O.wp_region_ph (fun f => ⟨#[.slice (some ⟨KA, oA, none⟩) an acap, undef, u2, .pointer (some ⟨w1.heap.size, 0, none⟩), .pointer (some ⟨w1.heap.size + 1, 0, none⟩), u5, .int .i64 (k : Int), .pointer (some ⟨B7, 0, none⟩), .int .i64 t, .pointer (some ⟨B9, 0, none⟩), .pointer (some ⟨B10, 0, none⟩), .int .i64 0, .int .i64 0, x13, x14, undef, x16, .bool true, .bool false, .agg #[.int .u64 1, .int .u64 0, .int .u64 0, .int .u64 0, .slice none 0 0], .agg #[.int .u64 1, .int .u64 0, .int .u64 0, .int .u64 0, .slice none 0 0], x21, x22, x23, x24, x25, x26, x27, x28, x29, x30, x31, x32, x33, x34, x35, x36, x37, x38, x39, x40, x41, x42, x43, x44, .agg (r.arr vx), .agg (r.arr vr), .pointer (some ⟨B7, 0, none⟩), .int .i64 3, x49, x50, x51, x52, x53, x54, x55, x56, x57, x58, x59, x60, .bool false, .bool false, x63, x64, x65, x66, x67, x68, x69, x70, x71, x72, x73, x74, .bool false, .bool false, x77, x78, x79, x80, x81, x82, x83, x84, x85, x86, x87, x88, .bool true, .bool true, f 0, f 1, f 2, f 3, x95, x96, x97, x98, x99, x100, x101, x102, x103, x104, x105, x106, x107, x108, x109, x110, x111, x112, x113, x114, x115, x116, x117, x118, x119, x120, x121, x122, x123, x124, x125, x126, x127, x128, x129, x130, x131, x132, x133, x134, x135, x136, x137, x138, x139, x140, x141, x142, x143, x144, x145, x146, x147, x148, x149, x150, x151, x152, x153, x154, x155, x156, x157, x158, x159, x160, x161, x162, x163], []⟩) (PV25 r vx vr) (P25 T w w1.heap.size (w1.heap.size + 1) r vx vr u5 js B7 #[.int .i64 3, .int .i64 ss] B9 B10 r.extend) (fun i => [x91, x92, x93, x94, undef, undef].getD i undef) (by kernel_rfl) rfl rfl ?hIc ?hputc ?stepc ?finc
                  case hIc => exact ⟨HAL.out.lot.below (Below.refl _ _).drew, HAL.out.a, HAL.out.yz.t9, HAL.out.yz.t10, HAL.out.yz.n9, HAL.out.yz.n10, (fun e => by cases e), (fun e => by cases e), ⟨_, HAL.out.yz.y, Ro.arr_size _ _, (fun e => by cases e)⟩, ⟨_, HAL.out.yz.z, Ro.arr_size _ _, (fun e => by cases e)⟩, (fun e => by cases e), (fun e => by cases e)⟩
                  case finc =>
                    intro f W2 hP hV
                    clear hV
                    obtain ⟨vy, vz, hAl⟩ := hP.al
                    have HAL5 : Hid _ := hAl
                    clear hP hAl
                    generalize f 0 = y0
                    generalize f 1 = y1
                    generalize f 2 = y2
                    generalize f 3 = y3
                    clear f
                    go_wp2
                    exact H28.out _ 0 vy vz W2 _ _ _ _ _ _ _ _ _ _ _ _ _ _ _ _ _ _ _ _ _ _ _ _ _ _ _ _ _ _ _ _ _ _ _ _ _ _ _ _ _ _ _ _ _ _ _ _ _ _ _ _ _ _ _ _ _ _ _ _ _ _ _ _ _ _ _ _ _ _ _ _ _ _ _ _ _ _ _ _ _ _ _ _ _ _ _ _ _ _ _ _ _ _ _ _ _ _ _ _ _ _ _ _ _ _ _ _ _ _ _ _ _ _ _ _ _ _ _ _ _ _ _ _ _ _ _ _ _ _ _ _ _ _ _ _ _ _ _ _ _ _ _ _ _ _ HAL5.out (by have := HOK.out.few; show r.ms.length ≤ 1000; omega) (fun _ => ⟨⟨HOK.out.extend, Nat.le_succ _, rfl, Nat.le_refl _, Nat.le_refl _, Nat.le_succ _⟩, fun h => absurd h (by decide)⟩)
                  case hputc =>
                    repeat (refine ⟨fun f v => rfl, ?_⟩)
                    trivial
                  case stepc =>
                    refine ⟨?_, ?_⟩
                    · intro done f W hP hdn hd K hK
                      clear hd
                      rw [if_pos (by rfl)]
                      refine ld69p _ rfl _ _ (Ro.arr_size _ _) rfl hP.lot.x ?_
                      exact hK _ _ rfl (hP.pure _ (by decide) _)
                    refine ⟨?_, ?_⟩
                    · intro done f W hP hdn hd K hK
                      have d0 := (hd.1 rfl).2
                      have e0 : done 0 = true := (hd.1 rfl).1
                      clear hd
                      replace d0 : f 0 = .agg (r.arr vx) := d0
                      generalize f 0 = x0 at *
                      subst d0
                      clear e0
                      have hdn1 : done 1 = false := hdn
                      go_simp
                      refine (xextend_any r vx W (XIs.least hP.lot.xi (Nat.zero_le _)) (by have := HOK.out.few; omega) (by omega) (by omega)).mono ?_
                      rintro e W' ⟨vy, rfl, hx, hb⟩
                      exact hK _ _ trivial (hP.k1 hdn1 hx hb)
                    refine ⟨?_, ?_⟩
                    · intro done f W hP hdn hd K hK
                      clear hd
                      rw [if_pos (by rfl)]
                      refine ld72p _ rfl _ _ (Ro.arr_size _ _) rfl hP.lot.p ?_
                      exact hK _ _ rfl (hP.pure _ (by decide) _)
                    refine ⟨?_, ?_⟩
                    · intro done f W hP hdn hd K hK
                      have d2 := (hd.1 rfl).2
                      have e2 : done 2 = true := (hd.1 rfl).1
                      clear hd
                      replace d2 : f 2 = .agg (r.arr vr) := d2
                      generalize f 2 = x2 at *
                      subst d2
                      clear e2
                      have hdn3 : done 3 = false := hdn
                      go_simp
                      refine (extend_any r vr W (MIs.least hP.lot.mi (Nat.zero_le _)) (by have := HOK.out.few; omega) (by omega) (by omega)).mono ?_
                      rintro e W' ⟨vz, rfl, hx, hb⟩
                      exact hK _ _ trivial (hP.k3 hdn3 hx hb)
                    refine ⟨?_, ?_⟩
                    · intro done f W hP hdn hd K hK
                      have d1 := (hd.1 rfl).2
                      have e1 : done 1 = true := (hd.1 rfl).1
                      clear hd
                      obtain ⟨vy, f1, hxi⟩ := hP.c1 e1
                      obtain ⟨cy, y1, y2, y3⟩ := hP.y
                      rw [if_pos (by rfl)]
                      refine dst5p _ _ rfl B9 _ (Ro.arr_size _ _) rfl (by exact f1) y2 y1 (arr_one _ hxi) ?_
                      intro W' ho hk
                      exact hK _ _ trivial (hP.sy e1 f1 ho hk _)
                    refine ⟨?_, ?_⟩
                    · intro done f W hP hdn hd K hK
                      have d3 := (hd.1 rfl).2
                      have e3 : done 3 = true := (hd.1 rfl).1
                      clear hd
                      obtain ⟨vz, f3, hmi⟩ := hP.c3 e3
                      obtain ⟨cz, z1, z2, z3⟩ := hP.z
                      rw [if_pos (by rfl)]
                      refine rst5p _ _ rfl B10 _ (Ro.arr_size _ _) rfl (by exact f3) z2 z1 (arr_one _ hmi) ?_
                      intro W' ho hk
                      exact hK _ _ trivial (hP.sz e3 f3 ho hk _)
                    trivial
                · by_cases k4 : kk = 4
                  · subst k4
                    go_wp2
                    refine O.wp_region_ph (fun f => ⟨#[.slice (some ⟨KA, oA, none⟩) an acap, undef, u2, .pointer (some ⟨w1.heap.size, 0, none⟩), .pointer (some ⟨w1.heap.size + 1, 0, none⟩), u5, .int .i64 (k : Int), .pointer (some ⟨B7, 0, none⟩), .int .i64 t, .pointer (some ⟨B9, 0, none⟩), .pointer (some ⟨B10, 0, none⟩), .int .i64 0, .int .i64 0, x13, x14, undef, x16, .bool true, .bool false, .agg #[.int .u64 1, .int .u64 0, .int .u64 0, .int .u64 0, .slice none 0 0], .agg #[.int .u64 1, .int .u64 0, .int .u64 0, .int .u64 0, .slice none 0 0], x21, x22, x23, x24, x25, x26, x27, x28, x29, x30, x31, x32, x33, x34, x35, x36, x37, x38, x39, x40, x41, x42, x43, x44, .agg (r.arr vx), .agg (r.arr vr), .pointer (some ⟨B7, 0, none⟩), .int .i64 4, x49, x50, x51, x52, x53, x54, x55, x56, x57, x58, x59, x60, .bool false, .bool false, x63, x64, x65, x66, x67, x68, x69, x70, x71, x72, x73, x74, .bool false, .bool false, x77, x78, x79, x80, x81, x82, x83, x84, x85, x86, x87, x88, .bool false, .bool false, x91, x92, x93, x94, .bool true, .bool true, f 0, f 1, f 2, f 3, x101, x102, x103, x104, x105, x106, x107, x108, x109, x110, x111, x112, x113, x114, x115, x116, x117, x118, x119, x120, x121, x122, x123, x124, x125, x126, x127, x128, x129, x130, x131, x132, x133, x134, x135, x136, x137, x138, x139, x140, x141, x142, x143, x144, x145, x146, x147, x148, x149, x150, x151, x152, x153, x154, x155, x156, x157, x158, x159, x160, x161, x162, x163], []⟩) (PV25 r vx vr) (P25 T w w1.heap.size (w1.heap.size + 1) r vx vr u5 js B7 #[.int .i64 4, .int .i64 ss] B9 B10 r.fresh) (fun i => [x97, x98, x99, x100, undef, undef].getD i undef) (by kernel_rfl) rfl rfl ?hId ?hputd ?stepd ?find
                    case hId => exact ⟨HAL.out.lot.below (Below.refl _ _).drew, HAL.out.a, HAL.out.yz.t9, HAL.out.yz.t10, HAL.out.yz.n9, HAL.out.yz.n10, (fun e => by cases e), (fun e => by cases e), ⟨_, HAL.out.yz.y, Ro.arr_size _ _, (fun e => by cases e)⟩, ⟨_, HAL.out.yz.z, Ro.arr_size _ _, (fun e => by cases e)⟩, (fun e => by cases e), (fun e => by cases e)⟩
                    case find =>
                      intro f W2 hP hV
                      clear hV
                      obtain ⟨vy, vz, hAl⟩ := hP.al
                      have HAL5 : Hid _ := hAl
                      clear hP hAl
                      generalize f 0 = y0
                      generalize f 1 = y1
                      generalize f 2 = y2
                      generalize f 3 = y3
                      clear f
                      go_wp2
                      exact H28.out _ 0 vy vz W2 _ _ _ _ _ _ _ _ _ _ _ _ _ _ _ _ _ _ _ _ _ _ _ _ _ _ _ _ _ _ _ _ _ _ _ _ _ _ _ _ _ _ _ _ _ _ _ _ _ _ _ _ _ _ _ _ _ _ _ _ _ _ _ _ _ _ _ _ _ _ _ _ _ _ _ _ _ _ _ _ _ _ _ _ _ _ _ _ _ _ _ _ _ _ _ _ _ _ _ _ _ _ _ _ _ _ _ _ _ _ _ _ _ _ _ _ _ _ _ _ _ _ _ _ _ _ _ _ _ _ _ _ _ _ _ _ _ _ _ _ _ _ _ _ _ _ HAL5.out (Nat.zero_le _) (fun _ => ⟨⟨Ro.Ok.fresh, Nat.le_refl _, rfl, Nat.le_add_right _ _, Nat.le_refl _, Nat.le_succ _⟩, fun h => absurd h (by decide)⟩)
                    case hputd =>
                      repeat (refine ⟨fun f v => rfl, ?_⟩)
                      trivial
                    case stepd =>
                      refine ⟨?_, ?_⟩
                      · intro done f W hP hdn hd K hK
                        clear hd
                        rw [if_pos (by rfl)]
                        refine ld69p _ rfl _ _ (Ro.arr_size _ _) rfl hP.lot.x ?_
                        exact hK _ _ rfl (hP.pure _ (by decide) _)
                      refine ⟨?_, ?_⟩
                      · intro done f W hP hdn hd K hK
                        have d0 := (hd.1 rfl).2
                        have e0 : done 0 = true := (hd.1 rfl).1
                        clear hd
                        replace d0 : f 0 = .agg (r.arr vx) := d0
                        generalize f 0 = x0 at *
                        subst d0
                        clear e0
                        have hdn1 : done 1 = false := hdn
                        go_simp
                        refine (xfresh_any r vx W (XIs.least hP.lot.xi (Nat.zero_le _)) (by have := HOK.out.few; omega) (by omega) (by omega)).mono ?_
                        rintro e W' ⟨rfl, hb⟩
                        exact hK _ _ trivial (hP.k1 hdn1 (vy := .slice none 0 0) (World.ownsRow_nil _ _ _ _) hb)
                      refine ⟨?_, ?_⟩
                      · intro done f W hP hdn hd K hK
                        clear hd
                        rw [if_pos (by rfl)]
                        refine ld72p _ rfl _ _ (Ro.arr_size _ _) rfl hP.lot.p ?_
                        exact hK _ _ rfl (hP.pure _ (by decide) _)
                      refine ⟨?_, ?_⟩
                      · intro done f W hP hdn hd K hK
                        have d2 := (hd.1 rfl).2
                        have e2 : done 2 = true := (hd.1 rfl).1
                        clear hd
                        replace d2 : f 2 = .agg (r.arr vr) := d2
                        generalize f 2 = x2 at *
                        subst d2
                        clear e2
                        have hdn3 : done 3 = false := hdn
                        go_simp
                        refine (fresh_any r vr W (MIs.least hP.lot.mi (Nat.zero_le _)) (by have := HOK.out.few; omega) (by omega) (by omega)).mono ?_
                        rintro e W' ⟨rfl, hb⟩
                        exact hK _ _ trivial (hP.k3 hdn3 (vz := .slice none 0 0) (World.ownsRow_nil _ _ _ _) hb)
                      refine ⟨?_, ?_⟩
                      · intro done f W hP hdn hd K hK
                        have d1 := (hd.1 rfl).2
                        have e1 : done 1 = true := (hd.1 rfl).1
                        clear hd
                        obtain ⟨vy, f1, hxi⟩ := hP.c1 e1
                        obtain ⟨cy, y1, y2, y3⟩ := hP.y
                        rw [if_pos (by rfl)]
                        refine dst5p _ _ rfl B9 _ (Ro.arr_size _ _) rfl (by exact f1) y2 y1 (arr_one _ hxi) ?_
                        intro W' ho hk
                        exact hK _ _ trivial (hP.sy e1 f1 ho hk _)
                      refine ⟨?_, ?_⟩
                      · intro done f W hP hdn hd K hK
                        have d3 := (hd.1 rfl).2
                        have e3 : done 3 = true := (hd.1 rfl).1
                        clear hd
                        obtain ⟨vz, f3, hmi⟩ := hP.c3 e3
                        obtain ⟨cz, z1, z2, z3⟩ := hP.z
                        rw [if_pos (by rfl)]
                        refine rst5p _ _ rfl B10 _ (Ro.arr_size _ _) rfl (by exact f3) z2 z1 (arr_one _ hmi) ?_
                        intro W' ho hk
                        exact hK _ _ trivial (hP.sz e3 f3 ho hk _)
                      trivial
                  · have HKN : Hid (¬ kk = 1 ∧ ¬ kk = 2) := ⟨k1, k2⟩
                    obtain ⟨q, kz, hp, hq⟩ := add_pair r HOK.out t (by omega) (by omega)
                    have HPR : Hid _ := hp
                    have HQQ : Hid _ := hq
                    clear hp hq
                    go_wp2_with (first | (refine ld69 rfl _ rfl _ _ (Ro.arr_size _ _) rfl HAL.out.lot.x ?c5A) | (refine ld69p _ rfl _ _ (Ro.arr_size _ _) rfl HAL.out.lot.x ?c5A))
                    go_wp2_with fail
                    go_call (HPR.out.doc vx W (XIs.least HAL.out.lot.xi (Nat.zero_le _))) as e w2 ⟨vy, rfl, hxy, hb2⟩
                    have HAL2 : Hid _ := HAL.out.below hb2
                    have HXY : Hid _ := hxy
                    have HTB : Hid (T ≤ W.heap.size) := HAL.out.lot.ts
                    clear hb2 hxy
                    unfold Ro.val
                    go_wp2_with (first | (refine dst5 rfl _ _ rfl _ _ (Ro.arr_size _ _) rfl rfl (Ro.arr_size _ _) HAL2.out.yz.y (arr_one _ HXY.out) ?c5B) | (refine dst5p _ _ rfl _ _ (Ro.arr_size _ _) rfl rfl (Ro.arr_size _ _) HAL2.out.yz.y (arr_one _ HXY.out) ?c5B))
                    intro w3 ho3 hk3
                    have HH3 : Hid _ := HAL2.out.half HTB.out HXY.out ho3 hk3
                    clear ho3 hk3
                    go_wp2_with (first | (refine ld72 rfl _ rfl _ _ (Ro.arr_size _ _) rfl HH3.out.lot.p ?c5C) | (refine ld72p _ rfl _ _ (Ro.arr_size _ _) rfl HH3.out.lot.p ?c5C))
                    go_wp2_with fail
                    go_call (HPR.out.prog vr w3 (MIs.least HH3.out.lot.mi (Nat.zero_le _))) as e w4 ⟨vz, rfl, hmz, hb4⟩
                    have HH4 : Hid _ := HH3.out.below hb4
                    have HMZ : Hid _ := hmz
                    have HTB4 : Hid (T ≤ w3.heap.size) := HH3.out.lot.ts
                    clear hb4 hmz
                    unfold Ro.val
                    obtain ⟨cz, z1, z2⟩ := HH4.out.z
                    have Z1 : Hid _ := z1
                    have Z2 : Hid _ := z2
                    clear z1 z2
                    go_wp2_with (first | (refine rst5 rfl _ _ rfl _ _ (Ro.arr_size _ _) rfl rfl Z2.out Z1.out (arr_one _ HMZ.out) ?c5D) | (refine rst5p _ _ rfl _ _ (Ro.arr_size _ _) rfl rfl Z2.out Z1.out (arr_one _ HMZ.out) ?c5D))
                    intro w5 ho5 hk5
                    have HAL5 : Hid _ := HH4.out.al HTB4.out HMZ.out ho5 hk5
                    clear ho5 hk5
                    go_wp2
                    exact H28.out q kz vy vz w5 _ _ _ _ _ _ _ _ _ _ _ _ _ _ _ _ _ _ _ _ _ _ _ _ _ _ _ _ _ _ _ _ _ _ _ _ _ _ _ _ _ _ _ _ _ _ _ _ _ _ _ _ _ _ _ _ _ _ _ _ _ _ _ _ _ _ _ _ _ _ _ _ _ _ _ _ _ _ _ _ _ _ _ _ _ _ _ _ _ _ _ _ _ _ _ _ _ _ _ _ _ _ _ _ _ _ _ _ _ _ _ _ _ _ _ _ _ _ _ _ _ _ _ _ _ _ _ _ _ _ _ _ _ _ _ _ _ _ _ _ _ _ _ _ _ _ HAL5.out HPR.out.few (fun h0 => ⟨(HQQ.out h0).1, fun _ => (HQQ.out h0).2⟩)
          case hput13 =>
            repeat (refine ⟨fun f v => rfl, ?_⟩)
            trivial
          case step13 =>
            refine ⟨?_, ?_⟩
            · intro done f W hP hdn hd K hK
              clear hd
              rw [if_pos (by rfl)]
              refine ld69p _ rfl _ _ (Ro.arr_size _ _) rfl hP.lot.x ?_
              exact hK _ _ rfl (hP.pure _ (by decide) _)
            refine ⟨?_, ?_⟩
            · intro done f W hP hdn hd K hK
              clear hd
              rw [if_pos (by rfl)]
              refine ld72p _ rfl _ _ (Ro.arr_size _ _) rfl hP.lot.p ?_
              exact hK _ _ rfl (hP.pure _ (by decide) _)
            refine ⟨?_, ?_⟩
            · intro done f W hP hdn hd K hK
              clear hd
              have hdn2 : done 2 = false := hdn
              go_simp
              exact hK _ _ trivial (hP.ay hdn2 _ rfl)
            refine ⟨?_, ?_⟩
            · intro done f W hP hdn hd K hK
              clear hd
              have hdn3 : done 3 = false := hdn
              go_simp
              exact hK _ _ trivial (hP.az hdn3 _ rfl)
            refine ⟨?_, ?_⟩
            · intro done f W hP hdn hd K hK
              have d2 := (hd.1 rfl).2
              have e2 : done 2 = true := (hd.1 rfl).1
              have d0 := (hd.2.1 rfl).2
              have e0 : done 0 = true := (hd.2.1 rfl).1
              clear hd
              replace d0 : f 0 = .agg (r.arr vx) := d0
              obtain ⟨B, c, a1, a2, a3, a4, a5⟩ := hP.y e2
              rw [if_pos (by rfl)]
              refine dst5p _ _ rfl B (r.arr vx) (Ro.arr_size _ _) (by exact a1) (by exact d0) a4 a3 (arr_one r hP.lot.xi) ?_
              intro W' ho hk
              exact hK _ _ trivial (hP.sy e2 a1 a2 a3 ho hk _)
            refine ⟨?_, ?_⟩
            · intro done f W hP hdn hd K hK
              have d3 := (hd.1 rfl).2
              have e3 : done 3 = true := (hd.1 rfl).1
              have d1 := (hd.2.1 rfl).2
              have e1 : done 1 = true := (hd.2.1 rfl).1
              clear hd
              replace d1 : f 1 = .agg (r.arr vr) := d1
              obtain ⟨B, c, a1, a2, a3, a4, a5⟩ := hP.z e3
              rw [if_pos (by rfl)]
              refine rst5p _ _ rfl B (r.arr vr) (Ro.arr_size _ _) (by exact a1) (by exact d1) a4 a3 (arr_one r hP.lot.mi) ?_
              intro W' ho hk
              exact hK _ _ trivial (hP.sz e3 a1 a2 a3 ho hk _)
            trivial
        clear hK11
        rcases Int.lt_or_le 2000 ss with h1 | h1
        · go_wp2
          exact H13.out _ _ _ _ _ _ _ _ _ _ _ _ _ _ _ _ _ _ _ _ _ _ _ _ _ _ _ _ _ _ _ _ _ _ _ _ _ _ _ _ _ _ _ _ _ _ _ _ _ _ _ _ _ _ _ _ _ _ _ _ _ _ _ _ _ _ _ _ _ _ _ _ _ _ _ _ _ _ _ _ _ _ _ _ _ _ _ _ _ _ _ _ _ _ _ _ _ _ _ _ _ _ _ _ _ _ _ _ _ _ _ _ _ _ _ _ _ _ _ _ _ _ _ _ _ _ _ _ _ _ _ _ _ _ _ _ _ _ _ _ _ _ _ _ _ _ _ _ _ _ _
        · rcases Int.lt_or_le ss (-2000) with h2 | h2
          · go_wp2
            exact H13.out _ _ _ _ _ _ _ _ _ _ _ _ _ _ _ _ _ _ _ _ _ _ _ _ _ _ _ _ _ _ _ _ _ _ _ _ _ _ _ _ _ _ _ _ _ _ _ _ _ _ _ _ _ _ _ _ _ _ _ _ _ _ _ _ _ _ _ _ _ _ _ _ _ _ _ _ _ _ _ _ _ _ _ _ _ _ _ _ _ _ _ _ _ _ _ _ _ _ _ _ _ _ _ _ _ _ _ _ _ _ _ _ _ _ _ _ _ _ _ _ _ _ _ _ _ _ _ _ _ _ _ _ _ _ _ _ _ _ _ _ _ _ _ _ _ _ _ _ _ _ _
          · go_wp2
            exact H13.out _ _ _ _ _ _ _ _ _ _ _ _ _ _ _ _ _ _ _ _ _ _ _ _ _ _ _ _ _ _ _ _ _ _ _ _ _ _ _ _ _ _ _ _ _ _ _ _ _ _ _ _ _ _ _ _ _ _ _ _ _ _ _ _ _ _ _ _ _ _ _ _ _ _ _ _ _ _ _ _ _ _ _ _ _ _ _ _ _ _ _ _ _ _ _ _ _ _ _ _ _ _ _ _ _ _ _ _ _ _ _ _ _ _ _ _ _ _ _ _ _ _ _ _ _ _ _ _ _ _ _ _ _ _ _ _ _ _ _ _ _ _ _ _ _ _ _ _ _ _ _
      · obtain rfl : k = 60 := by omega
        obtain ⟨r, vx, vr, js, hl, _⟩ := HI.out
        have HB : Hid _ := hl.bel
        clear HI hl
        go_wp2
        go_returns
        exact ⟨rfl, by rw [← HT.out]; exact HB.out⟩
    · obtain rfl : k = an := by omega
      obtain ⟨r, vx, vr, js, hl, _⟩ := HI.out
      have HB : Hid _ := hl.bel
      clear HI hl
      go_wp2
      go_returns
      exact ⟨rfl, by rw [← HT.out]; exact HB.out⟩
end Go.Proofs.Ytknmipbjkkeebaa
