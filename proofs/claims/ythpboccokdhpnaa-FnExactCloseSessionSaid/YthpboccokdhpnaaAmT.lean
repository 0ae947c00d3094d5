/-
  The types of this program, as they are read.
-/
import Derived.Test.YthpboccokdhpnaaAmC
import Derived.Test.YthpboccokdhpnaaProg
namespace Go.Proofs.Ythpboccokdhpnaa
open Go.Am
abbrev tt : Tab := [(2, ⟨1, 8, [.int .i64 0], .word, some .i64, []⟩),
  (3, ⟨1, 8, [.int .i64 0], .word, some .i64, []⟩),
  (4, ⟨1, 1, [.bool false], .bool, none, []⟩),
  (5, ⟨1, 1, [.int .u8 0], .word, some .u8, []⟩),
  (9, ⟨1, 16, [.string ⟨#[]⟩], .str, none, []⟩),
  (12, ⟨1, 8, [.int .u64 0], .word, some .u64, []⟩),
  (20, ⟨1, 16, [.nilIface], .iface, none, []⟩),
  (21, ⟨1, 4, [.int .i32 0], .word, some .i32, []⟩),
  (22, ⟨1, 24, [.slice none 0 0], .slice 72, none, []⟩),
  (23, ⟨2, 32, [.slice none 0 0, .int .i64 0], .struct [(0, 1, false), (1, 1, false)], none, []⟩),
  (24, ⟨2, 32, [.slice none 0 0, .int .i64 0], .struct [(0, 1, false), (1, 1, false)], none, []⟩),
  (27, ⟨1, 24, [.slice none 0 0], .slice 54, none, []⟩),
  (28, ⟨2, 32, [.slice none 0 0, .int .i64 0], .struct [(0, 1, false), (1, 1, false)], none, []⟩),
  (29, ⟨2, 32, [.slice none 0 0, .int .i64 0], .struct [(0, 1, false), (1, 1, false)], none, []⟩),
  (33, ⟨1, 24, [.slice none 0 0], .slice 9, none, []⟩),
  (34, ⟨1, 24, [.slice none 0 0], .slice 82, none, []⟩),
  (35, ⟨5, 88, [.int .i64 0, .slice none 0 0, .slice none 0 0, .slice none 0 0, .int .i64 0], .struct [(0, 1, false), (1, 1, false), (2, 1, false), (3, 2, true)], none, []⟩),
  (36, ⟨5, 88, [.int .i64 0, .slice none 0 0, .slice none 0 0, .slice none 0 0, .int .i64 0], .struct [(0, 1, false), (1, 1, false), (2, 1, false), (3, 2, true)], none, []⟩),
  (43, ⟨3, 48, [.int .i64 0, .slice none 0 0, .string ⟨#[]⟩], .struct [(0, 1, false), (1, 1, false), (2, 1, false)], none, []⟩),
  (44, ⟨3, 48, [.int .i64 0, .slice none 0 0, .string ⟨#[]⟩], .struct [(0, 1, false), (1, 1, false), (2, 1, false)], none, []⟩),
  (51, ⟨1, 8, [.pointer none], .word, none, []⟩),
  (53, ⟨4, 48, [.string ⟨#[]⟩, .int .i64 0, .string ⟨#[]⟩, .int .i64 0], .struct [(0, 1, false), (1, 1, false), (2, 1, false), (3, 1, false)], none, [.str, .int .i64, .str, .int .i64]⟩),
  (54, ⟨4, 48, [.string ⟨#[]⟩, .int .i64 0, .string ⟨#[]⟩, .int .i64 0], .struct [(0, 1, false), (1, 1, false), (2, 1, false), (3, 1, false)], none, [.str, .int .i64, .str, .int .i64]⟩),
  (72, ⟨4, 48, [.string ⟨#[]⟩, .int .i64 0, .string ⟨#[]⟩, .int .i64 0], .struct [(0, 1, false), (1, 1, false), (2, 1, false), (3, 1, false)], none, [.str, .int .i64, .str, .int .i64]⟩),
  (81, ⟨7, 64, [.int .i64 0, .int .i64 0, .string ⟨#[]⟩, .int .i64 0, .int .i64 0, .int .i64 0, .int .i64 0], .struct [(0, 1, false), (1, 1, false), (2, 1, false), (3, 1, false), (4, 1, false), (5, 1, false), (6, 1, false)], none, [.int .i64, .int .i64, .str, .int .i64, .int .i64, .int .i64, .int .i64]⟩),
  (82, ⟨7, 64, [.int .i64 0, .int .i64 0, .string ⟨#[]⟩, .int .i64 0, .int .i64 0, .int .i64 0, .int .i64 0], .struct [(0, 1, false), (1, 1, false), (2, 1, false), (3, 1, false), (4, 1, false), (5, 1, false), (6, 1, false)], none, [.int .i64, .int .i64, .str, .int .i64, .int .i64, .int .i64, .int .i64]⟩),
  (85, ⟨1, 8, [.pointer none], .word, none, []⟩),
  (87, ⟨1, 24, [.slice none 0 0], .slice 5, none, []⟩),
  (92, ⟨1, 8, [.int .u64 0], .word, some .u64, []⟩),
  (93, ⟨1, 4, [.int .u32 0], .word, some .u32, []⟩),
  (105, ⟨1, 8, [.nilFunc], .word, none, []⟩),
  (106, ⟨1, 8, [.pointer none], .word, none, []⟩)]
theorem ttOk : TabOk Try.prog tt := tabOk (by kernel_rfl) (by kernel_rfl)
end Go.Proofs.Ythpboccokdhpnaa
