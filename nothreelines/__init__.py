"""No three in a line: points of numbers modulo 3."""
